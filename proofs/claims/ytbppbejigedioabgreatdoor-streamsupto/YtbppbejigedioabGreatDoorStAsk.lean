/- Streams: what the laws ask of the program's. -/
import Derived.Test.YtbppbejigedioabGreatDoorLawT
import Derived.Test.YtbppbejigedioabGreatDoorStRef
namespace Go.Proofs.YtbppbejigedioabGreatDoor
open Go.RowKit

/-- A step that changes no old block but those of F. -/
structure Fram (F : Nat → Prop) (w w' : World) : Prop where
  os : w'.os = w.os
  tape : w'.tape = w.tape
  output : w'.output = w.output
  size : w.heap.size ≤ w'.heap.size
  block : ∀ k, k < w.heap.size → ¬ F k → w'.heap[k]? = w.heap[k]?
theorem Fram.of {F : Nat → Prop} {w w' : World} (h : Below w.heap.size w w') : Fram F w w' := ⟨h.os, h.tape, h.output, h.size, fun k hk _ => h.block k hk⟩
theorem Fram.ofGrown {F : Nat → Prop} {w w' : World} {row : Option Nat} (h : w.grownBy w' row) (hr : ∀ k, row = some k → F k) : Fram F w w' :=
  ⟨h.os, h.tape, h.output, h.size, fun k hk hF => h.block k hk (fun e => hF (hr k e.symm))⟩
theorem Fram.trans {F G : Nat → Prop} {a b c : World} (h : Fram F a b) (k : Fram G b c) (hG : ∀ j, G j → F j ∨ a.heap.size ≤ j) : Fram F a c :=
  ⟨k.os.trans h.os, k.tape.trans h.tape, k.output.trans h.output, Nat.le_trans h.size k.size, fun j hj hF => (k.block j (Nat.lt_of_lt_of_le hj h.size) (fun g => by rcases hG j g with h1 | h1; exact hF h1; omega)).trans (h.block j hj hF)⟩
theorem Fram.below {F : Nat → Prop} {w w' : World} {B : Nat} (h : Fram F w w') (hF : ∀ k, F k → B ≤ k) (hB : B ≤ w.heap.size) : Below B w w' :=
  ⟨h.os, h.tape, h.output, h.size, fun k hk => h.block k (by omega) (fun f => by have := hF k f; omega)⟩
theorem Fram.own {F : Nat → Prop} {w w' : World} {b size n : Nat} {e : TypeId} {v : Value} {xs : List Value} (h : Fram F w w') (ho : w.ownsRow b e size v n xs) (hF : ∀ k, v.ownBlock = some k → ¬ F k) : w'.ownsRow b e size v n xs :=
  own_same ho (fun k hk => h.block k (ho.lt k hk).2 (hF k hk))
theorem Fram.blk {F : Nat → Prop} {w w' : World} {b : Nat} {cs : List Value} {t : TypeId} (h : Fram F w w') (hB : Blk w b cs t) (hF : ¬ F b) : Blk w' b cs t := by
  have hl := hB.lt
  unfold Blk at hB ⊢
  rw [h.block b hl hF]
  exact hB

/-- What the program's calls lean on. -/
def Env (w : World) : Prop := Tabs w ∧ Tz w ∧ ErrT w ∧ 4 < w.heap.size
theorem Env.below {w w' : World} {B : Nat} (h : Env w) (hb : Below B w w') (hB : 4 < B) : Env w' :=
  ⟨⟨fun c hc => by rw [← h.1.1 c hc]; exact hb.cell (by show 1 < B; omega), fun i hi => ⟨by rw [← (h.1.2 i hi).1]; exact hb.cell (by show 2 < B; omega), by rw [← (h.1.2 i hi).2]; exact hb.cell (by show 2 < B; omega)⟩⟩, h.2.1.below hb hB, by have h3 := h.2.2.1; unfold ErrT at h3 ⊢; rw [← h3]; exact hb.cell (by show 0 < B; omega), by have := hb.size; have := h.2.2.2; omega⟩
theorem Env.cut {w : World} (h : Env w) (f t : ByteArray) (hf : f.size ≤ 9223372036854775807) (ht : t.size ≤ 1048576) :
    Calls Tryz.prog 11 #[.string f, .string t] w fun e w' => ToldVal (cutOut f.data.toList t.data.toList) (isGood f.data.toList) w e w' :=
  lcut_any f t w w hf ht h.1 h.2.2.2 h.2.2.1 h.2.1 (Below.refl _ _)
/-- A stream of the program's: PS world base block lines text foot. -/
abbrev PSt := World → Nat → Nat → List Cu.Ln → ByteArray → (Nat → Prop) → Prop
/-- What a call of the program's stream answers and leaves. -/
def PRes (PS : PSt) (out : List Nat) (base X : Nat) (lns : List Cu.Ln) (T : ByteArray) (F : Nat → Prop) (w : World) (e : Ending) (w' : World) : Prop :=
  ∃ (a : Option Addr) (cap : Nat) (F' : Nat → Prop), e = .returned (.slice a out.length cap) ∧ w'.ownsRow w.heap.size 3 1 (.slice a out.length cap) out.length (intCells out) ∧ PS w' base X lns T F' ∧
    (∀ k, F' k → F k ∨ w.heap.size ≤ k) ∧ (∀ k, (Value.slice a out.length cap).ownBlock = some k → ¬ F' k) ∧ Fram F w w'
/-- What is asked of how a stream of the program's lies in memory. -/
structure Firm (PS : PSt) : Prop where
  foot : ∀ {w : World} {base X : Nat} {l : List Cu.Ln} {T : ByteArray} {F : Nat → Prop}, PS w base X l T F → ∀ k, F k → base ≤ k ∧ k < w.heap.size
  frame : ∀ {w w' : World} {base X : Nat} {l : List Cu.Ln} {T : ByteArray} {F : Nat → Prop}, PS w base X l T F → (∀ k, F k → w'.heap[k]? = w.heap[k]?) → PS w' base X l T F
  two : ∀ {w : World} {base X : Nat} {l : List Cu.Ln} {T : ByteArray} {F : Nat → Prop}, PS w base X l T F → ∀ x ∈ l, x.right.length ≤ 2
/-- What is asked of the program's streams; N: how many bytes have come, all in all. -/
structure Streamy (PS : Nat → PSt) : Prop where
  firm : ∀ N, Firm (PS N)
  feed : ∀ {N : Nat} {w : World} {base X : Nat} {l : List Cu.Ln} {T : ByteArray} {F : Nat → Prop} (b : ByteArray), PS N w base X l T F → Env w → 4 < base → T.size + b.size ≤ 1048576 → N + b.size ≤ 2097160 → Calls Tryz.prog 16 #[.pointer (some ⟨X, 0, none⟩), .string b] w fun e w' => PRes (PS (N + b.size)) (Cu.feedP l (T ++ b).data.toList (Cu.told l T.data.toList).length) base X l (T ++ b) F w e w'
  fin : ∀ {N : Nat} {w : World} {base X : Nat} {l : List Cu.Ln} {T : ByteArray} {F : Nat → Prop}, PS N w base X l T F → Env w → 4 < base → T.size ≤ 1048576 → N ≤ 2097160 → Calls Tryz.prog 20 #[.pointer (some ⟨X, 0, none⟩)] w fun e w' => PRes (PS (N + 1)) (Cu.endP l T.data.toList (Cu.told l T.data.toList).length) base X l ⟨#[]⟩ F w e w'
theorem Firm.below {PS : PSt} (hS : Firm PS) {w w' : World} {base X : Nat} {l : List Cu.Ln} {T : ByteArray} {F : Nat → Prop} (h : PS w base X l T F) (hb : Below w.heap.size w w') : PS w' base X l T F :=
  hS.frame h (fun k hk => hb.block k (hS.foot h k hk).2)
theorem Firm.base {PS : PSt} (hS : Firm PS) {w w' : World} {base X : Nat} {l : List Cu.Ln} {T : ByteArray} {F : Nat → Prop} (h : PS w base X l T F) (hf : Fram F w w') (hb : base ≤ w.heap.size) : Below base w w' :=
  hf.below (fun k hk => (hS.foot h k hk).1) hb
theorem Streamy.foot {PS : Nat → PSt} (hS : Streamy PS) {N : Nat} {w : World} {base X : Nat} {l : List Cu.Ln} {T : ByteArray} {F : Nat → Prop} (h : PS N w base X l T F) : ∀ k, F k → base ≤ k ∧ k < w.heap.size := (hS.firm N).foot h
theorem Streamy.two {PS : Nat → PSt} (hS : Streamy PS) {N : Nat} {w : World} {base X : Nat} {l : List Cu.Ln} {T : ByteArray} {F : Nat → Prop} (h : PS N w base X l T F) : ∀ x ∈ l, x.right.length ≤ 2 := (hS.firm N).two h
theorem Streamy.below {PS : Nat → PSt} (hS : Streamy PS) {N : Nat} {w w' : World} {base X : Nat} {l : List Cu.Ln} {T : ByteArray} {F : Nat → Prop} (h : PS N w base X l T F) (hb : Below w.heap.size w w') : PS N w' base X l T F := (hS.firm N).below h hb
theorem Streamy.base {PS : Nat → PSt} (hS : Streamy PS) {N : Nat} {w w' : World} {b X : Nat} {l : List Cu.Ln} {T : ByteArray} {F : Nat → Prop} (h : PS N w b X l T F) (hf : Fram F w w') (hb : b ≤ w.heap.size) : Below b w w' := (hS.firm N).base h hf hb
/-- What the program's Open answers. -/
def POpen (PS : PSt) (f : ByteArray) (w : World) (e : Ending) (w' : World) : Prop :=
  ((Cu.check f.data.toList).1 ≠ 0 ∧ e = .returned (.tuple #[.pointer none, .int .i64 (Cu.check f.data.toList).1, .int .i64 (Cu.check f.data.toList).2]) ∧ Below w.heap.size w w') ∨
  ((Cu.check f.data.toList).1 = 0 ∧ ∃ (X : Nat) (F : Nat → Prop), e = .returned (.tuple #[.pointer (some ⟨X, 0, none⟩), .int .i64 0, .int .i64 0]) ∧ PS w' w.heap.size X (Cu.readGo f.data.toList 12 0 []).2.2 ⟨#[]⟩ F ∧ Below w.heap.size w w')
def Opens (PS : Nat → PSt) : Prop := ∀ (f : ByteArray) (w : World), f.size ≤ 9223372036854775807 → Env w → Calls Tryz.prog 10 #[.string f] w fun e w' => POpen (PS 0) f w e w'

theorem own_take {w : World} {base n m cap : Nat} {e : TypeId} {a : Option Addr} {xs : List Value} (h : w.ownsRow base e 1 (.slice a n cap) n xs) (hm : m ≤ n) : w.ownsRow base e 1 (.slice a m cap) m (xs.take m) := by
  refine ⟨by rw [List.length_take, h.1]; omega, ?_⟩
  rcases h.2 with ⟨hv, hn⟩ | ⟨g, cap', cur, hv, hg, hh, h3, h4, h5, h6⟩
  · simp only [Value.slice.injEq] at hv
    exact .inl ⟨by rw [hv.1, hv.2.2]; congr; omega, by omega⟩
  · simp only [Value.slice.injEq, true_and] at hv
    obtain ⟨rfl, rfl⟩ := hv
    refine .inr ⟨g, cap, cur, rfl, hg, hh, by omega, h4, h5, ?_⟩
    rw [← h6, List.take_take]
    congr 1
    omega
theorem intCells_take (l : List Nat) (m : Nat) : (intCells l).take m = intCells (l.take m) := by unfold intCells; rw [List.map_take]

namespace Cu
theorem cutsR_le (l : List Ln) (t : List UInt8) : ∀ p ∈ cutsR l t, p ≤ t.length := by
  intro p hp
  unfold cutsR at hp
  rcases List.mem_append.1 hp with h | h
  · obtain ⟨i, h1, _, rfl⟩ := mem_cutsTo.1 h
    have hc : (chars t)[i]? = some (chars t)[i] := by simp [h1]
    have := (chars_at hc).1
    rw [List.getD_eq_getElem?_getD, hc]
    simp only [Option.getD_some]
    omega
  · split at h
    · simp at h; omega
    · simp at h
theorem soon_count {c l r : List Nat} {sz m : Nat} (hp : c.Pairwise (· < ·)) (hc : c = l ++ r) (h : ∀ p ∈ c, p + 11 ≤ sz → p ∈ l) (hm : m ≤ c.length) (hall : ∀ j x, j < m → c[j]? = some x → x + 11 ≤ sz) : m ≤ l.length := by
  by_cases hml : m ≤ l.length
  · exact hml
  · exfalso
    have hlt : l.length < c.length := by omega
    have hx : c[l.length]? = some c[l.length] := by simp [hlt]
    have h1 := h _ (List.getElem_mem hlt) (hall _ _ (by omega) hx)
    obtain ⟨i, hi, he⟩ := List.mem_iff_getElem.1 h1
    have h2 : c[i]? = some l[i] := by rw [hc, List.getElem?_append_left hi]; simp [hi]
    have h3 : c[i]'(by omega) = l[i] := (List.getElem?_eq_some_iff.1 h2).2
    have h4 := (List.pairwise_iff_getElem.1 hp) i l.length (by omega) hlt hi
    omega
end Cu

set_option maxRecDepth 100000 in
set_option maxHeartbeats 1000000 in
theorem same_drew (l m : List Nat) (a b : Option Addr) (ca cb ba bb : Nat) (w : World) (ha : w.ownsRow ba 3 1 (.slice a l.length ca) l.length (intCells l)) (hb : w.ownsRow bb 3 1 (.slice b m.length cb) m.length (intCells m)) (hl : l.length ≤ 2097152) :
    Calls Tryz.prog 15 #[.slice a l.length ca, .slice b m.length cb] w fun e w' => e = .returned (.bool (l == m)) ∧ ∃ q, w' = w.drewN q := by
  have HA := hide ha
  have HB := hide hb
  clear ha hb
  by_cases hlm : l.length = m.length
  · have dl : ((l.length : Int) != (m.length : Int)) = false := by rw [hlm]; simp
    have HLM := hide hlm
    clear hlm
    go_enter Tryz.func15, Tryz.ntmps15
    go_wp2
    go_loopw [5] (fun v wr => ∃ n : Nat, n ≤ l.length ∧ v = .int .i64 n ∧ (∃ q, wr = w.drewN q) ∧ l.take n = m.take n) (fun v _ => 2097154 - (intOf v).toNat)
    case atStart =>
      go_light
      exact ⟨0, Nat.zero_le _, rfl, ⟨0, rfl⟩, by simp⟩
    case round =>
      obtain ⟨n, hn, rfl, ⟨q0, hq0⟩, htk⟩ := hrel
      have hbw : Below w.heap.size w wr := by rw [hq0]; exact below_drawn (Below.refl _ _) _
      have HQ := hide hq0
      clear hq0
      have HTK := hide htk
      clear htk
      by_cases hlt : n < l.length
      · obtain ⟨g, x, rfl, hx, c0⟩ := int_cell (own_below (unhide HA) hbw) n hlt
        obtain ⟨g2, y, rfl, hy, c1⟩ := int_cell (own_below (unhide HB) hbw) n (by rw [← unhide HLM]; exact hlt)
        by_cases hxy : x = y
        · have hr : Hid (l.take (n + 1) = m.take (n + 1)) := hide (by rw [List.take_add_one, List.take_add_one, hx, hy, hxy, unhide HTK])
          have dxy : ((x : Int) != (y : Int)) = false := by rw [hxy]; simp
          have hnm : (n : Int) < (m.length : Int) := by rw [← unhide HLM]; omega
          have hfin : Hid (∀ q, ∃ k : Nat, k ≤ l.length ∧ Value.int .i64 ((n : Int) + 1) = .int .i64 k ∧ (∃ p, wr.drewN q = w.drewN p) ∧ l.take k = m.take k) := hide (fun q => ⟨n + 1, by omega, by go_num, ⟨q0 + q, by rw [unhide HQ, World.drewN_drewN]⟩, unhide hr⟩)
          clear hx hy hxy
          go_wp2
          go_quiet (fail)
          go_wp2
          go_roundw
          case rel => first | exact unhide hfin _ | ((repeat apply Exists.intro); exact ⟨unhide hfin _, rfl⟩)
          case measure => simp [intOf]; omega
        · have hr : Hid ((l == m) = false) := hide (by
            rw [beq_eq_false_iff_ne]
            intro h
            rw [h, hy] at hx
            simp at hx
            exact hxy hx.symm)
          have dxy : ((x : Int) != (y : Int)) = true := by rw [bne_iff_ne]; omega
          have hnm : (n : Int) < (m.length : Int) := by rw [← unhide HLM]; omega
          clear hx hy hxy
          go_wp2
          go_quiet (fail)
          go_wp2
          go_ret
          exact ⟨by rw [unhide hr]; rfl, _, by rw [unhide HQ, World.drewN_drewN]⟩
      · have hr : Hid (l = m) := hide (by
          have h := unhide HTK
          rw [List.take_of_length_le (by omega), List.take_of_length_le (by have := unhide HLM; omega)] at h
          exact h)
        go_wp2
        go_ret
        exact ⟨by rw [unhide hr]; simp, _, unhide HQ⟩
  · have dl : ((l.length : Int) != (m.length : Int)) = true := by rw [bne_iff_ne]; omega
    have hr : Hid ((l == m) = false) := hide (by rw [beq_eq_false_iff_ne]; intro h; exact hlm (by rw [h]))
    clear hlm
    go_enter Tryz.func15, Tryz.ntmps15
    go_wp2
    go_ret
    exact ⟨by rw [unhide hr]; rfl, 0, rfl⟩
theorem same_quiet (l : List Nat) (a b : Option Addr) (ca cb ba bb : Nat) (w : World) (ha : w.ownsRow ba 3 1 (.slice a l.length ca) l.length (intCells l)) (hb : w.ownsRow bb 3 1 (.slice b l.length cb) l.length (intCells l)) (hl : l.length ≤ 2097152) (q : Nat) :
    Calls Tryz.prog 15 #[.slice a l.length ca, .slice b l.length cb] (w.drewN q) fun e w' => e = .returned (.bool true) ∧ ∃ n, w' = w.drewN n :=
  (same_drew l l a b ca cb ba bb (w.drewN q) (own_below ha (below_drawn (Below.refl _ _) _)) (own_below hb (below_drawn (Below.refl _ _) _)) hl).mono fun e w' ⟨h1, n, h2⟩ => ⟨by rw [h1]; simp, q + n, by rw [h2, World.drewN_drewN]⟩
end Go.Proofs.YtbppbejigedioabGreatDoor
