/- The laws' opens, spoil, copied. -/
import Derived.Test.YtbppbejigedioabGreatDoorStAsk
import Derived.Laws.OwnMore
import Derived.Test.YtbppbejigedioabGreatDoorStCard
import Derived.Test.YtbppbejigedioabGreatDoorCards
import Derived.WalkKit
import Derived.ProofKit
import Derived.OpenShut
import Derived.ChangeArms
import Derived.DataReads
namespace Go.Proofs.YtbppbejigedioabGreatDoor
open Go.RowKit

/-- Two streams side by side: the program's and the document's. -/
structure Both (PS : PSt) (w : World) (base X lo hi S : Nat) (l : List Cu.Ln) (T : ByteArray) (F : Nat → Prop) : Prop where
  ps : PS w base X l T F
  rs : RS w lo hi S l T
  apart : ∀ k, F k → k < lo
  top : hi ≤ w.heap.size
  low : base ≤ lo
/-- What opens answers. -/
def OpensRes (PS : PSt) (f : ByteArray) (w : World) (e : Ending) (w' : World) : Prop :=
  ((Cu.check f.data.toList).1 ≠ 0 ∧ e = .returned (.tuple #[.agg #[.pointer none, .pointer none], .bool true]) ∧ Below w.heap.size w w') ∨
  ((Cu.check f.data.toList).1 = 0 ∧ ∃ (X S base lo hi : Nat) (F : Nat → Prop), e = .returned (.tuple #[.agg #[.pointer (some ⟨X, 0, none⟩), .pointer (some ⟨S, 0, none⟩)], .bool true]) ∧ w.heap.size ≤ base ∧ Both PS w' base X lo hi S (Cu.readGo f.data.toList 12 0 []).2.2 ⟨#[]⟩ F ∧ Below w.heap.size w w')
theorem Both.set {PS : PSt} (hS : Firm PS) {w : World} {base X lo hi S : Nat} {l : List Cu.Ln} {T : ByteArray} {F : Nat → Prop} (h : Both PS w base X lo hi S l T F) {b : Nat} (hb : b < base) (j : Nat) (u : Value) : Both PS (w.setCell ⟨b, j, none⟩ u) base X lo hi S l T F := by
  have hl := h.low
  have hk : ∀ k, base ≤ k → (w.setCell ⟨b, j, none⟩ u).heap[k]? = w.heap[k]? := fun k hk => Below.heap_setCell _ _ _ _ (by show k ≠ b; omega)
  exact ⟨hS.frame h.ps (fun k hF => hk k (hS.foot h.ps k hF).1), h.rs.same (fun k h1 _ => hk k (by omega)), h.apart, by simpa [World.setCell] using h.top, hl⟩

set_option maxRecDepth 100000 in
set_option maxHeartbeats 1000000 in
theorem opens_any (PS : Nat → PSt) (hS : Streamy PS) (hO : Opens PS) (f : ByteArray) (w : World) (hf : f.size ≤ 9223372036854775807) (hE : Env w) :
    Calls Tryz.prog 8 #[.string f] w fun e w' => OpensRes (PS 0) f w e w' := by
  have hal : Below w.heap.size w (w.alloc (.cells #[.pointer none, .pointer none] 26)) := (Below.refl _ _).alloc (Nat.le_refl _) _
  have HOP := hide (hO f _ hf (hE.below hal hE.2.2.2))
  have HAL := hide hal
  have HS := hide hS
  clear hO hE hal hS
  go_enter Tryz.func8, Tryz.ntmps8
  go_wp2_with fail
  refine (unhide HOP).mono ?_
  rintro e w1 (⟨hc, rfl, hb⟩ | ⟨hc, X, F, rfl, hps, hb⟩)
  · have dc : (((Cu.check f.data.toList).1 : Int) != 0) = true := by simp; omega
    have HB := hide hb
    have HC := hide hc
    have hs1 := hb.size
    have hs0 : (w.alloc (.cells #[.pointer none, .pointer none] 26)).heap.size = w.heap.size + 1 := by simp
    clear hb hc
    go_wp2_with fail
    refine (refOpen_any f _ hf).mono ?_
    rintro e w2 (⟨_, rfl, hb2⟩ | ⟨h0, _⟩)
    · have hb12 := below_two hb2 (unhide HB)
      have hB2 := (Blk.new w [.pointer none, .pointer none] 26).below hb12 (by simp)
      obtain ⟨q0, q1, q2⟩ := hB2.two
      have hlt := hB2.lt
      have hb02 : Below w.heap.size w w2 := (unhide HAL).trans (hb12.mono (by omega))
      have HF : Hid (∀ x y, Below w.heap.size w ((w2.setCell ⟨w.heap.size, 0, none⟩ x).setCell ⟨w.heap.size, 1, none⟩ y)) := hide (fun x y => (hb02.setCell (Nat.le_refl _) _).setCell (Nat.le_refl _) _)
      clear hb2 hb12 hB2 hb02
      go_wp2_with (go_at_call 13; refine (num_any _ _).mono ?_; rintro e w' ⟨rfl, rfl⟩)
      exact bodyPost_ret (v := .tuple #[.agg #[.pointer none, .pointer none], .bool true]) (by simp [results, Tryz.results8, go_sem, *]) rfl (Or.inl ⟨unhide HC, rfl, unhide HF _ _⟩)
    · exact absurd h0 (unhide HC)
  · have HB := hide hb
    have HC := hide hc
    have HPS := hide hps
    have hs1 := hb.size
    have hs0 : (w.alloc (.cells #[.pointer none, .pointer none] 26)).heap.size = w.heap.size + 1 := by simp
    clear hb hc hps
    go_wp2_with fail
    refine (refOpen_any f _ hf).mono ?_
    rintro e w2 (⟨h0, _⟩ | ⟨_, S, rfl, hSl, hrs, hb2⟩)
    · exact absurd (unhide HC) h0
    · have hb12 := below_two hb2 (unhide HB)
      have hB2 := (Blk.new w [.pointer none, .pointer none] 26).below hb12 (by simp)
      obtain ⟨q0, q1, q2⟩ := hB2.two
      have hlt := hB2.lt
      have hb02 : Below w.heap.size w w2 := (unhide HAL).trans (hb12.mono (by omega))
      have hboth : Both (PS 0) w2 (w.heap.size + 1) X w1.heap.size w2.heap.size S (Cu.readGo f.data.toList 12 0 []).2.2 ⟨#[]⟩ F := ⟨by have h := (unhide HS).below (unhide HPS) hb2; rw [hs0] at h; exact h, hrs, fun k hk => ((unhide HS).foot (unhide HPS) k hk).2, Nat.le_refl _, by omega⟩
      have HF : Hid (∀ x y, Both (PS 0) ((w2.setCell ⟨w.heap.size, 0, none⟩ x).setCell ⟨w.heap.size, 1, none⟩ y) (w.heap.size + 1) X w1.heap.size w2.heap.size S (Cu.readGo f.data.toList 12 0 []).2.2 ⟨#[]⟩ F ∧ Below w.heap.size w ((w2.setCell ⟨w.heap.size, 0, none⟩ x).setCell ⟨w.heap.size, 1, none⟩ y)) := hide (fun x y => ⟨(hboth.set ((unhide HS).firm _) (by omega) _ _).set ((unhide HS).firm _) (by omega) _ _, (hb02.setCell (Nat.le_refl _) _).setCell (Nat.le_refl _) _⟩)
      clear hb2 hb12 hB2 hb02 hboth hrs
      go_wp2_with (go_at_call 13; refine (num_any _ _).mono ?_; rintro e w' ⟨rfl, rfl⟩)
      exact bodyPost_ret (v := .tuple #[.agg #[.pointer (some ⟨X, 0, none⟩), .pointer (some ⟨S, 0, none⟩)], .bool true]) (by simp [results, Tryz.results8, go_sem, *]) rfl (Or.inr ⟨unhide HC, X, S, _, _, _, F, rfl, Nat.le_succ _, (unhide HF _ _).1, (unhide HF _ _).2⟩)

/-- A row of numbers, whatever they are. -/
def NumRow (w : World) (b n : Nat) (v : Value) : Prop := ∃ ms : List Int, ms.length = n ∧ w.ownsRow b 3 1 v n (ms.map (Value.int .i64))
theorem num_row {w : World} {b : Nat} {v : Value} {l : List Nat} (h : w.ownsRow b 3 1 v l.length (intCells l)) : NumRow w b l.length v := ⟨l.map (fun (n : Nat) => (n : Int)), by simp, by unfold intCells at h; simpa [List.map_map, Function.comp_def] using h⟩
theorem num_cell {w : World} {b n cap : Nat} {a : Option Addr} (h : NumRow w b n (.slice a n cap)) (i : Nat) (hi : i < n) :
    ∃ (g : Nat) (x : Int), a = some ⟨g, 0, none⟩ ∧ w.cell? ⟨g, i, none⟩ = some (.int .i64 x) ∧ w.frozen? ⟨g, i, none⟩ = false ∧ ∀ y, NumRow (w.setCell ⟨g, i, none⟩ (.int .i64 y)) b n (.slice a n cap) ∧ w.grownBy (w.setCell ⟨g, i, none⟩ (.int .i64 y)) (some g) := by
  obtain ⟨ms, hm, ho⟩ := h
  have ho' := ho
  rcases ho.2 with ⟨hv, h0⟩ | ⟨g, cap', cur, hv, _⟩
  · omega
  · simp only [Value.slice.injEq, true_and] at hv
    obtain ⟨rfl, rfl⟩ := hv
    refine ⟨g, ms[i]'(by omega), rfl, ?_, ho'.frozenAt i, fun y => ⟨⟨ms.set i y, by simpa using hm, ?_⟩, (ho'.stored i _).2⟩⟩
    · rw [ho'.cellAt i (by omega), List.getElem?_map, List.getElem?_eq_getElem (by omega)]
      rfl
    · have h1 := (ho'.stored i (.int .i64 y)).1
      rw [← List.map_set] at h1
      exact h1

set_option maxRecDepth 100000 in
set_option maxHeartbeats 1000000 in
theorem spoil_any (n cap b : Nat) (a : Option Addr) (w : World) (hn : n ≤ 1048580) (h : NumRow w b n (.slice a n cap)) :
    Calls Tryz.prog 18 #[.slice a n cap] w fun e w' => e = .returned (.tuple #[]) ∧ w.grownBy w' (Value.slice a n cap).ownBlock := by
  go_enter Tryz.func18, Tryz.ntmps18
  go_wp2
  go_loopw [2] (fun v wr => ∃ i : Nat, i ≤ n ∧ v = .int .i64 i ∧ NumRow wr b n (.slice a n cap) ∧ w.grownBy wr (Value.slice a n cap).ownBlock) (fun v _ => 1048582 - (intOf v).toNat)
  case atStart =>
    go_light
    exact ⟨0, Nat.zero_le _, rfl, h, grown_of_below (Below.refl _ _) _⟩
  case round =>
    obtain ⟨i, hi, rfl, hr, hg⟩ := hrel
    by_cases hlt : i < n
    · obtain ⟨g, x, rfl, c0, c1, hst⟩ := num_cell hr i hlt
      have hltI : (i : Int) < (n : Int) := by omega
      have hnext := hide (fun (y : Int) => (⟨i + 1, by omega, by go_num, (hst y).1, grown_tr hg (hst y).2⟩ : ∃ k : Nat, k ≤ n ∧ Value.int .i64 ((i : Int) + 1) = .int .i64 k ∧ NumRow (wr.setCell ⟨g, i, none⟩ (.int .i64 y)) b n (.slice (some ⟨g, 0, none⟩) n cap) ∧ w.grownBy (wr.setCell ⟨g, i, none⟩ (.int .i64 y)) (Value.slice (some ⟨g, 0, none⟩) n cap).ownBlock))
      clear hst hr hg h
      go_wp2
      go_roundw
      case rel => first | exact unhide hnext _ | ((repeat apply Exists.intro); exact ⟨unhide hnext _, rfl⟩)
      case measure => simp [intOf]; omega
    · have hltI : ¬ (i : Int) < (n : Int) := by omega
      have HG := hide hg
      clear hr hg h
      go_wp2
      go_end0
      exact ⟨rfl, unhide HG⟩

/-- make of n numbers. -/
theorem make_ints (W : World) (n : Nat) (hn : n ≤ 1048580) : ∃ us : List Value, us.length = n ∧ Sem.run Tryz.prog (Instr.makeSlice 30 (.int .i64 n) (.int .i64 n)) W = .ok (.slice (some ⟨W.heap.size, 0, none⟩) n n) (W.alloc (.cells us.toArray 3)) := by
  obtain ⟨i0, ki, kz0, kz1, kz2⟩ := info_parts Tryz.info3
  have h := run_make (P := Tryz.prog) W 30 3 i0 (.int .i64 0) Tryz.underlying30 ki kz0 .i64 .i64 n n (by omega) (Int.le_refl _) (by rw [kz2]; omega) (by omega)
  refine ⟨(madeCells (Value.int .i64 0).cells (n * 1)).toList, by simp [size_madeCells], ?_⟩
  rw [kz1] at h
  simpa using h
theorem own_made (W : World) (us : List Value) (n : Nat) (hu : us.length = n) (hn : n ≤ maxLen) : (W.alloc (.cells us.toArray 3)).ownsRow W.heap.size 3 1 (.slice (some ⟨W.heap.size, 0, none⟩) n n) n us := by
  have h := World.ownsRow_lit (base := W.heap.size) (e := 3) (size := 1) W us.toArray n (Nat.le_refl _) hn (by simp [hu])
  simpa using h

set_option maxRecDepth 100000 in
set_option maxHeartbeats 1000000 in
theorem copied_any (l : List Nat) (a : Option Addr) (cap b : Nat) (w : World) (hl : l.length ≤ 1048580) (ho : w.ownsRow b 3 1 (.slice a l.length cap) l.length (intCells l)) :
    Calls Tryz.prog 19 #[.slice a l.length cap] w fun e w' => ∃ (a' : Option Addr) (cap' : Nat), e = .returned (.slice a' l.length cap') ∧ w'.ownsRow w.heap.size 3 1 (.slice a' l.length cap') l.length (intCells l) ∧ Below w.heap.size w w' := by
  obtain ⟨us, hus, hmk⟩ := make_ints w l.length hl
  have how := hide (own_made w us l.length hus (by unfold maxLen; omega))
  have HO := hide ho
  clear ho
  go_enter Tryz.func19, Tryz.ntmps19
  go_wp2
  go_loopw [4] (fun v wr => ∃ (i : Nat) (ms : List Value), i ≤ l.length ∧ v = .int .i64 i ∧ wr.ownsRow w.heap.size 3 1 (.slice (some ⟨w.heap.size, 0, none⟩) l.length l.length) l.length ms ∧ ms.length = l.length ∧ ms.take i = intCells (l.take i) ∧ Below w.heap.size w wr) (fun v _ => 1048582 - (intOf v).toNat)
  case atStart =>
    go_light
    exact ⟨0, us, Nat.zero_le _, rfl, unhide how, hus, by simp [intCells], (Below.refl _ _).alloc (Nat.le_refl _) _⟩
  case round =>
    obtain ⟨i, ms, hi, rfl, hr, hml, hmt, hb⟩ := hrel
    by_cases hlt : i < l.length
    · obtain ⟨g, x, rfl, hx, c0⟩ := int_cell (own_below (unhide HO) hb) i hlt
      have hltI : (i : Int) < (l.length : Int) := by omega
      have hst := hr.stored i (.int .i64 x)
      have c1 := hr.frozenAt i
      obtain ⟨u0, c2⟩ : ∃ u, wr.cell? ⟨w.heap.size, i, none⟩ = some u := ⟨ms[i]'(by omega), by rw [hr.cellAt i (by omega), List.getElem?_eq_getElem (by omega)]⟩
      have hnext : Hid (∃ (k : Nat) (ms : List Value), k ≤ l.length ∧ Value.int .i64 ((i : Int) + 1) = .int .i64 k ∧ (wr.setCell ⟨w.heap.size, i, none⟩ (.int .i64 x)).ownsRow w.heap.size 3 1 (.slice (some ⟨w.heap.size, 0, none⟩) l.length l.length) l.length ms ∧ ms.length = l.length ∧ ms.take k = intCells (l.take k) ∧ Below w.heap.size w (wr.setCell ⟨w.heap.size, i, none⟩ (.int .i64 x))) := hide ⟨i + 1, ms.set i (.int .i64 x), by omega, by go_num, hst.1, by simpa using hml, by
        rw [List.take_add_one, List.take_set_of_le (Nat.le_refl _), hmt, List.getElem?_set_self (by omega), List.take_add_one, hx]
        unfold intCells
        simp, hb.setCell (Nat.le_refl _) _⟩
      clear hst hr hml hmt hb hx how
      go_wp2
      go_roundw
      case rel => first | exact unhide hnext | ((repeat apply Exists.intro); exact ⟨unhide hnext, rfl⟩)
      case measure => simp [intOf]; omega
    · have hltI : ¬ (i : Int) < (l.length : Int) := by omega
      have hfin : Hid (∃ (a' : Option Addr) (cap' : Nat), Ending.returned (.slice (some ⟨w.heap.size, 0, none⟩) l.length l.length) = .returned (.slice a' l.length cap') ∧ wr.ownsRow w.heap.size 3 1 (.slice a' l.length cap') l.length (intCells l) ∧ Below w.heap.size w wr) := hide ⟨_, _, rfl, by
        rw [List.take_of_length_le (by omega), List.take_of_length_le (by omega)] at hmt
        rw [← hmt]
        exact hr, hb⟩
      clear hr hml hmt hb how
      go_wp2
      go_ret
      exact unhide hfin
end Go.Proofs.YtbppbejigedioabGreatDoor
/- The law Own, by what is asked of the program's streams. -/
namespace Go.Proofs.YtbppbejigedioabGreatDoor
open Go.RowKit

/-- A script that came in: the texts of its steps. -/
def ScriptIn (w : World) (base : Nat) (a : Option Addr) (ts : List ByteArray) : Prop :=
  ∀ (i : Nat) (x : ByteArray), ts[i]? = some x → ∃ b off : Nat, a = some ⟨b, off, none⟩ ∧ b < base ∧ w.cell? ⟨b, off + i * 6 + 4, none⟩ = some (.string x)
theorem ScriptIn.below {w w' : World} {base : Nat} {a : Option Addr} {ts : List ByteArray} (h : ScriptIn w base a ts) (hb : Below base w w') : ScriptIn w' base a ts := fun i x hx => by
  obtain ⟨b, off, h1, h2, h3⟩ := h i x hx
  exact ⟨b, off, h1, h2, by rw [← h3]; exact hb.cell h2⟩
def sumS (ts : List ByteArray) : Nat := (ts.map ByteArray.size).sum
theorem sum_take {ts : List ByteArray} {i : Nat} {x : ByteArray} (h : ts[i]? = some x) : sumS (ts.take (i + 1)) = sumS (ts.take i) + x.size := by
  unfold sumS
  rw [List.take_add_one, h]
  simp
theorem sum_le (ts : List ByteArray) (i : Nat) : sumS (ts.take i) ≤ sumS ts := by
  have h : ts.take i ++ ts.drop i = ts := List.take_append_drop i ts
  have h2 : sumS ts = sumS (ts.take i) + sumS (ts.drop i) := by
    unfold sumS
    rw [← List.sum_append, ← List.map_append, h]
  omega

/-- Both streams, and the block that holds their addresses. -/
structure OW (PS : PSt) (w : World) (base X lo hi S M B : Nat) (l : List Cu.Ln) (T D : ByteArray) (F : Nat → Prop) (wr : World) : Prop where
  ps : PS wr base X l T F
  rs : RS wr lo hi S l D
  md : Blk wr M [.pointer (some ⟨X, 0, none⟩), .pointer (some ⟨S, 0, none⟩)] 26
  foot : ∀ k, F k → k < lo ∨ B ≤ k
  bel : Below w.heap.size w wr
  top : B ≤ wr.heap.size
  hB : w.heap.size ≤ base ∧ base ≤ lo ∧ hi ≤ M ∧ M < B
/-- A row of numbers beside them. -/
structure Row (B : Nat) (F : Nat → Prop) (a : Option Addr) (cap : Nat) (l : List Nat) (wr : World) : Prop where
  own : wr.ownsRow B 3 1 (.slice a l.length cap) l.length (intCells l)
  out : ∀ k, (Value.slice a l.length cap).ownBlock = some k → ¬ F k
section
variable {PS PS' : PSt} {w wr w1 : World} {base X lo hi S M B : Nat} {l : List Cu.Ln} {T T' D D' : ByteArray} {F F' : Nat → Prop} {e : Ending} {d : List Nat}
theorem OW.below (hS : Firm PS) (h : OW PS w base X lo hi S M B l T D F wr) (hb : Below wr.heap.size wr w1) : OW PS w base X lo hi S M B l T D F w1 :=
  ⟨hS.below h.ps hb, h.rs.same (fun k _ hk => hb.block k (by have := h.top; have := h.hB; omega)), h.md.below hb h.md.lt, h.foot, below_two hb h.bel, Nat.le_trans h.top hb.size, h.hB⟩
theorem OW.change (hS : Firm PS) (h : OW PS w base X lo hi S M B l T D F wr) {k0 : Nat} (hg : wr.grownBy w1 (some k0)) (hk : B ≤ k0) (hF : ¬ F k0) : OW PS w base X lo hi S M B l T D F w1 := by
  have h1 := h.hB
  have hs := h.bel.size
  have ht := h.top
  have hat := h.rs.at_
  refine ⟨hS.frame h.ps (fun k hk2 => hg.block k (hS.foot h.ps k hk2).2 (fun e => hF (by simp at e; rw [← e]; exact hk2))), h.rs.same (fun k _ h2 => hg.block k (by omega) (by simp; omega)), ?_, h.foot, ⟨hg.os.trans h.bel.os, hg.tape.trans h.bel.tape, hg.output.trans h.bel.output, Nat.le_trans hs hg.size, fun k h2 => (hg.block k (by omega) (by simp; omega)).trans (h.bel.block k h2)⟩, Nat.le_trans ht hg.size, h1⟩
  have hm := h.md
  unfold Blk at hm ⊢
  rw [hg.block M (by omega) (by simp; omega)]
  exact hm
theorem OW.row (hS : Firm PS) (h : OW PS w base X lo hi S M B l T D F wr) {v : Value} (hg : wr.grownBy w1 v.ownBlock) (hk : ∀ k, v.ownBlock = some k → B ≤ k ∧ ¬ F k) : OW PS w base X lo hi S M B l T D F w1 := by
  cases hv : v.ownBlock with
  | none =>
    rw [hv] at hg
    exact h.below hS ⟨hg.os, hg.tape, hg.output, hg.size, fun k h2 => hg.block k h2 (by simp)⟩
  | some k =>
    rw [hv] at hg
    exact h.change hS hg (hk k hv).1 (hk k hv).2
theorem OW.call (hS : Firm PS) (h : OW PS w base X lo hi S M B l T D F wr) (hr : PRes PS' d base X l T' F wr e w1) :
    ∃ (a : Option Addr) (cap : Nat) (F' : Nat → Prop), e = .returned (.slice a d.length cap) ∧ OW PS' w base X lo hi S M B l T' D F' w1 ∧ Row wr.heap.size F' a cap d w1 ∧ (∀ k, F' k → F k ∨ wr.heap.size ≤ k) ∧ Fram F wr w1 := by
  obtain ⟨a, cap, F', rfl, ho, hps, hF, hn, hfr⟩ := hr
  have h1 := h.hB
  have ht := h.top
  refine ⟨a, cap, F', rfl, ⟨hps, h.rs.same (fun k h2 h3 => hfr.block k (by omega) (fun hk => by have := h.foot k hk; omega)), hfr.blk h.md (fun hk => by have := h.foot M hk; have := (RS.at_ h.rs); omega), fun k hk => ?_, h.bel.trans (hfr.below (fun k hk => by have := (hS.foot h.ps k hk).1; omega) h.bel.size), Nat.le_trans ht hfr.size, h1⟩, ⟨ho, hn⟩, hF, hfr⟩
  rcases hF k hk with h2 | h2
  · exact h.foot k h2
  · exact Or.inr (by omega)
theorem OW.ref (hS : Firm PS) (h : OW PS w base X lo hi S M B l T D F wr) (hr : StRes d lo hi S l D' wr e w1) :
    ∃ (a : Option Addr) (cap : Nat), e = .returned (.slice a d.length cap) ∧ OW PS w base X lo hi S M B l T D' F w1 ∧ Row wr.heap.size F a cap d w1 ∧ wr.grownBy w1 (some S) := by
  obtain ⟨a, cap, rfl, ho, hrs, hg⟩ := hr
  have h1 := h.hB
  have ht := h.top
  have hat := h.rs.at_
  have hs := h.bel.size
  refine ⟨a, cap, rfl, ⟨hS.frame h.ps (fun k hk => hg.block k (hS.foot h.ps k hk).2 (fun e => by simp at e; have := h.foot k hk; omega)), hrs, ?_, h.foot, ⟨hg.os.trans h.bel.os, hg.tape.trans h.bel.tape, hg.output.trans h.bel.output, Nat.le_trans hs hg.size, fun k h2 => (hg.block k (by omega) (by simp; omega)).trans (h.bel.block k h2)⟩, Nat.le_trans ht hg.size, h1⟩, ⟨ho, fun k hk hF => ?_⟩, hg⟩
  · have hm := h.md
    unfold Blk at hm ⊢
    rw [hg.block M (by omega) (by simp; omega)]
    exact hm
  · have := (ho.lt k hk).1
    have := (hS.foot h.ps k hF).2
    omega
end
section
variable {wr w1 : World} {B n : Nat} {F F' : Nat → Prop} {a : Option Addr} {cap : Nat} {l : List Nat}
theorem Row.below (h : Row B F a cap l wr) (hb : Below wr.heap.size wr w1) : Row B F a cap l w1 := ⟨own_below h.own hb, h.out⟩
theorem Row.base (h : Row n F a cap l wr) (hb : B ≤ n) : Row B F a cap l wr := ⟨own_base h.own hb, h.out⟩
theorem Row.call (h : Row B F a cap l wr) (hF : ∀ k, F' k → F k ∨ wr.heap.size ≤ k) (hfr : Fram F wr w1) : Row B F' a cap l w1 :=
  ⟨hfr.own h.own h.out, fun k hk hk2 => by rcases hF k hk2 with h1 | h1; exact h.out k hk h1; have := (h.own.lt k hk).2; omega⟩
theorem Row.change (h : Row B F a cap l wr) {row : Option Nat} (hg : wr.grownBy w1 row) (hr : ∀ k, (Value.slice a l.length cap).ownBlock = some k → row ≠ some k) : Row B F a cap l w1 :=
  ⟨own_same h.own (fun k hk => hg.block k (h.own.lt k hk).2 (fun e => hr k hk e.symm)), h.out⟩
theorem Row.new {PS : PSt} (hS : Firm PS) {wr : World} {base X : Nat} {ls : List Cu.Ln} {T : ByteArray} (hps : PS wr base X ls T F) (ho : w1.ownsRow wr.heap.size 3 1 (.slice a l.length cap) l.length (intCells l)) : Row wr.heap.size F a cap l w1 :=
  ⟨ho, fun k hk hF => by have := (ho.lt k hk).1; have := (hS.foot hps k hF).2; omega⟩
end

/-- The rounds of Own. -/
def OwnRel (PS : Nat → PSt) (w : World) (base X lo hi S M B : Nat) (l : List Cu.Ln) (ts : List ByteArray) (v u iv : Value) (wr : World) : Prop :=
  ∃ (i ca cb : Nat) (a b : Option Addr) (d : List Nat) (T : ByteArray) (F : Nat → Prop), i ≤ ts.length ∧ iv = .int .i64 i ∧ v = .slice a d.length ca ∧ u = .slice b d.length cb ∧ d.length ≤ 1048577 ∧ T.size = sumS (ts.take i) ∧ OW (PS T.size) w base X lo hi S M B l T T F wr ∧ Row B F a ca d wr ∧ Row B F b cb d wr ∧ ∀ k, (Value.slice b d.length cb).ownBlock = some k → (Value.slice a d.length ca).ownBlock ≠ some k

/-- Behind a call of the program's stream. -/
structure Mid (PS : PSt) (w : World) (base X lo hi S M B : Nat) (l : List Cu.Ln) (T D : ByteArray) (F : Nat → Prop) (a b a1 : Option Addr) (ca cb c1 n1 : Nat) (d d1 : List Nat) (wr : World) : Prop where
  ow : OW PS w base X lo hi S M B l T D F wr
  ra : Row B F a ca d wr
  rb : Row B F b cb d wr
  r1 : Row n1 F a1 c1 d1 wr
  la : ∀ k, (Value.slice a d.length ca).ownBlock = some k → k < n1
  lb : ∀ k, (Value.slice b d.length cb).ownBlock = some k → k < n1
  hn : B ≤ n1
  sz : n1 ≤ wr.heap.size
theorem mid_call {PS PS' : PSt} (hS : Firm PS) {w wr W w1 : World} {base X lo hi S M B : Nat} {l : List Cu.Ln} {T T' D : ByteArray} {F : Nat → Prop} {e : Ending} {d d1 : List Nat} {a b : Option Addr} {ca cb : Nat} (h : OW PS w base X lo hi S M B l T D F wr) (hA : Row B F a ca d wr) (hB : Row B F b cb d wr) (hW : Below wr.heap.size wr W) (hr : PRes PS' d1 base X l T' F W e w1) :
    ∃ (a1 : Option Addr) (c1 : Nat) (F' : Nat → Prop), e = .returned (.slice a1 d1.length c1) ∧ Mid PS' w base X lo hi S M B l T' D F' a b a1 ca cb c1 wr.heap.size d d1 w1 := by
  obtain ⟨a1, c1, F', rfl, h1, h2, h3, h4⟩ := (h.below hS hW).call hS hr
  exact ⟨a1, c1, F', rfl, h1, (hA.below hW).call h3 h4, (hB.below hW).call h3 h4, h2.base hW.size, fun k hk => (hA.own.lt k hk).2, fun k hk => (hB.own.lt k hk).2, h.top, Nat.le_trans hW.size h4.size⟩
/-- Behind both calls. -/
structure Mid2 (PS : PSt) (w : World) (base X lo hi S M B : Nat) (l : List Cu.Ln) (T D : ByteArray) (F : Nat → Prop) (a b a1 a2 : Option Addr) (ca cb c1 c2 n1 : Nat) (d d1 : List Nat) (wr : World) : Prop where
  md : Mid PS w base X lo hi S M B l T D F a b a1 ca cb c1 n1 d d1 wr
  r2 : Row n1 F a2 c2 d1 wr
theorem mid_ref {PS : PSt} (hS : Firm PS) {w wr W w1 : World} {base X lo hi S M B : Nat} {l : List Cu.Ln} {T D D' : ByteArray} {F : Nat → Prop} {e : Ending} {d d1 : List Nat} {a b a1 : Option Addr} {ca cb c1 n1 : Nat} (h : Mid PS w base X lo hi S M B l T D F a b a1 ca cb c1 n1 d d1 wr) (hW : Below wr.heap.size wr W) (hr : StRes d1 lo hi S l D' W e w1) :
    ∃ (a2 : Option Addr) (c2 : Nat), e = .returned (.slice a2 d1.length c2) ∧ Mid2 PS w base X lo hi S M B l T D' F a b a1 a2 ca cb c1 c2 n1 d d1 w1 := by
  have hB := h.ow.hB
  have hat := h.ow.rs.at_
  have hn := h.hn
  have hn1 := h.sz
  obtain ⟨a2, c2, rfl, h1, h2, h3⟩ := (h.ow.below hS hW).ref hS hr
  refine ⟨a2, c2, rfl, ⟨h1, (h.ra.below hW).change h3 (fun k hk e => ?_), (h.rb.below hW).change h3 (fun k hk e => ?_), (h.r1.below hW).change h3 (fun k hk e => ?_), h.la, h.lb, hn, Nat.le_trans hn1 (Nat.le_trans hW.size h3.size)⟩, h2.base (by have := hW.size; omega)⟩
  · have := (h.ra.own.lt k hk).1; simp at e; omega
  · have := (h.rb.own.lt k hk).1; simp at e; omega
  · have := (h.r1.own.lt k hk).1; simp at e; omega

theorem mid_spoil {PS : PSt} (hS : Firm PS) {w wr W w1 : World} {base X lo hi S M B : Nat} {l : List Cu.Ln} {T D : ByteArray} {F : Nat → Prop} {d d1 : List Nat} {a b a1 : Option Addr} {ca cb c1 n1 : Nat} (h : Mid PS w base X lo hi S M B l T D F a b a1 ca cb c1 n1 d d1 wr) (hW : Below wr.heap.size wr W) (hg : W.grownBy w1 (Value.slice a d.length ca).ownBlock) :
    OW PS w base X lo hi S M B l T D F w1 ∧ Row B F a1 c1 d1 w1 := by
  refine ⟨(h.ow.below hS hW).row hS hg (fun k hk => ⟨(h.ra.own.lt k hk).1, h.ra.out k hk⟩), ((h.r1.below hW).change hg (fun k hk e => ?_)).base h.hn⟩
  have h1 := h.la k e
  have h2 := (h.r1.own.lt k hk).1
  omega
theorem own_next {PS : Nat → PSt} (hS : Streamy PS) {w w5 w6 : World} {base X lo hi S M B : Nat} {l : List Cu.Ln} {T : ByteArray} {F : Nat → Prop} {ts : List ByteArray} {i : Nat} {d : List Nat} {a b : Option Addr} {ca cb : Nat} (hi1 : i + 1 ≤ ts.length) (hd : d.length ≤ 1048577) (hT : T.size = sumS (ts.take (i + 1))) (hW : OW (PS T.size) w base X lo hi S M B l T T F w5) (hA : Row B F a ca d w5) (ho : w6.ownsRow w5.heap.size 3 1 (.slice b d.length cb) d.length (intCells d)) (hb : Below w5.heap.size w5 w6) :
    OwnRel PS w base X lo hi S M B l ts (.slice a d.length ca) (.slice b d.length cb) (.int .i64 ((i : Int) + 1)) w6 :=
  ⟨i + 1, ca, cb, a, b, d, T, F, hi1, by go_num, rfl, rfl, hd, hT, hW.below (hS.firm _) hb, hA.below hb, (Row.new (hS.firm _) hW.ps ho).base hW.top, fun k hk e => by have h1 := (ho.lt k hk).1; have h2 := (hA.own.lt k e).2; omega⟩

set_option maxRecDepth 100000 in
set_option maxHeartbeats 4000000 in
theorem own_walk (PS : Nat → PSt) (hS : Streamy PS) (hO : Opens PS) (f t : ByteArray) (ts : List ByteArray) (az : Option Addr) (caps : Nat) (w : World) (hf : f.size ≤ 9223372036854775807) (ht : t.size ≤ 1048576) (hts : sumS ts ≤ 1048576) (htl : ts.length ≤ 1048576) (hE : Env w) (hin : ScriptIn w w.heap.size az ts) :
    Calls Tryz.prog 6 #[.string f, .slice az ts.length caps, .string t] w fun e w' => e = .returned (.bool true) ∧ Below w.heap.size w w' := by
  have hw3 := hE.2.2.2
  have HENV := hide (fun W (hb : Below w.heap.size w W) => hE.below hb hw3)
  have HIN := hide (fun W (hb : Below w.heap.size w W) => hin.below hb)
  have HOP := hide (opens_any PS hS hO f w hf hE)
  have HS := hide hS
  clear hO hE hS hin
  go_enter Tryz.func6, Tryz.ntmps6
  go_wp2_with fail
  refine (unhide HOP).mono ?_
  rintro e w1 (⟨hc, rfl, hb⟩ | ⟨hc, X, S, base, lo, hi, F, rfl, hbase, hboth, hb⟩)
  · have HB := hide hb
    clear hb hc
    go_wp2
    go_ret
    exact ⟨rfl, below_put (unhide HB) _⟩
  · have hrr := hboth.rs.r2
    generalize (Cu.readGo f.data.toList 12 0 []).2.2 = l at *
    have HR2 := hide hrr
    have hown : OW (PS 0) w base X lo hi S w1.heap.size (w1.heap.size + 1) l ⟨#[]⟩ ⟨#[]⟩ F (w1.alloc (.cells #[.pointer (some ⟨X, 0, none⟩), .pointer (some ⟨S, 0, none⟩)] 26)) := by
      have hal : Below w1.heap.size w1 (w1.alloc (.cells #[.pointer (some ⟨X, 0, none⟩), .pointer (some ⟨S, 0, none⟩)] 26)) := (Below.refl _ _).alloc (Nat.le_refl _) _
      have htop := hboth.top
      exact ⟨(unhide HS).below hboth.ps hal, hboth.rs.same (fun k _ hk => hal.block k (by omega)), Blk.new w1 _ _, fun k hk => Or.inl (hboth.apart k hk), below_put hb _, by simp, ⟨hbase, hboth.low, htop, by omega⟩⟩
    have HW := hide hown
    clear hown hboth hb hbase hc hrr
    go_wp2
    go_loopw [9, 10, 11] (fun v u iv wr => OwnRel PS w base X lo hi S w1.heap.size (w1.heap.size + 1) l ts v u iv wr) (fun _ _ iv _ => 1048578 - (intOf iv).toNat)
    case atStart =>
      go_light
      exact ⟨0, 0, 0, none, none, [], ⟨#[]⟩, F, Nat.zero_le _, rfl, rfl, rfl, by simp, rfl, unhide HW, ⟨World.ownsRow_nil _ _ _ _, fun k hk => by simp [Value.ownBlock] at hk⟩, ⟨World.ownsRow_nil _ _ _ _, fun k hk => by simp [Value.ownBlock] at hk⟩, fun k hk => by simp [Value.ownBlock] at hk⟩
    case round =>
      obtain ⟨i, ca, cb, a, b, d, T, F, hil, rfl, rfl, rfl, hdl, hTs, hW, hA, hB, hne⟩ := hrel
      by_cases hlt : i < ts.length
      · have hltI : (i : Int) < (ts.length : Int) := by omega
        have hmx : (i : Int) < 1152921504606846976 := by omega
        obtain ⟨x, hx⟩ : ∃ x, ts[i]? = some x := ⟨ts[i], by simp [hlt]⟩
        obtain ⟨bs, off, rfl, hbs, c0⟩ := unhide HIN wr hW.bel i x hx
        have hsum := sum_take hx
        have hsl := sum_le ts (i + 1)
        have hgb : 4 < base := by have := hW.hB; omega
        have HTR := hide (told_len (unhide HR2) (T ++ x))
        have hszT : (T ++ x).size = T.size + x.size := by simp
        have HFD := hide (fun W (hb : Below wr.heap.size wr W) => ((unhide HS).feed x (hW.below ((unhide HS).firm _) hb).ps (unhide HENV W (hW.below ((unhide HS).firm _) hb).bel) hgb (by omega) (by omega)).mono fun e w1 h => mid_call ((unhide HS).firm _) hW hA hB hb h)
        have HRF := hide (fun W (hr : RS W lo hi S l T) => refFeed_any S lo hi l T x W hr (by omega))
        have hdl1 : (Cu.feedP l (T ++ x).data.toList (Cu.told l T.data.toList).length).length ≤ 1048577 := by
          have h1 := unhide HTR
          unfold Cu.feedP
          rw [List.length_drop]
          omega
        generalize Cu.feedP l (T ++ x).data.toList (Cu.told l T.data.toList).length = d1 at *
        obtain ⟨m0, m1, m2⟩ := hW.md.two
        have HHW := hide hW
        have HNE := hide hne
        have HX := hide hx
        clear hW hA hB hne hx
        go_upto_region 9 with fail
        go_cut [12] (fun v wc => ∃ (a1 : Option Addr) (c1 : Nat) (F' : Nat → Prop), v = .slice a1 d1.length c1 ∧ Mid (PS (T.size + x.size)) w base X lo hi S w1.heap.size (w1.heap.size + 1) l (T ++ x) T F' a b a1 ca cb c1 wr.heap.size d d1 wc)
        case first =>
          go_region_with (go_at_call 16; refine (unhide HFD _ ((Below.refl _ _).drew)).mono ?_; rintro e w4 ⟨a1, c1, F', rfl, hmid⟩)
          all_goals
            go_wp2_with fail
            go_meet
            case rel => exact ⟨a1, c1, F', rfl, hmid⟩
        case rest =>
          obtain ⟨a1, c1, F', rfl, hmid⟩ := hcut
          obtain ⟨bs2, off2, hbs2, _, c2⟩ := unhide HIN wc hmid.ow.bel i x (unhide HX)
          simp only [Option.some.injEq, Addr.mk.injEq, and_true] at hbs2
          obtain ⟨rfl, rfl⟩ := hbs2
          obtain ⟨p0, p1, p2⟩ := hmid.ow.md.two
          have HRD := hide (fun W (hb : Below wc.heap.size wc W) => (unhide HRF W (hmid.ow.below ((unhide HS).firm _) hb).rs).mono fun e w1 h => mid_ref ((unhide HS).firm _) hmid hb h)
          clear hmid m0 m1 m2 c0
          go_upto_region 10 with fail
          go_cut [13] (fun v wd => ∃ (a2 : Option Addr) (c2 : Nat), v = .slice a2 d1.length c2 ∧ Mid2 (PS (T.size + x.size)) w base X lo hi S w1.heap.size (w1.heap.size + 1) l (T ++ x) (T ++ x) F' a b a1 a2 ca cb c1 c2 wr.heap.size d d1 wd)
          case first =>
            go_region_with (go_at_call 17; refine (unhide HRD _ ((Below.refl _ _).drew)).mono ?_; rintro e w4 ⟨a2, c2, rfl, hmid⟩)
            all_goals
              go_wp2_with fail
              go_meet
              case rel => exact ⟨a2, c2, rfl, hmid⟩
          case rest =>
            obtain ⟨a2, c2, rfl, hm2⟩ := hcut
            have hSA := hide (same_quiet d1 a1 a2 c1 c2 _ _ wc hm2.md.r1.own hm2.r2.own (by omega) 0)
            have hSB := hide (fun q => same_quiet d a b ca cb _ _ wc hm2.md.ra.own hm2.md.rb.own (by omega) q)
            have hSP := hide (fun q => spoil_any d.length ca _ a (wc.drewN q) (by omega) (num_row (own_below hm2.md.ra.own (below_drawn (Below.refl _ _) q))))
            have HM2 := hide hm2
            clear hm2 p0 p1 p2
            go_wp2_with fail
            go_at_call 15
            refine (unhide hSA).mono ?_
            rintro e w' ⟨rfl, n9, rfl⟩
            go_wp2_with fail
            go_at_call 15
            refine (unhide hSB n9).mono ?_
            rintro e w' ⟨rfl, n8, rfl⟩
            go_wp2_with fail
            go_at_call 18
            refine (unhide hSP n8).mono ?_
            rintro e w5 ⟨rfl, hg5⟩
            obtain ⟨hW5, hA5⟩ := mid_spoil ((unhide HS).firm _) (unhide HM2).md (below_drawn (Below.refl _ _) n8) hg5
            have hCP := hide (copied_any d1 a1 c1 _ w5 (by omega) hA5.own)
            have hNX := hide (fun (b' : Option Addr) (cb' : Nat) (w6 : World) => own_next (T := T ++ x) (b := b') (cb := cb') (w6 := w6) (ts := ts) (i := i) (unhide HS) (by omega) hdl1 (by omega) (by rw [hszT]; exact hW5) hA5)
            clear hW5 hA5 hg5
            go_wp2_with fail
            go_at_call 19
            refine (unhide hCP).mono ?_
            rintro e w6 ⟨b6, c6, rfl, ho6, hb6⟩
            have hrel2 := hide (unhide hNX b6 c6 w6 ho6 hb6)
            clear ho6 hb6
            go_wp2
            go_roundw
            case rel => first | exact unhide hrel2 | ((repeat apply Exists.intro); exact ⟨unhide hrel2, rfl⟩)
            case measure => simp [intOf]; omega
      · have hltI : ¬ (i : Int) < (ts.length : Int) := by omega
        have hgb : 4 < base := by have := hW.hB; omega
        have hszT : T.size ≤ 1048576 := by have := sum_le ts i; omega
        obtain ⟨m0, m1, m2⟩ := hW.md.two
        have HTR := hide (cutsR_len l T)
        have HFN := hide (((unhide HS).fin hW.ps (unhide HENV wr hW.bel) hgb hszT (by omega)).mono fun e w1 h => mid_call ((unhide HS).firm _) hW hA hB (Below.refl _ _) h)
        have HRF := hide (fun W (hr : RS W lo hi S l T) => refEnd_any S lo hi l T W hr hszT)
        have hdl1 : (Cu.endP l T.data.toList (Cu.told l T.data.toList).length).length ≤ 1048577 := by
          have h1 := unhide HTR
          unfold Cu.endP
          rw [List.length_drop]
          omega
        generalize Cu.endP l T.data.toList (Cu.told l T.data.toList).length = d1 at *
        clear hW hA hB hne
        go_wp2_with fail
        go_at_call 20
        refine (unhide HFN).mono ?_
        rintro e w2 ⟨a1, c1, F', rfl, hmid⟩
        obtain ⟨p0, p1, p2⟩ := hmid.ow.md.two
        have HRD := hide ((unhide HRF w2 hmid.ow.rs).mono fun e w1 h => mid_ref ((unhide HS).firm _) hmid (Below.refl _ _) h)
        clear hmid m0 m1 m2
        go_wp2_with fail
        go_at_call 21
        refine (unhide HRD).mono ?_
        rintro e w3 ⟨a2, c2, rfl, hm2⟩
        have hSA := hide (same_quiet d1 a1 a2 c1 c2 _ _ w3 hm2.md.r1.own hm2.r2.own (by omega) 0)
        have hSP := hide (fun q => spoil_any d1.length c1 _ a1 (w3.drewN q) (by omega) (num_row (own_below hm2.md.r1.own (below_drawn (Below.refl _ _) q))))
        have HM2 := hide hm2
        clear hm2 p0 p1 p2
        go_wp2_with fail
        go_at_call 15
        refine (unhide hSA).mono ?_
        rintro e w' ⟨rfl, n9, rfl⟩
        go_wp2_with fail
        go_at_call 18
        refine (unhide hSP n9).mono ?_
        rintro e w5 ⟨rfl, hg5⟩
        have hW5 := (((unhide HM2).md.ow.below ((unhide HS).firm _) (below_drawn (Below.refl _ _) n9)).row ((unhide HS).firm _) hg5 (fun k hk => ⟨Nat.le_trans (unhide HM2).md.hn ((unhide HM2).md.r1.own.lt k hk).1, (unhide HM2).md.r1.out k hk⟩))
        have hol := cutOut_len f t ht
        have HCT := hide ((unhide HENV w5 hW5.bel).cut f t hf ht)
        generalize cutOut f.data.toList t.data.toList = c at *
        generalize isGood f.data.toList = ok at *
        have HW5 := hide hW5
        clear hg5 hW5
        go_wp2_with fail
        go_at_call 11
        refine (unhide HCT).mono ?_
        rintro e w6 ⟨a3, c3, rfl, ho6, hb6⟩
        have hal : Below w6.heap.size w6 (w6.alloc (.cells #[.slice a3 c.length c3, .bool ok] 39)) := (Below.refl _ _).alloc (Nat.le_refl _) _
        have hr6 := ((Row.new ((unhide HS).firm _) (unhide HW5).ps ho6).below hal)
        have hW7 := ((unhide HW5).below ((unhide HS).firm _) hb6).below ((unhide HS).firm _) hal
        have hSP := hide (spoil_any c.length c3 _ a3 _ (by omega) (num_row hr6.own))
        have hOW8 := hide (fun w8 hg => hW7.row (w1 := w8) ((unhide HS).firm _) (v := .slice a3 c.length c3) hg (fun k hk => ⟨Nat.le_trans (unhide HW5).top (hr6.own.lt k hk).1, hr6.out k hk⟩))
        clear ho6 hb6 hal hr6 hW7
        go_wp2_with fail
        go_at_call 18
        refine (unhide hSP).mono ?_
        rintro e w8 ⟨rfl, hg8⟩
        have hW8 := unhide hOW8 w8 hg8
        have hE8 := unhide HENV w8 hW8.bel
        have HCS := hide (cuts_walk f t w8 hf ht hE8.1 hE8.2.2.2 hE8.2.2.1 hE8.2.1)
        have HW8 := hide hW8
        clear hg8 hW8 hE8
        go_wp2_with fail
        go_at_call 22
        refine (unhide HCS).mono ?_
        rintro e w9 ⟨rfl, hb9⟩
        have hW9 := (unhide HW8).below ((unhide HS).firm _) hb9
        have htf : (⟨#[]⟩ : ByteArray).size = 0 := rfl
        have HFD := hide (((unhide HS).feed t hW9.ps (unhide HENV w9 hW9.bel) hgb (by omega) (by omega)).mono fun e w1 h => hW9.call ((unhide HS).firm _) h)
        have HRG := hide (fun W (hr : RS W lo hi S l ⟨#[]⟩) => refFeed_any S lo hi l ⟨#[]⟩ t W hr (by omega))
        have hdl2 : (Cu.feedP l ((⟨#[]⟩ : ByteArray) ++ t).data.toList (Cu.told l (⟨#[]⟩ : ByteArray).data.toList).length).length ≤ 1048577 := by
          have h1 := told_len (unhide HR2) ((⟨#[]⟩ : ByteArray) ++ t)
          have h2 : ((⟨#[]⟩ : ByteArray) ++ t).size = t.size := by simp; rfl
          unfold Cu.feedP
          rw [List.length_drop]
          omega
        generalize Cu.feedP l ((⟨#[]⟩ : ByteArray) ++ t).data.toList (Cu.told l (⟨#[]⟩ : ByteArray).data.toList).length = d2 at *
        obtain ⟨p0, p1, p2⟩ := hW9.md.two
        have HT9 := hide hW9.top
        clear hb9 hW9
        go_wp2_with fail
        go_at_call 16
        refine (unhide HFD).mono ?_
        rintro e w10 ⟨a4, c4, F4, rfl, hW10, hr4, _, _⟩
        obtain ⟨r0, r1, r2⟩ := hW10.md.two
        have HRH := hide ((unhide HRG w10 hW10.rs).mono fun e w1 h => hW10.ref ((unhide HS).firm _) h)
        have HW10 := hide hW10
        have HR4 := hide hr4
        clear p0 p1 p2 hW10 hr4
        go_wp2_with fail
        go_at_call 17
        refine (unhide HRH).mono ?_
        rintro e w11 ⟨a5, c5, rfl, hW11, hr5, hg11⟩
        have hr6 := (unhide HR4).change hg11 (fun k hk e => by have h1 := ((unhide HR4).own.lt k hk).1; have h2 := (unhide HW10).rs.at_; have h3 := (unhide HW10).hB; simp at e; have h4 := unhide HT9; omega)
        have hSA := hide (same_quiet d2 a4 a5 c4 c5 _ _ w11 hr6.own hr5.own (by omega) 0)
        have HB11 := hide hW11.bel
        clear hW11 hr5 hr6 hg11 r0 r1 r2
        go_wp2_with fail
        go_at_call 15
        refine (unhide hSA).mono ?_
        rintro e w' ⟨rfl, n7, rfl⟩
        go_wp2
        go_ret
        exact ⟨rfl, below_drawn (unhide HB11) _⟩
end Go.Proofs.YtbppbejigedioabGreatDoor
/- Scripts as they come in. -/
namespace Go.Proofs.YtbppbejigedioabGreatDoor
open Go.ChangeShapes Go.WideShapes Go.ChangeAt Go.RowKit

/-- A step of a script. -/
structure OpV where
  k : Int
  a : Int
  b : Int
  s : ByteArray
  t : ByteArray
  va : Option Addr
  vl : Nat
  vc : Nat
def OpV.cells (x : OpV) : List Value := [.int .i64 x.k, .int .i64 x.a, .int .i64 x.b, .string x.s, .string x.t, .slice x.va x.vl x.vc]
def OpAt (W : World) (ad : Addr) (x : OpV) : Prop := ∀ j u, x.cells[j]? = some u → W.cell? (ad.add j) = some u
def OpsIn (W : World) (base : Nat) (a : Option Addr) (ops : List OpV) : Prop :=
  ∀ (i : Nat) (x : OpV), ops[i]? = some x → ∃ b off : Nat, a = some ⟨b, off, none⟩ ∧ b < base ∧ ∀ j u, x.cells[j]? = some u → W.cell? ⟨b, off + i * 6 + j, none⟩ = some u
theorem OpsIn.below {w w' : World} {base : Nat} {a : Option Addr} {ops : List OpV} (h : OpsIn w base a ops) (hb : Below base w w') : OpsIn w' base a ops := fun i x hx => by
  obtain ⟨b, off, h1, h2, h3⟩ := h i x hx
  exact ⟨b, off, h1, h2, fun j u hu => by rw [← h3 j u hu]; exact hb.cell h2⟩
theorem OpsIn.texts {w : World} {base : Nat} {a : Option Addr} {ops : List OpV} (h : OpsIn w base a ops) : ScriptIn w base a (ops.map (·.t)) := fun i x hx => by
  rw [List.getElem?_map, Option.map_eq_some_iff] at hx
  obtain ⟨y, hy, rfl⟩ := hx
  obtain ⟨b, off, h1, h2, h3⟩ := h i y hy
  exact ⟨b, off, h1, h2, h3 4 _ rfl⟩
def structOf : Option TypeDesc → Option (List (Nat × Nat))
  | some (.struct fs) => some (fs.toList.map fun f => (f.type, f.offset))
  | _ => none
theorem op_look : structOf (Tryz.prog.underlying 32) = some [(3, 0), (3, 1), (3, 2), (9, 3), (9, 4), (30, 5)] := by kernel_rfl
theorem op_fields : ∃ fs : Array Field, Tryz.prog.underlying 32 = some (.struct fs) ∧ fs.toList.map (fun f => (f.type, f.offset)) = [(3, 0), (3, 1), (3, 2), (9, 3), (9, 4), (30, 5)] := by
  have h := op_look
  generalize Tryz.prog.underlying 32 = u at h
  unfold structOf at h
  split at h
  · exact ⟨_, rfl, by simpa using h⟩
  · cases h
theorem op_cells : Tryz.prog.cellsOf 32 = 6 := by kernel_rfl
theorem ops_under : Tryz.prog.underlying 22 = some (.slice 32) := by kernel_rfl
theorem one_int : Tryz.prog.cellsOf 3 = 1 := by kernel_rfl
theorem one_string : Tryz.prog.cellsOf 9 = 1 := by kernel_rfl
theorem one_slice : Tryz.prog.cellsOf 30 = 1 := by kernel_rfl
theorem op_field {fs : Array Field} (hfs : fs.toList.map (fun f => (f.type, f.offset)) = [(3, 0), (3, 1), (3, 2), (9, 3), (9, 4), (30, 5)]) {j : Nat} {t o : Nat} (h : ([(3, 0), (3, 1), (3, 2), (9, 3), (9, 4), (30, 5)] : List (Nat × Nat))[j]? = some (t, o)) : ∃ f, fs[j]? = some f ∧ f.type = t ∧ f.offset = o := by
  rw [← hfs, List.getElem?_map, Option.map_eq_some_iff] at h
  obtain ⟨f, hf, he⟩ := h
  simp only [Prod.mk.injEq] at he
  exact ⟨f, by simpa using hf, he.1, he.2⟩

set_option maxRecDepth 100000 in
/-- One step, as it reads. -/
theorem open_op {H : Type} {enc : TypeId × Value → H} {W : World} {fuel : Nat} {cs : List Value} {x : DataW H × List MemPlace} (h : DataW.trod enc Tryz.prog W 0 (fun _ => true) true fuel 32 cs = some x) :
    ∃ o : OpV, cs = o.cells ∧ o.t.size + 1 ≤ Rows.uptoBulk x.1 := by
  obtain ⟨fs, hfs0, hfs⟩ := op_fields
  obtain ⟨xs, n, rfl, rfl, hcl, hxl, hf⟩ := DataW.trod_struct hfs0 h
  rw [op_cells] at hcl
  have six : xs.length = 6 := by
    rw [hxl]
    have := congrArg List.length hfs
    simpa using this
  obtain ⟨c0, c1, c2, c3, c4, c5, rfl⟩ : ∃ c0 c1 c2 c3 c4 c5, cs = [c0, c1, c2, c3, c4, c5] := by
    match cs, hcl with
    | [c0, c1, c2, c3, c4, c5], _ => exact ⟨c0, c1, c2, c3, c4, c5, rfl⟩
  obtain ⟨x0, x1, x2, x3, x4, x5, rfl⟩ : ∃ x0 x1 x2 x3 x4 x5, xs = [x0, x1, x2, x3, x4, x5] := by
    match xs, six with
    | [x0, x1, x2, x3, x4, x5], _ => exact ⟨x0, x1, x2, x3, x4, x5, rfl⟩
  have g0 : DataW.trod enc Tryz.prog W 0 (fun _ => true) true n 3 [c0] = some x0 := by
    obtain ⟨f, h1, h2, h3⟩ := op_field hfs (j := 0) rfl
    have h4 := hf 0 f h1
    rw [h2, h3, one_int] at h4
    exact h4
  have g1 : DataW.trod enc Tryz.prog W 0 (fun _ => true) true n 3 [c1] = some x1 := by
    obtain ⟨f, h1, h2, h3⟩ := op_field hfs (j := 1) rfl
    have h4 := hf 1 f h1
    rw [h2, h3, one_int] at h4
    exact h4
  have g2 : DataW.trod enc Tryz.prog W 0 (fun _ => true) true n 3 [c2] = some x2 := by
    obtain ⟨f, h1, h2, h3⟩ := op_field hfs (j := 2) rfl
    have h4 := hf 2 f h1
    rw [h2, h3, one_int] at h4
    exact h4
  have g3 : DataW.trod enc Tryz.prog W 0 (fun _ => true) true n 9 [c3] = some x3 := by
    obtain ⟨f, h1, h2, h3⟩ := op_field hfs (j := 3) rfl
    have h4 := hf 3 f h1
    rw [h2, h3, one_string] at h4
    exact h4
  have g4 : DataW.trod enc Tryz.prog W 0 (fun _ => true) true n 9 [c4] = some x4 := by
    obtain ⟨f, h1, h2, h3⟩ := op_field hfs (j := 4) rfl
    have h4 := hf 4 f h1
    rw [h2, h3, one_string] at h4
    exact h4
  have g5 : DataW.trod enc Tryz.prog W 0 (fun _ => true) true n 30 [c5] = some x5 := by
    obtain ⟨f, h1, h2, h3⟩ := op_field hfs (j := 5) rfl
    have h4 := hf 5 f h1
    rw [h2, h3, one_slice] at h4
    exact h4
  obtain ⟨k, e0, rfl, _⟩ := DataW.trod_int Tryz.underlying3 g0
  obtain ⟨a, e1, rfl, _⟩ := DataW.trod_int Tryz.underlying3 g1
  obtain ⟨b, e2, rfl, _⟩ := DataW.trod_int Tryz.underlying3 g2
  obtain ⟨s, e3, rfl, _⟩ := DataW.trod_string Tryz.underlying9 g3
  obtain ⟨t, e4, rfl, _⟩ := DataW.trod_string Tryz.underlying9 g4
  simp only [List.cons.injEq, and_true] at e0 e1 e2 e3 e4
  subst e0 e1 e2 e3 e4
  have hbulk : t.size + 1 ≤ Rows.uptoBulk (DataW.agg [(.lit (.int .i64 k) : DataW H), .lit (.int .i64 a), .lit (.int .i64 b), .lit (.string s.data.toList), .lit (.string t.data.toList), x5.1]) := by
    simp only [Rows.uptoBulk, Rows.uptoBulkAll]
    rw [len_toList, len_toList]
    omega
  rcases DataW.trod_slice Tryz.underlying30 g5 with ⟨hcs, hx⟩ | ⟨ad, len, cap, elems, rest, n', _, hcs, _⟩
  · simp only [List.cons.injEq, and_true] at hcs
    subst hcs
    exact ⟨⟨k, a, b, s, t, none, 0, 0⟩, rfl, hbulk⟩
  · simp only [List.cons.injEq, and_true] at hcs
    subst hcs
    exact ⟨⟨k, a, b, s, t, some ad, len, cap⟩, rfl, hbulk⟩

/-- The steps, one behind the other. -/
theorem ops_list {H : Type} (Q : Nat → OpV → Prop) : ∀ (elems : List (DataW H × List MemPlace)) (j : Nat), (∀ (i : Nat) (x : DataW H × List MemPlace), elems[i]? = some x → ∃ o : OpV, Q (j + i) o ∧ o.t.size + 1 ≤ Rows.uptoBulk x.1) →
    ∃ ops : List OpV, ops.length = elems.length ∧ (∀ (i : Nat) (o : OpV), ops[i]? = some o → Q (j + i) o) ∧ ops.length + sumS (ops.map (·.t)) ≤ Rows.uptoBulkAll (elems.map (·.1))
  | [], j, _ => ⟨[], rfl, fun i o h => by simp at h, by simp [sumS]⟩
  | x :: elems, j, h => by
    obtain ⟨o, ho, hb⟩ := h 0 x rfl
    obtain ⟨ops, h1, h2, h3⟩ := ops_list Q elems (j + 1) (fun i y hy => by
      obtain ⟨o', h4, h5⟩ := h (i + 1) y (by simpa using hy)
      exact ⟨o', by rw [show j + 1 + i = j + (i + 1) by omega]; exact h4, h5⟩)
    refine ⟨o :: ops, by simp [h1], fun i y hy => ?_, ?_⟩
    · cases i with
      | zero => simp at hy; subst hy; exact ho
      | succ i => rw [show j + (i + 1) = j + 1 + i by omega]; exact h2 i y (by simpa using hy)
    · simp only [List.map_cons, Rows.uptoBulkAll, sumS, List.sum_cons, List.length_cons] at h3 ⊢
      omega
set_option maxRecDepth 100000 in
/-- A script as it came in. -/
theorem open_ops {H : Type} {enc : TypeId × Value → H} {W : World} {base : Nat} {v : Value} {d : DataW H} {ps : List MemPlace} (hv : Value.okWide Tryz.prog W .any base 22 v) (h : DataW.Trod enc Tryz.prog W 0 (fun _ => true) true 22 v d ps) :
    ∃ (a : Option Addr) (ops : List OpV) (cap : Nat), v = .slice a ops.length cap ∧ OpsIn W W.heap.size a ops ∧ ops.length + sumS (ops.map (·.t)) ≤ Rows.uptoBulk d := by
  obtain ⟨a0, len, cap, rfl⟩ := okWide_slice ops_under hv
  obtain ⟨fuel, hf⟩ := h
  rcases DataW.trod_slice ops_under hf with ⟨hcs, hx⟩ | ⟨a, len', cap', elems, rest, n, _, hcs, hx, _, hl, hm, hlen, hel, _⟩
  · simp only [Value.cells, List.cons.injEq, and_true, Value.slice.injEq] at hcs
    obtain ⟨rfl, rfl, rfl⟩ := hcs
    exact ⟨none, [], 0, rfl, fun i x hx => by simp at hx, by simp [sumS]⟩
  · simp only [Value.cells, List.cons.injEq, and_true, Value.slice.injEq] at hcs
    obtain ⟨rfl, rfl, rfl⟩ := hcs
    have hd : d = .slice (elems.map (·.1)) (rest.map (·.1)) := by have := congrArg Prod.fst hx; simpa using this
    rw [op_cells] at hel
    obtain ⟨ops, h1, h2, h3⟩ := ops_list (fun i o => ∀ j u, o.cells[j]? = some u → W.cell? ((a.add (i * 6)).add j) = some u) elems 0 (fun i x hxi => by
      have hil : i < len := by rw [← hlen]; exact (List.getElem?_eq_some_iff.1 hxi).1
      have he := hel i hil
      rw [hxi, Option.bind_eq_some_iff] at he
      obtain ⟨cs, hcs, htr⟩ := he
      obtain ⟨o, rfl, hb⟩ := open_op htr
      obtain ⟨_, hl6, hc6⟩ := World.cells?_some hcs
      refine ⟨o, fun j u hu => ?_, hb⟩
      rw [Nat.zero_add, hc6 j (by have := (List.getElem?_eq_some_iff.1 hu).1; omega)]
      exact hu)
    refine ⟨some a, ops, cap, by rw [h1, hlen], fun i x hxi => ?_, by rw [hd]; simp only [Rows.uptoBulk]; omega⟩
    have hc := h2 i x hxi
    have hi0 : 0 < ops.length := by have := (List.getElem?_eq_some_iff.1 hxi).1; omega
    have hc0 := h2 0 ops[0] (by simp [hi0]) 0 _ rfl
    obtain ⟨b, off, spot⟩ := a
    have hspot : spot = none := by simpa [Addr.add] using World.cell?_spot hc0
    subst hspot
    have hadd : ∀ k : Nat, (⟨b, off, none⟩ : Addr).add k = ⟨b, off + k, none⟩ := fun k => by unfold Addr.add; split <;> simp_all
    have hadd2 : ∀ k j : Nat, (⟨b, off + k, none⟩ : Addr).add j = ⟨b, off + k + j, none⟩ := fun k j => by unfold Addr.add; split <;> simp_all
    refine ⟨b, off, rfl, ?_, fun j u hu => ?_⟩
    · have := World.block_lt_of_cell? W _ hc0
      rw [Nat.zero_add, hadd, hadd2] at this
      exact this
    · have := hc j u hu
      rw [Nat.zero_add, hadd, hadd2] at this
      exact this
end Go.Proofs.YtbppbejigedioabGreatDoor
