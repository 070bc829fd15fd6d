/- The laws' opens, spoil, copied. -/
import Derived.Test.YtbppbejigedioabGreatDoorStAsk
import Derived.Laws.OwnMore
namespace Go.Proofs.YtbppbejigedioabGreatDoor
open Go.RowKit

/-- Two streams side by side: the program's and the document's. -/
structure Both (PS : PSt) (w : World) (base X lo hi S : Nat) (l : List Cu.Ln) (T : ByteArray) (F : Nat → Prop) : Prop where
  ps : PS w base X l T F
  rs : RS w lo hi S l T
  apart : ∀ k, F k → k < lo
  top : hi ≤ w.heap.size
  low : base ≤ lo
/-- What opens answers. -/
def OpensRes (PS : PSt) (f : ByteArray) (w : World) (e : Ending) (w' : World) : Prop :=
  ((Cu.check f.data.toList).1 ≠ 0 ∧ e = .returned (.tuple #[.agg #[.pointer none, .pointer none], .bool true]) ∧ Below w.heap.size w w') ∨
  ((Cu.check f.data.toList).1 = 0 ∧ ∃ (X S base lo hi : Nat) (F : Nat → Prop), e = .returned (.tuple #[.agg #[.pointer (some ⟨X, 0, none⟩), .pointer (some ⟨S, 0, none⟩)], .bool true]) ∧ w.heap.size ≤ base ∧ Both PS w' base X lo hi S (Cu.readGo f.data.toList 12 0 []).2.2 ⟨#[]⟩ F ∧ Below w.heap.size w w')
theorem Both.set {PS : PSt} (hS : Firm PS) {w : World} {base X lo hi S : Nat} {l : List Cu.Ln} {T : ByteArray} {F : Nat → Prop} (h : Both PS w base X lo hi S l T F) {b : Nat} (hb : b < base) (j : Nat) (u : Value) : Both PS (w.setCell ⟨b, j, none⟩ u) base X lo hi S l T F := by
  have hl := h.low
  have hk : ∀ k, base ≤ k → (w.setCell ⟨b, j, none⟩ u).heap[k]? = w.heap[k]? := fun k hk => Below.heap_setCell _ _ _ _ (by show k ≠ b; omega)
  exact ⟨hS.frame h.ps (fun k hF => hk k (hS.foot h.ps k hF).1), h.rs.same (fun k h1 _ => hk k (by omega)), h.apart, by simpa [World.setCell] using h.top, hl⟩

set_option maxRecDepth 100000 in
set_option maxHeartbeats 1000000 in
theorem opens_any (PS : Nat → PSt) (hS : Streamy PS) (hO : Opens PS) (f : ByteArray) (w : World) (hf : f.size ≤ 9223372036854775807) (hE : Env w) :
    Calls Tryz.prog 8 #[.string f] w fun e w' => OpensRes (PS 0) f w e w' := by
  have hal : Below w.heap.size w (w.alloc (.cells #[.pointer none, .pointer none] 26)) := (Below.refl _ _).alloc (Nat.le_refl _) _
  have HOP := hide (hO f _ hf (hE.below hal hE.2.2.2))
  have HAL := hide hal
  have HS := hide hS
  clear hO hE hal hS
  go_enter Tryz.func8, Tryz.ntmps8
  go_wp2_with fail
  refine (unhide HOP).mono ?_
  rintro e w1 (⟨hc, rfl, hb⟩ | ⟨hc, X, F, rfl, hps, hb⟩)
  · have dc : (((Cu.check f.data.toList).1 : Int) != 0) = true := by simp; omega
    have HB := hide hb
    have HC := hide hc
    have hs1 := hb.size
    have hs0 : (w.alloc (.cells #[.pointer none, .pointer none] 26)).heap.size = w.heap.size + 1 := by simp
    clear hb hc
    go_wp2_with fail
    refine (refOpen_any f _ hf).mono ?_
    rintro e w2 (⟨_, rfl, hb2⟩ | ⟨h0, _⟩)
    · have hb12 := below_two hb2 (unhide HB)
      have hB2 := (Blk.new w [.pointer none, .pointer none] 26).below hb12 (by simp)
      obtain ⟨q0, q1, q2⟩ := hB2.two
      have hlt := hB2.lt
      have hb02 : Below w.heap.size w w2 := (unhide HAL).trans (hb12.mono (by omega))
      have HF : Hid (∀ x y, Below w.heap.size w ((w2.setCell ⟨w.heap.size, 0, none⟩ x).setCell ⟨w.heap.size, 1, none⟩ y)) := hide (fun x y => (hb02.setCell (Nat.le_refl _) _).setCell (Nat.le_refl _) _)
      clear hb2 hb12 hB2 hb02
      go_wp2_with (go_at_call 13; refine (num_any _ _).mono ?_; rintro e w' ⟨rfl, rfl⟩)
      exact bodyPost_ret (v := .tuple #[.agg #[.pointer none, .pointer none], .bool true]) (by simp [results, Tryz.results8, go_sem, *]) rfl (Or.inl ⟨unhide HC, rfl, unhide HF _ _⟩)
    · exact absurd h0 (unhide HC)
  · have HB := hide hb
    have HC := hide hc
    have HPS := hide hps
    have hs1 := hb.size
    have hs0 : (w.alloc (.cells #[.pointer none, .pointer none] 26)).heap.size = w.heap.size + 1 := by simp
    clear hb hc hps
    go_wp2_with fail
    refine (refOpen_any f _ hf).mono ?_
    rintro e w2 (⟨h0, _⟩ | ⟨_, S, rfl, hSl, hrs, hb2⟩)
    · exact absurd (unhide HC) h0
    · have hb12 := below_two hb2 (unhide HB)
      have hB2 := (Blk.new w [.pointer none, .pointer none] 26).below hb12 (by simp)
      obtain ⟨q0, q1, q2⟩ := hB2.two
      have hlt := hB2.lt
      have hb02 : Below w.heap.size w w2 := (unhide HAL).trans (hb12.mono (by omega))
      have hboth : Both (PS 0) w2 (w.heap.size + 1) X w1.heap.size w2.heap.size S (Cu.readGo f.data.toList 12 0 []).2.2 ⟨#[]⟩ F := ⟨by have h := (unhide HS).below (unhide HPS) hb2; rw [hs0] at h; exact h, hrs, fun k hk => ((unhide HS).foot (unhide HPS) k hk).2, Nat.le_refl _, by omega⟩
      have HF : Hid (∀ x y, Both (PS 0) ((w2.setCell ⟨w.heap.size, 0, none⟩ x).setCell ⟨w.heap.size, 1, none⟩ y) (w.heap.size + 1) X w1.heap.size w2.heap.size S (Cu.readGo f.data.toList 12 0 []).2.2 ⟨#[]⟩ F ∧ Below w.heap.size w ((w2.setCell ⟨w.heap.size, 0, none⟩ x).setCell ⟨w.heap.size, 1, none⟩ y)) := hide (fun x y => ⟨(hboth.set ((unhide HS).firm _) (by omega) _ _).set ((unhide HS).firm _) (by omega) _ _, (hb02.setCell (Nat.le_refl _) _).setCell (Nat.le_refl _) _⟩)
      clear hb2 hb12 hB2 hb02 hboth hrs
      go_wp2_with (go_at_call 13; refine (num_any _ _).mono ?_; rintro e w' ⟨rfl, rfl⟩)
      exact bodyPost_ret (v := .tuple #[.agg #[.pointer (some ⟨X, 0, none⟩), .pointer (some ⟨S, 0, none⟩)], .bool true]) (by simp [results, Tryz.results8, go_sem, *]) rfl (Or.inr ⟨unhide HC, X, S, _, _, _, F, rfl, Nat.le_succ _, (unhide HF _ _).1, (unhide HF _ _).2⟩)

/-- A row of numbers, whatever they are. -/
def NumRow (w : World) (b n : Nat) (v : Value) : Prop := ∃ ms : List Int, ms.length = n ∧ w.ownsRow b 3 1 v n (ms.map (Value.int .i64))
theorem num_row {w : World} {b : Nat} {v : Value} {l : List Nat} (h : w.ownsRow b 3 1 v l.length (intCells l)) : NumRow w b l.length v := ⟨l.map (fun (n : Nat) => (n : Int)), by simp, by unfold intCells at h; simpa [List.map_map, Function.comp_def] using h⟩
theorem num_cell {w : World} {b n cap : Nat} {a : Option Addr} (h : NumRow w b n (.slice a n cap)) (i : Nat) (hi : i < n) :
    ∃ (g : Nat) (x : Int), a = some ⟨g, 0, none⟩ ∧ w.cell? ⟨g, i, none⟩ = some (.int .i64 x) ∧ w.frozen? ⟨g, i, none⟩ = false ∧ ∀ y, NumRow (w.setCell ⟨g, i, none⟩ (.int .i64 y)) b n (.slice a n cap) ∧ w.grownBy (w.setCell ⟨g, i, none⟩ (.int .i64 y)) (some g) := by
  obtain ⟨ms, hm, ho⟩ := h
  have ho' := ho
  rcases ho.2 with ⟨hv, h0⟩ | ⟨g, cap', cur, hv, _⟩
  · omega
  · simp only [Value.slice.injEq, true_and] at hv
    obtain ⟨rfl, rfl⟩ := hv
    refine ⟨g, ms[i]'(by omega), rfl, ?_, ho'.frozenAt i, fun y => ⟨⟨ms.set i y, by simpa using hm, ?_⟩, (ho'.stored i _).2⟩⟩
    · rw [ho'.cellAt i (by omega), List.getElem?_map, List.getElem?_eq_getElem (by omega)]
      rfl
    · have h1 := (ho'.stored i (.int .i64 y)).1
      rw [← List.map_set] at h1
      exact h1

set_option maxRecDepth 100000 in
set_option maxHeartbeats 1000000 in
theorem spoil_any (n cap b : Nat) (a : Option Addr) (w : World) (hn : n ≤ 1048580) (h : NumRow w b n (.slice a n cap)) :
    Calls Tryz.prog 18 #[.slice a n cap] w fun e w' => e = .returned (.tuple #[]) ∧ w.grownBy w' (Value.slice a n cap).ownBlock := by
  go_enter Tryz.func18, Tryz.ntmps18
  go_wp2
  go_loopw [2] (fun v wr => ∃ i : Nat, i ≤ n ∧ v = .int .i64 i ∧ NumRow wr b n (.slice a n cap) ∧ w.grownBy wr (Value.slice a n cap).ownBlock) (fun v _ => 1048582 - (intOf v).toNat)
  case atStart =>
    go_light
    exact ⟨0, Nat.zero_le _, rfl, h, grown_of_below (Below.refl _ _) _⟩
  case round =>
    obtain ⟨i, hi, rfl, hr, hg⟩ := hrel
    by_cases hlt : i < n
    · obtain ⟨g, x, rfl, c0, c1, hst⟩ := num_cell hr i hlt
      have hltI : (i : Int) < (n : Int) := by omega
      have hnext := hide (fun (y : Int) => (⟨i + 1, by omega, by go_num, (hst y).1, grown_tr hg (hst y).2⟩ : ∃ k : Nat, k ≤ n ∧ Value.int .i64 ((i : Int) + 1) = .int .i64 k ∧ NumRow (wr.setCell ⟨g, i, none⟩ (.int .i64 y)) b n (.slice (some ⟨g, 0, none⟩) n cap) ∧ w.grownBy (wr.setCell ⟨g, i, none⟩ (.int .i64 y)) (Value.slice (some ⟨g, 0, none⟩) n cap).ownBlock))
      clear hst hr hg h
      go_wp2
      go_roundw
      case rel => first | exact unhide hnext _ | ((repeat apply Exists.intro); exact ⟨unhide hnext _, rfl⟩)
      case measure => simp [intOf]; omega
    · have hltI : ¬ (i : Int) < (n : Int) := by omega
      have HG := hide hg
      clear hr hg h
      go_wp2
      go_end0
      exact ⟨rfl, unhide HG⟩

/-- make of n numbers. -/
theorem make_ints (W : World) (n : Nat) (hn : n ≤ 1048580) : ∃ us : List Value, us.length = n ∧ Sem.run Tryz.prog (Instr.makeSlice 30 (.int .i64 n) (.int .i64 n)) W = .ok (.slice (some ⟨W.heap.size, 0, none⟩) n n) (W.alloc (.cells us.toArray 3)) := by
  obtain ⟨i0, ki, kz0, kz1, kz2⟩ := info_parts Tryz.info3
  have h := run_make (P := Tryz.prog) W 30 3 i0 (.int .i64 0) Tryz.underlying30 ki kz0 .i64 .i64 n n (by omega) (Int.le_refl _) (by rw [kz2]; omega) (by omega)
  refine ⟨(madeCells (Value.int .i64 0).cells (n * 1)).toList, by simp [size_madeCells], ?_⟩
  rw [kz1] at h
  simpa using h
theorem own_made (W : World) (us : List Value) (n : Nat) (hu : us.length = n) (hn : n ≤ maxLen) : (W.alloc (.cells us.toArray 3)).ownsRow W.heap.size 3 1 (.slice (some ⟨W.heap.size, 0, none⟩) n n) n us := by
  have h := World.ownsRow_lit (base := W.heap.size) (e := 3) (size := 1) W us.toArray n (Nat.le_refl _) hn (by simp [hu])
  simpa using h

set_option maxRecDepth 100000 in
set_option maxHeartbeats 1000000 in
theorem copied_any (l : List Nat) (a : Option Addr) (cap b : Nat) (w : World) (hl : l.length ≤ 1048580) (ho : w.ownsRow b 3 1 (.slice a l.length cap) l.length (intCells l)) :
    Calls Tryz.prog 19 #[.slice a l.length cap] w fun e w' => ∃ (a' : Option Addr) (cap' : Nat), e = .returned (.slice a' l.length cap') ∧ w'.ownsRow w.heap.size 3 1 (.slice a' l.length cap') l.length (intCells l) ∧ Below w.heap.size w w' := by
  obtain ⟨us, hus, hmk⟩ := make_ints w l.length hl
  have how := hide (own_made w us l.length hus (by unfold maxLen; omega))
  have HO := hide ho
  clear ho
  go_enter Tryz.func19, Tryz.ntmps19
  go_wp2
  go_loopw [4] (fun v wr => ∃ (i : Nat) (ms : List Value), i ≤ l.length ∧ v = .int .i64 i ∧ wr.ownsRow w.heap.size 3 1 (.slice (some ⟨w.heap.size, 0, none⟩) l.length l.length) l.length ms ∧ ms.length = l.length ∧ ms.take i = intCells (l.take i) ∧ Below w.heap.size w wr) (fun v _ => 1048582 - (intOf v).toNat)
  case atStart =>
    go_light
    exact ⟨0, us, Nat.zero_le _, rfl, unhide how, hus, by simp [intCells], (Below.refl _ _).alloc (Nat.le_refl _) _⟩
  case round =>
    obtain ⟨i, ms, hi, rfl, hr, hml, hmt, hb⟩ := hrel
    by_cases hlt : i < l.length
    · obtain ⟨g, x, rfl, hx, c0⟩ := int_cell (own_below (unhide HO) hb) i hlt
      have hltI : (i : Int) < (l.length : Int) := by omega
      have hst := hr.stored i (.int .i64 x)
      have c1 := hr.frozenAt i
      obtain ⟨u0, c2⟩ : ∃ u, wr.cell? ⟨w.heap.size, i, none⟩ = some u := ⟨ms[i]'(by omega), by rw [hr.cellAt i (by omega), List.getElem?_eq_getElem (by omega)]⟩
      have hnext : Hid (∃ (k : Nat) (ms : List Value), k ≤ l.length ∧ Value.int .i64 ((i : Int) + 1) = .int .i64 k ∧ (wr.setCell ⟨w.heap.size, i, none⟩ (.int .i64 x)).ownsRow w.heap.size 3 1 (.slice (some ⟨w.heap.size, 0, none⟩) l.length l.length) l.length ms ∧ ms.length = l.length ∧ ms.take k = intCells (l.take k) ∧ Below w.heap.size w (wr.setCell ⟨w.heap.size, i, none⟩ (.int .i64 x))) := hide ⟨i + 1, ms.set i (.int .i64 x), by omega, by go_num, hst.1, by simpa using hml, by
        rw [List.take_add_one, List.take_set_of_le (Nat.le_refl _), hmt, List.getElem?_set_self (by omega), List.take_add_one, hx]
        unfold intCells
        simp, hb.setCell (Nat.le_refl _) _⟩
      clear hst hr hml hmt hb hx how
      go_wp2
      go_roundw
      case rel => first | exact unhide hnext | ((repeat apply Exists.intro); exact ⟨unhide hnext, rfl⟩)
      case measure => simp [intOf]; omega
    · have hltI : ¬ (i : Int) < (l.length : Int) := by omega
      have hfin : Hid (∃ (a' : Option Addr) (cap' : Nat), Ending.returned (.slice (some ⟨w.heap.size, 0, none⟩) l.length l.length) = .returned (.slice a' l.length cap') ∧ wr.ownsRow w.heap.size 3 1 (.slice a' l.length cap') l.length (intCells l) ∧ Below w.heap.size w wr) := hide ⟨_, _, rfl, by
        rw [List.take_of_length_le (by omega), List.take_of_length_le (by omega)] at hmt
        rw [← hmt]
        exact hr, hb⟩
      clear hr hml hmt hb how
      go_wp2
      go_ret
      exact unhide hfin
end Go.Proofs.YtbppbejigedioabGreatDoor
