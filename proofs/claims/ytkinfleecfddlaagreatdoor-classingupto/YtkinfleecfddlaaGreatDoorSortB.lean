/- slices.SortFunc at the book's items. -/
import Derived.Test.YtkinfleecfddlaaGreatDoorBookD
import Derived.Test.YtkinfleecfddlaaGreatDoorSortA
import Derived.Shelf.SlSortCmp.WholeK
namespace Go.Proofs.YtkinfleecfddlaaGreatDoor
open Go.RowKit

def itemEnc (x : KItem) : List Value := [.int .i32 x.2.1, .int .i32 x.2.2.1, .int .i64 x.1, .int .i64 x.2.2.2]
def itemCmp (x y : KItem) : Int := Lib.compareInt x.2.1 y.2.1

set_option maxRecDepth 100000 in
set_option maxHeartbeats 400000 in
theorem isNaN_rune (x : Int) (w : World) : Calls Tryz.prog 64 #[.int .i32 x] w fun e w' => e = .returned (.bool false) ∧ w = w' := by
  go_enter Tryz.func64, Tryz.ntmps64
  go_wp2
  go_ret
  exact ⟨by simp, rfl⟩

set_option maxRecDepth 100000 in
set_option maxHeartbeats 400000 in
theorem compare_rune (x y : Int) (w : World) : Calls Tryz.prog 38 #[.int .i32 x, .int .i32 y] w fun e w' => e = .returned (.int .i64 (Lib.compareInt x y)) ∧ w = w' := by
  by_cases h1 : x < y
  · have hr : Hid (Lib.compareInt x y = -1) := hide (by unfold Lib.compareInt; rw [if_pos h1])
    go_enter Tryz.func38, Tryz.ntmps38
    go_wp2_with (go_at_call 64; refine (isNaN_rune _ _).mono ?_; rintro e w' ⟨rfl, rfl⟩)
    go_ret
    exact ⟨by rw [unhide hr]; rfl, rfl⟩
  · by_cases h2 : y < x
    · have hr : Hid (Lib.compareInt x y = 1) := hide (by unfold Lib.compareInt; rw [if_neg h1, if_pos h2])
      go_enter Tryz.func38, Tryz.ntmps38
      go_wp2_with (go_at_call 64; refine (isNaN_rune _ _).mono ?_; rintro e w' ⟨rfl, rfl⟩)
      go_ret
      exact ⟨by rw [unhide hr]; rfl, rfl⟩
    · have hr : Hid (Lib.compareInt x y = 0) := hide (by unfold Lib.compareInt; rw [if_neg h1, if_neg h2])
      go_enter Tryz.func38, Tryz.ntmps38
      go_wp2_with (go_at_call 64; refine (isNaN_rune _ _).mono ?_; rintro e w' ⟨rfl, rfl⟩)
      go_ret
      exact ⟨by rw [unhide hr]; rfl, rfl⟩

set_option maxRecDepth 100000 in
set_option maxHeartbeats 1000000 in
theorem closure_any (x y : KItem) (W : World) : Calls Tryz.prog 37 #[.agg (itemEnc x).toArray, .agg (itemEnc y).toArray] W fun e w' => e = .returned (.int .i64 (itemCmp x y)) ∧ ∃ q os', w' = Go.Sort.grow (W.drewN q) os' := by
  have hcon := fun W' => compare_rune (x.2.1 : Int) (y.2.1 : Int) W'
  unfold itemEnc itemCmp
  generalize Lib.compareInt (x.2.1 : Int) (y.2.1 : Int) = r at hcon ⊢
  go_enter Tryz.func37, Tryz.ntmps37
  go_wp2_with (go_at_call 38; refine (hcon _).mono ?_; rintro e w' ⟨rfl, rfl⟩)
  go_ret
  exact ⟨rfl, 0, _, by rw [Go.Sort.alloc_eq_grow, Go.Sort.alloc_eq_grow, Go.Sort.grow_grow]; rfl⟩

theorem ltItem (x y : KItem) : ltOf itemCmp x y = decide (x.2.1 < y.2.1) := by
  unfold ltOf itemCmp Lib.compareInt
  by_cases h1 : (x.2.1 : Int) < y.2.1
  · have : x.2.1 < y.2.1 := by omega
    simp [h1, this]
  · have h3 : ¬ x.2.1 < y.2.1 := by omega
    by_cases h2 : (x.2.1 : Int) > y.2.1 <;> simp [h1, h2, h3]
theorem swoItem : Go.Sort.SWO (ltOf itemCmp) where
  irrefl x := by rw [ltItem]; simp
  trans x y z h1 h2 := by rw [ltItem] at *; simp at *; omega
  ntrans x y z h1 h2 := by rw [ltItem] at *; simp at *; omega

theorem own_free {w : World} {base g n cap size : Nat} {e : TypeId} {xs : List Value} (h : w.ownsRow base e size (.slice (some ⟨g, 0, none⟩) n cap) n xs) (j : Nat) : g < w.heap.size ∧ base ≤ g ∧ w.frozen? ⟨g, j, none⟩ = false := by
  rcases h.2 with ⟨hv, _⟩ | ⟨g', cap', cur, hv, hb, hh, _⟩
  · cases hv
  · simp only [Value.slice.injEq, Option.some.injEq, Addr.mk.injEq, and_true, true_and] at hv
    obtain ⟨rfl, rfl⟩ := hv
    exact ⟨(Array.getElem?_eq_some_iff.1 hh).1, hb, by simp [World.frozen?, hh]⟩
theorem kitemCells_flat (l : List KItem) (j : Nat) (hj : j < l.length * 4) : (kitemCells l)[j]? = some (Go.Sort.flatK itemEnc 4 l.toArray)[j]! := by
  rw [Go.Sort.get_flatK _ _ _ _ (by simpa using hj)]
  have h1 : j / 4 < l.length := by omega
  have h2 := kitemCells_get l (j / 4) (j % 4) h1 (by omega)
  rw [show j / 4 * 4 + j % 4 = j by omega] at h2
  rw [h2]
  have h3 : (l.toArray)[j / 4]! = l[j / 4] := by simp [h1]
  rw [h3]
  have h4 : j % 4 = 0 ∨ j % 4 = 1 ∨ j % 4 = 2 ∨ j % 4 = 3 := by omega
  rcases h4 with h | h | h | h <;> rw [h] <;> rfl
theorem holds_items {w : World} {base g cap : Nat} {l : List KItem} (h : w.ownsRow base 85 4 (.slice (some ⟨g, 0, none⟩) l.length cap) l.length (kitemCells l)) : Go.Sort.HoldsK itemEnc 4 w g 0 l.toArray := by
  intro j hj
  rw [Go.Sort.size_flatK] at hj
  have hj' : j < l.length * 4 := by simpa using hj
  refine ⟨?_, (own_free h _).2.2⟩
  rw [Nat.zero_add, h.cellAt j (by omega), kitemCells_flat l j hj']
  rfl
theorem sortWorld_below {w : World} {g B n : Nat} {d : Array KItem} {os : Array Obj} (hg : B ≤ g) (hB : B ≤ w.heap.size) : Below B w (sortWorldK itemEnc 4 w g 0 n d os) := by
  refine ⟨rfl, rfl, rfl, size_sortWorldK_c _ _ _ _ _ _ _ _, ?_⟩
  intro k hk
  show ((w.heap.modify g _) ++ os)[k]? = _
  rw [Array.getElem?_append_left (by simp; omega), Array.getElem?_modify, if_neg (by omega)]

end Go.Proofs.YtkinfleecfddlaaGreatDoor
