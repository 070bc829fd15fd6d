/- slices.SortFunc at the book's items. -/
import Derived.Test.YtbppbejigedioabGreatDoorBookD
import Derived.Test.YtbppbejigedioabGreatDoorSortA
import Derived.Shelf.SlSortCmp.WholeK
import Derived.Shelf.SlSortCmp.NoneTotal
namespace Go.Proofs.YtbppbejigedioabGreatDoor
open Go.RowKit

def itemEnc (x : KItem) : List Value := [.int .i32 x.2.1, .int .i32 x.2.2.1, .int .i64 x.1, .int .i64 x.2.2.2]
def itemCmp (x y : KItem) : Int := Lib.compareInt x.2.1 y.2.1

set_option maxRecDepth 100000 in
set_option maxHeartbeats 400000 in
theorem isNaN_rune (x : Int) (w : World) : Calls Tryz.prog 80 #[.int .i32 x] w fun e w' => e = .returned (.bool false) ∧ w = w' := by
  go_enter Tryz.func80, Tryz.ntmps80
  go_wp2
  go_ret
  exact ⟨by simp, rfl⟩

set_option maxRecDepth 100000 in
set_option maxHeartbeats 400000 in
theorem compare_rune (x y : Int) (w : World) : Calls Tryz.prog 48 #[.int .i32 x, .int .i32 y] w fun e w' => e = .returned (.int .i64 (Lib.compareInt x y)) ∧ w = w' := by
  by_cases h1 : x < y
  · have hr : Hid (Lib.compareInt x y = -1) := hide (by unfold Lib.compareInt; rw [if_pos h1])
    go_enter Tryz.func48, Tryz.ntmps48
    go_wp2_with (go_at_call 80; refine (isNaN_rune _ _).mono ?_; rintro e w' ⟨rfl, rfl⟩)
    go_ret
    exact ⟨by rw [unhide hr]; rfl, rfl⟩
  · by_cases h2 : y < x
    · have hr : Hid (Lib.compareInt x y = 1) := hide (by unfold Lib.compareInt; rw [if_neg h1, if_pos h2])
      go_enter Tryz.func48, Tryz.ntmps48
      go_wp2_with (go_at_call 80; refine (isNaN_rune _ _).mono ?_; rintro e w' ⟨rfl, rfl⟩)
      go_ret
      exact ⟨by rw [unhide hr]; rfl, rfl⟩
    · have hr : Hid (Lib.compareInt x y = 0) := hide (by unfold Lib.compareInt; rw [if_neg h1, if_neg h2])
      go_enter Tryz.func48, Tryz.ntmps48
      go_wp2_with (go_at_call 80; refine (isNaN_rune _ _).mono ?_; rintro e w' ⟨rfl, rfl⟩)
      go_ret
      exact ⟨by rw [unhide hr]; rfl, rfl⟩

set_option maxRecDepth 100000 in
set_option maxHeartbeats 1000000 in
theorem closure_any (x y : KItem) (W : World) : Calls Tryz.prog 47 #[.agg (itemEnc x).toArray, .agg (itemEnc y).toArray] W fun e w' => e = .returned (.int .i64 (itemCmp x y)) ∧ ∃ q os', w' = Go.Sort.grow (W.drewN q) os' := by
  have hcon := fun W' => compare_rune (x.2.1 : Int) (y.2.1 : Int) W'
  unfold itemEnc itemCmp
  generalize Lib.compareInt (x.2.1 : Int) (y.2.1 : Int) = r at hcon ⊢
  go_enter Tryz.func47, Tryz.ntmps47
  go_wp2_with (go_at_call 48; refine (hcon _).mono ?_; rintro e w' ⟨rfl, rfl⟩)
  go_ret
  exact ⟨rfl, 0, _, by rw [Go.Sort.alloc_eq_grow, Go.Sort.alloc_eq_grow, Go.Sort.grow_grow]; rfl⟩

theorem ltItem (x y : KItem) : ltOf itemCmp x y = decide (x.2.1 < y.2.1) := by
  unfold ltOf itemCmp Lib.compareInt
  by_cases h1 : (x.2.1 : Int) < y.2.1
  · have : x.2.1 < y.2.1 := by omega
    simp [h1, this]
  · have h3 : ¬ x.2.1 < y.2.1 := by omega
    by_cases h2 : (x.2.1 : Int) > y.2.1 <;> simp [h1, h2, h3]
theorem swoItem : Go.Sort.SWO (ltOf itemCmp) where
  irrefl x := by rw [ltItem]; simp
  trans x y z h1 h2 := by rw [ltItem] at *; simp at *; omega
  ntrans x y z h1 h2 := by rw [ltItem] at *; simp at *; omega

theorem own_free {w : World} {base g n cap size : Nat} {e : TypeId} {xs : List Value} (h : w.ownsRow base e size (.slice (some ⟨g, 0, none⟩) n cap) n xs) (j : Nat) : g < w.heap.size ∧ base ≤ g ∧ w.frozen? ⟨g, j, none⟩ = false := by
  rcases h.2 with ⟨hv, _⟩ | ⟨g', cap', cur, hv, hb, hh, _⟩
  · cases hv
  · simp only [Value.slice.injEq, Option.some.injEq, Addr.mk.injEq, and_true, true_and] at hv
    obtain ⟨rfl, rfl⟩ := hv
    exact ⟨(Array.getElem?_eq_some_iff.1 hh).1, hb, by simp [World.frozen?, hh]⟩
theorem kitemCells_flat (l : List KItem) (j : Nat) (hj : j < l.length * 4) : (kitemCells l)[j]? = some (Go.Sort.flatK itemEnc 4 l.toArray)[j]! := by
  rw [Go.Sort.get_flatK _ _ _ _ (by simpa using hj)]
  have h1 : j / 4 < l.length := by omega
  have h2 := kitemCells_get l (j / 4) (j % 4) h1 (by omega)
  rw [show j / 4 * 4 + j % 4 = j by omega] at h2
  rw [h2]
  have h3 : (l.toArray)[j / 4]! = l[j / 4] := by simp [h1]
  rw [h3]
  have h4 : j % 4 = 0 ∨ j % 4 = 1 ∨ j % 4 = 2 ∨ j % 4 = 3 := by omega
  rcases h4 with h | h | h | h <;> rw [h] <;> rfl
theorem holds_items {w : World} {base g cap : Nat} {l : List KItem} (h : w.ownsRow base 108 4 (.slice (some ⟨g, 0, none⟩) l.length cap) l.length (kitemCells l)) : Go.Sort.HoldsK itemEnc 4 w g 0 l.toArray := by
  intro j hj
  rw [Go.Sort.size_flatK] at hj
  have hj' : j < l.length * 4 := by simpa using hj
  refine ⟨?_, (own_free h _).2.2⟩
  rw [Nat.zero_add, h.cellAt j (by omega), kitemCells_flat l j hj']
  rfl
theorem sortWorld_below {w : World} {g B n : Nat} {d : Array KItem} {os : Array Obj} (hg : B ≤ g) (hB : B ≤ w.heap.size) : Below B w (sortWorldK itemEnc 4 w g 0 n d os) := by
  refine ⟨rfl, rfl, rfl, size_sortWorldK_c _ _ _ _ _ _ _ _, ?_⟩
  intro k hk
  show ((w.heap.modify g _) ++ os)[k]? = _
  rw [Array.getElem?_append_left (by simp; omega), Array.getElem?_modify, if_neg (by omega)]

end Go.Proofs.YtbppbejigedioabGreatDoor
/- slices.SortFunc at the book's items: the call. -/
namespace Go.Proofs.YtbppbejigedioabGreatDoor
open Go.RowKit

/-- By their first characters. -/
def Rising (l : List KItem) : Prop := l.Pairwise fun x y => x.2.1 ≤ y.2.1
def SortRes (B : Nat) (its : List KItem) (a : Option Addr) (c : Nat) (w : World) (e : Ending) (w' : World) : Prop :=
  e = .returned (.tuple #[]) ∧ ∃ its' : List KItem, its'.Perm its ∧ Rising its' ∧ w'.ownsRow B 108 4 (.slice a its'.length c) its'.length (kitemCells its') ∧ w.grownBy w' (Value.slice a its.length c).ownBlock

theorem perm_of_permIn {its : List KItem} {d' : Array KItem} (h : Go.Sort.PermIn 0 its.toArray.size its.toArray d') : d'.toList.Perm its ∧ d'.size = its.length := by
  obtain ⟨h1, _, h2⟩ := h
  have e1 : d'.extract 0 its.toArray.size = d' := by rw [← h1]; simp
  have e2 : its.toArray.extract 0 its.toArray.size = its.toArray := by simp
  rw [e1, e2] at h2
  exact ⟨by simpa using h2, by simpa using h1⟩
theorem rising_of_sortedIn {n : Nat} {d' : Array KItem} (hn : d'.size = n) (h : Go.Sort.SortedIn (ltOf itemCmp) 0 n d') : Rising d'.toList := by
  unfold Rising
  rw [List.pairwise_iff_getElem]
  intro i j hi hj hij
  have hi' : i < d'.size := by simpa using hi
  have hj' : j < d'.size := by simpa using hj
  have h1 := h i j (Nat.zero_le _) hij (by omega)
  rw [ltItem, getElem!_pos d' j hj', getElem!_pos d' i hi'] at h1
  simp only [decide_eq_false_iff_not, Nat.not_lt] at h1
  simpa using h1
theorem sortWorld_own {w : World} {B g n c m : Nat} {its : List KItem} {d' : Array KItem} {os : Array Obj} (ho : w.ownsRow B 108 4 (.slice (some ⟨g, 0, none⟩) n c) n (kitemCells its)) (hd : d'.size = n) (hits : its.length = n) :
    (sortWorldK itemEnc 4 w g 0 m d' os).ownsRow B 108 4 (.slice (some ⟨g, 0, none⟩) n c) n (kitemCells d'.toList) := by
  have hlen : ∀ l : List KItem, (kitemCells l).length = l.length * 4 := by
    intro l
    induction l with
    | nil => rfl
    | cons y l ih => simp [kitemCells, ih]; omega
  refine ⟨by rw [hlen]; simp [hd], .inr ?_⟩
  rcases ho.2 with ⟨hv, _⟩ | ⟨g', cap', cur, hv, hb, hh, h3, h4, h5, h6⟩
  · cases hv
  · simp only [Value.slice.injEq, Option.some.injEq, Addr.mk.injEq, and_true, true_and] at hv
    obtain ⟨rfl, rfl⟩ := hv
    have hg : g < w.heap.size := (Array.getElem?_eq_some_iff.1 hh).1
    refine ⟨g, c, Go.Sort.putCells id 0 (Go.Sort.flatK itemEnc 4 d') cur, rfl, hb, ?_, h3, h4, ?_, ?_⟩
    · show ((w.heap.modify g (Go.Sort.onCells (Go.Sort.putCells id 0 (Go.Sort.flatK itemEnc 4 d')))) ++ os)[g]? = _
      rw [Array.getElem?_append_left (by simpa using hg), Array.getElem?_modify, if_pos rfl, hh]
      rfl
    · unfold Go.Sort.putCells; simpa using h5
    · apply List.ext_getElem?
      intro j
      by_cases hj : j < n * 4
      · rw [List.getElem?_take_of_lt hj]
        have hjd : j < d'.toList.length * 4 := by simp [hd]; exact hj
        rw [kitemCells_flat d'.toList j hjd]
        unfold Go.Sort.putCells
        have hjc : j < cur.size := by rw [h5]; have := Nat.mul_le_mul_right 4 h3; omega
        rw [Array.getElem?_toList, Array.getElem?_mapIdx, Array.getElem?_eq_getElem hjc]
        simp only [Option.map_some, Nat.zero_le, Nat.zero_add, true_and, Nat.sub_zero, id]
        rw [if_pos (by rw [Go.Sort.size_flatK, hd]; exact hj)]
      · rw [List.getElem?_eq_none (by simp; omega), List.getElem?_eq_none (by rw [hlen]; simp [hd]; omega)]
theorem sortWorld_grown {w : World} {g m : Nat} {d : Array KItem} {os : Array Obj} {row : Option Nat} (hr : row = some g) : w.grownBy (sortWorldK itemEnc 4 w g 0 m d os) row := by
  subst hr
  refine ⟨rfl, rfl, rfl, size_sortWorldK_c _ _ _ _ _ _ _ _, ?_⟩
  intro k hk hne
  show ((w.heap.modify g _) ++ os)[k]? = _
  rw [Array.getElem?_append_left (by simpa using hk), Array.getElem?_modify, if_neg (fun h => hne (by rw [h]))]

theorem sort_any (its : List KItem) (a : Option Addr) (c B : Nat) (w : World) (ho : w.ownsRow B 108 4 (.slice a its.length c) its.length (kitemCells its)) (hlen : its.length ≤ 4096) :
    Calls Tryz.prog 46 #[.slice a its.length c, .func (.func 47) #[] #[]] w fun e w' => SortRes B its a c w e w' := by
  by_cases h0 : its.length = 0
  · have hn : its = [] := List.eq_nil_of_length_eq_zero h0
    subst hn
    refine (AnyF.slices_SortFunc_none Tryz.laysSort a c _ w).mono ?_
    rintro e w' ⟨rfl, rfl⟩
    exact ⟨rfl, [], List.Perm.refl _, List.Pairwise.nil, ho, grown_of_below (Below.refl _ _) _⟩
  · obtain ⟨g, rfl⟩ := own_some ho (by omega)
    obtain ⟨hg, hb, _⟩ := own_free ho 0
    have eg : ∀ args w, (callFunc 47 args).run Tryz.prog w = .ok (.enter 47 args) w := enters_of Tryz.func47 (by kernel_rfl) rfl
    have hcon := AnyQ.slices_SortFunc Tryz.laysSort 4 Tryz.isAgg108 Tryz.sizeOf108 itemEnc (fun _ => rfl) (fun x v hv => by simp [itemEnc] at hv; rcases hv with rfl | rfl | rfl | rfl <;> rfl) itemCmp swoItem 47 #[] g 0 c its.toArray w eg (fun _ _ _ _ x y => closure_any x y _) (holds_items ho) hg (by simp; omega)
    refine hcon.mono ?_
    rintro e w' ⟨rfl, d', n, os, hp, hs, rfl⟩
    obtain ⟨p1, p2⟩ := perm_of_permIn hp
    have hlen2 : d'.toList.length = its.length := by simp [p2]
    refine ⟨rfl, d'.toList, p1, rising_of_sortedIn (by simp [p2]) hs, ?_, sortWorld_grown rfl⟩
    rw [hlen2]
    exact sortWorld_own ho p2 rfl
end Go.Proofs.YtbppbejigedioabGreatDoor
