/- slices.SortFunc at the book's items: the call. -/
import Derived.Test.YtkinfleecfddlaaGreatDoorSortB
import Derived.Shelf.SlSortCmp.NoneTotal
namespace Go.Proofs.YtkinfleecfddlaaGreatDoor
open Go.RowKit

/-- By their first characters. -/
def Rising (l : List KItem) : Prop := l.Pairwise fun x y => x.2.1 ≤ y.2.1
def SortRes (B : Nat) (its : List KItem) (a : Option Addr) (c : Nat) (w : World) (e : Ending) (w' : World) : Prop :=
  e = .returned (.tuple #[]) ∧ ∃ its' : List KItem, its'.Perm its ∧ Rising its' ∧ w'.ownsRow B 85 4 (.slice a its'.length c) its'.length (kitemCells its') ∧ w.grownBy w' (Value.slice a its.length c).ownBlock

theorem perm_of_permIn {its : List KItem} {d' : Array KItem} (h : Go.Sort.PermIn 0 its.toArray.size its.toArray d') : d'.toList.Perm its ∧ d'.size = its.length := by
  obtain ⟨h1, _, h2⟩ := h
  have e1 : d'.extract 0 its.toArray.size = d' := by rw [← h1]; simp
  have e2 : its.toArray.extract 0 its.toArray.size = its.toArray := by simp
  rw [e1, e2] at h2
  exact ⟨by simpa using h2, by simpa using h1⟩
theorem rising_of_sortedIn {n : Nat} {d' : Array KItem} (hn : d'.size = n) (h : Go.Sort.SortedIn (ltOf itemCmp) 0 n d') : Rising d'.toList := by
  unfold Rising
  rw [List.pairwise_iff_getElem]
  intro i j hi hj hij
  have hi' : i < d'.size := by simpa using hi
  have hj' : j < d'.size := by simpa using hj
  have h1 := h i j (Nat.zero_le _) hij (by omega)
  rw [ltItem, getElem!_pos d' j hj', getElem!_pos d' i hi'] at h1
  simp only [decide_eq_false_iff_not, Nat.not_lt] at h1
  simpa using h1
theorem sortWorld_own {w : World} {B g n c m : Nat} {its : List KItem} {d' : Array KItem} {os : Array Obj} (ho : w.ownsRow B 85 4 (.slice (some ⟨g, 0, none⟩) n c) n (kitemCells its)) (hd : d'.size = n) (hits : its.length = n) :
    (sortWorldK itemEnc 4 w g 0 m d' os).ownsRow B 85 4 (.slice (some ⟨g, 0, none⟩) n c) n (kitemCells d'.toList) := by
  have hlen : ∀ l : List KItem, (kitemCells l).length = l.length * 4 := by
    intro l
    induction l with
    | nil => rfl
    | cons y l ih => simp [kitemCells, ih]; omega
  refine ⟨by rw [hlen]; simp [hd], .inr ?_⟩
  rcases ho.2 with ⟨hv, _⟩ | ⟨g', cap', cur, hv, hb, hh, h3, h4, h5, h6⟩
  · cases hv
  · simp only [Value.slice.injEq, Option.some.injEq, Addr.mk.injEq, and_true, true_and] at hv
    obtain ⟨rfl, rfl⟩ := hv
    have hg : g < w.heap.size := (Array.getElem?_eq_some_iff.1 hh).1
    refine ⟨g, c, Go.Sort.putCells id 0 (Go.Sort.flatK itemEnc 4 d') cur, rfl, hb, ?_, h3, h4, ?_, ?_⟩
    · show ((w.heap.modify g (Go.Sort.onCells (Go.Sort.putCells id 0 (Go.Sort.flatK itemEnc 4 d')))) ++ os)[g]? = _
      rw [Array.getElem?_append_left (by simpa using hg), Array.getElem?_modify, if_pos rfl, hh]
      rfl
    · unfold Go.Sort.putCells; simpa using h5
    · apply List.ext_getElem?
      intro j
      by_cases hj : j < n * 4
      · rw [List.getElem?_take_of_lt hj]
        have hjd : j < d'.toList.length * 4 := by simp [hd]; exact hj
        rw [kitemCells_flat d'.toList j hjd]
        unfold Go.Sort.putCells
        have hjc : j < cur.size := by rw [h5]; have := Nat.mul_le_mul_right 4 h3; omega
        rw [Array.getElem?_toList, Array.getElem?_mapIdx, Array.getElem?_eq_getElem hjc]
        simp only [Option.map_some, Nat.zero_le, Nat.zero_add, true_and, Nat.sub_zero, id]
        rw [if_pos (by rw [Go.Sort.size_flatK, hd]; exact hj)]
      · rw [List.getElem?_eq_none (by simp; omega), List.getElem?_eq_none (by rw [hlen]; simp [hd]; omega)]
theorem sortWorld_grown {w : World} {g m : Nat} {d : Array KItem} {os : Array Obj} {row : Option Nat} (hr : row = some g) : w.grownBy (sortWorldK itemEnc 4 w g 0 m d os) row := by
  subst hr
  refine ⟨rfl, rfl, rfl, size_sortWorldK_c _ _ _ _ _ _ _ _, ?_⟩
  intro k hk hne
  show ((w.heap.modify g _) ++ os)[k]? = _
  rw [Array.getElem?_append_left (by simpa using hk), Array.getElem?_modify, if_neg (fun h => hne (by rw [h]))]

theorem sort_any (its : List KItem) (a : Option Addr) (c B : Nat) (w : World) (ho : w.ownsRow B 85 4 (.slice a its.length c) its.length (kitemCells its)) (hlen : its.length ≤ 4096) :
    Calls Tryz.prog 36 #[.slice a its.length c, .func (.func 37) #[] #[]] w fun e w' => SortRes B its a c w e w' := by
  by_cases h0 : its.length = 0
  · have hn : its = [] := List.eq_nil_of_length_eq_zero h0
    subst hn
    refine (AnyF.slices_SortFunc_none Tryz.laysSort a c _ w).mono ?_
    rintro e w' ⟨rfl, rfl⟩
    exact ⟨rfl, [], List.Perm.refl _, List.Pairwise.nil, ho, grown_of_below (Below.refl _ _) _⟩
  · obtain ⟨g, rfl⟩ := own_some ho (by omega)
    obtain ⟨hg, hb, _⟩ := own_free ho 0
    have eg : ∀ args w, (callFunc 37 args).run Tryz.prog w = .ok (.enter 37 args) w := enters_of Tryz.func37 (by kernel_rfl) rfl
    have hcon := AnyQ.slices_SortFunc Tryz.laysSort 4 Tryz.isAgg85 Tryz.sizeOf85 itemEnc (fun _ => rfl) (fun x v hv => by simp [itemEnc] at hv; rcases hv with rfl | rfl | rfl | rfl <;> rfl) itemCmp swoItem 37 #[] g 0 c its.toArray w eg (fun _ _ _ _ x y => closure_any x y _) (holds_items ho) hg (by simp; omega)
    refine hcon.mono ?_
    rintro e w' ⟨rfl, d', n, os, hp, hs, rfl⟩
    obtain ⟨p1, p2⟩ := perm_of_permIn hp
    have hlen2 : d'.toList.length = its.length := by simp [p2]
    refine ⟨rfl, d'.toList, p1, rising_of_sortedIn (by simp [p2]) hs, ?_, sortWorld_grown rfl⟩
    rw [hlen2]
    exact sortWorld_own ho p2 rfl
end Go.Proofs.YtkinfleecfddlaaGreatDoor
