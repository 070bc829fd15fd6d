/- slices.SortFunc at the book's items: the call. -/
import Derived.Test.YtkinfleecfddlaaGreatDoorSortB
import Derived.Shelf.SlSortCmp.NoneTotal
namespace Go.Proofs.YtkinfleecfddlaaGreatDoor
open Go.RowKit

theorem sort_any (its : List KItem) (a : Option Addr) (c B : Nat) (w : World) (hB : B ≤ w.heap.size) (ho : w.ownsRow B 85 4 (.slice a its.length c) its.length (kitemCells its)) (hlen : its.length ≤ 4096) :
    Calls Tryz.prog 36 #[.slice a its.length c, .func (.func 37) #[] #[]] w fun e w' => e = .returned (.tuple #[]) ∧ Below B w w' := by
  by_cases h0 : its.length = 0
  · rw [h0]
    refine (AnyF.slices_SortFunc_none Tryz.laysSort a c _ w).mono ?_
    rintro e w' ⟨rfl, rfl⟩
    exact ⟨rfl, Below.refl _ _⟩
  · obtain ⟨g, rfl⟩ := own_some ho (by omega)
    obtain ⟨hg, hb, _⟩ := own_free ho 0
    have eg : ∀ args w, (callFunc 37 args).run Tryz.prog w = .ok (.enter 37 args) w := enters_of Tryz.func37 (by kernel_rfl) rfl
    have hcon := AnyQ.slices_SortFunc Tryz.laysSort 4 Tryz.isAgg85 Tryz.sizeOf85 itemEnc (fun _ => rfl) (fun x v hv => by simp [itemEnc] at hv; rcases hv with rfl | rfl | rfl | rfl <;> rfl) itemCmp swoItem 37 #[] g 0 c its.toArray w eg (fun _ _ _ _ x y => closure_any x y _) (holds_items ho) hg (by simp; omega)
    refine hcon.mono ?_
    rintro e w' ⟨rfl, d', n, os, hp, hs, rfl⟩
    exact ⟨rfl, sortWorld_below hb hB⟩
end Go.Proofs.YtkinfleecfddlaaGreatDoor
