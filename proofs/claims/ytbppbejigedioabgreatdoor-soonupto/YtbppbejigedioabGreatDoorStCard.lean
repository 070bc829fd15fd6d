/- What the cards of the laws over streams share. -/
import Derived.Test.YtbppbejigedioabGreatDoorStJoin
import Derived.Test.YtbppbejigedioabGreatDoorCards
import Derived.WalkKit
import Derived.ProofKit
import Derived.OpenShut
import Derived.Deep.DeepHandedRow
import Derived.ChangeMaps5
import Derived.Carry
import Derived.ChangeOld
namespace Go.Proofs.YtbppbejigedioabGreatDoor
open Go.ChangeShapes Go.WideShapes Go.ChangeAt Go.RowKit

theorem env_of_laid {W : World} (hL : laidMetH Tryz.prog lay4 W) : Env W := ⟨tabs_of_laid4 hL, tz_of_laid hL, errT_of_laid4 hL, (tz_of_laid hL).2⟩
theorem laidOut : laidOutB Tryz.prog = true := by kernel_rfl
theorem cells_int : Tryz.prog.cellsOf 3 = 1 := by kernel_rfl
theorem rec_ints : Tryz.prog.readableRec 30 = true := by kernel_rfl
theorem lt_ints : 30 < Tryz.prog.types.size := by rw [typesSize]; decide
theorem bulk_lits {H : Type} (zs : List Int) : Rows.uptoBulkAll (H := H) (lits .i64 zs) = zs.length := by
  unfold lits
  induction zs with
  | nil => rfl
  | cons x zs ih => simp only [List.map_cons, Rows.uptoBulkAll, Rows.uptoBulk, ih, List.length_cons]; omega
set_option maxRecDepth 100000 in
/-- A list of numbers as it came in. -/
theorem open_nums {H : Type} {enc : TypeId × Value → H} {W : World} {base : Nat} {v : Value} {d : DataW H} {ps : List MemPlace} (hv : Value.okWide Tryz.prog W .any base 30 v) (h : DataW.Trod enc Tryz.prog W 0 (fun _ => true) true 30 v d ps) :
    ∃ (a : Option Addr) (zs : List Int) (cap : Nat), v = .slice a zs.length cap ∧ IntsIn W W.heap.size a zs ∧ zs.length ≤ Rows.uptoBulk d := by
  obtain ⟨a0, len, cap, rfl⟩ := okWide_slice Tryz.underlying30 hv
  obtain ⟨fuel, hf⟩ := h
  rcases open_ints Tryz.underlying30 Tryz.underlying3 cells_int hf with ⟨hcs, hx⟩ | ⟨a, len', cap', zs, hcs, _, hl, hm, hz, hx, hcell, hwz⟩
  · simp only [Value.cells, List.cons.injEq, and_true, Value.slice.injEq] at hcs
    obtain ⟨rfl, rfl, rfl⟩ := hcs
    exact ⟨none, [], 0, rfl, fun i x hx => by simp at hx, Nat.zero_le _⟩
  · simp only [Value.cells, List.cons.injEq, and_true, Value.slice.injEq] at hcs
    obtain ⟨rfl, rfl, rfl⟩ := hcs
    simp only [if_true] at hz
    have hd : d = .slice (lits .i64 (zs.take len)) (lits .i64 (zs.drop len)) := by have := congrArg Prod.fst hx; simpa using this
    have hlen : (zs.take len).length = len := by rw [List.length_take]; omega
    refine ⟨some a, zs.take len, cap, by rw [hlen], fun i x hxi => ?_, ?_⟩
    · obtain ⟨hil, hxe⟩ := List.getElem?_eq_some_iff.1 hxi
      have hilz : i < zs.length := by rw [List.length_take] at hil; omega
      obtain ⟨b, off, rfl, hc⟩ := ints_at hcell (by omega)
      have hci := hc i hilz
      have hxz : zs.getD i 0 = x := by rw [← hxe, List.getElem_take, List.getD_eq_getElem?_getD, List.getElem?_eq_getElem hilz]; rfl
      rw [hxz] at hci
      exact ⟨b, off, rfl, World.block_lt_of_cell? W ⟨b, off + i, none⟩ hci, hci⟩
    · rw [hd]
      simp only [Rows.uptoBulk, bulk_lits]
      omega
end Go.Proofs.YtbppbejigedioabGreatDoor
