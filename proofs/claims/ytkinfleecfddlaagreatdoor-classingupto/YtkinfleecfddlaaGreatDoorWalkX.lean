/- told. -/
import Derived.Test.YtkinfleecfddlaaGreatDoorWalkW
import Derived.BigQuiet
import Derived.Deep.QuietTactic
namespace Go.Proofs.YtkinfleecfddlaaGreatDoor
open Go.RowKit

set_option maxRecDepth 100000 in
set_option maxHeartbeats 400000 in
theorem told_nil (w : World) :
    Calls Tryz.prog 25 #[.nilIface] w fun e w' => e = .returned (.tuple #[.int .i64 0, .int .i64 0]) ∧ Below w.heap.size w w' := by
  go_enter Tryz.func25, Tryz.ntmps25
  go_wp2_with fail
  refine (as_nil _ _).mono ?_
  rintro e w1 ⟨rfl, hw⟩
  obtain rfl := hw.symm
  go_wp2
  go_ret2
  exact ⟨rfl, (Below.refl _ _).alloc (Nat.le_refl _) _⟩

set_option maxRecDepth 100000 in
set_option maxHeartbeats 400000 in
theorem told_hit (x y : Int) (w : World) (hg : w.cell? ⟨0, 0, none⟩ = some (.iface 203 (.agg #[.pointer (some ⟨5, 50, none⟩)]))) :
    Calls Tryz.prog 25 #[.iface 76 (.agg #[.int .i64 x, .int .i64 y])] w fun e w' => e = .returned (.tuple #[.int .i64 x, .int .i64 y]) ∧ Below w.heap.size w w' := by
  have h0 : 0 < w.heap.size := World.block_lt_of_cell? w ⟨0, 0, none⟩ hg
  go_enter Tryz.func25, Tryz.ntmps25
  go_wp2_with fail
  refine (as_hit x y w.heap.size (.int .i64 0) (.int .i64 0) _ (by rw [World.cell?_alloc_lt _ _ ⟨0, 0, none⟩ h0]; exact hg) (Blk.new w _ _)).mono ?_
  rintro e w1 ⟨rfl, hb, hgr⟩
  obtain ⟨b0, b1, b2⟩ := hb.two
  have hbel := hide (((Below.refl w.heap.size w).alloc (Nat.le_refl _) (.cells #[.int .i64 0, .int .i64 0] 76)).grown hgr (by simp) (fun k hk => by simp at hk; omega))
  clear hgr hb
  go_wp2
  go_quiet (fail)
  go_wp2
  go_ret2
  exact ⟨rfl, below_drewN (unhide hbel) _⟩
end Go.Proofs.YtkinfleecfddlaaGreatDoor
