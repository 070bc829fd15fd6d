/- What errors.errorType holds; num. -/
import Derived.Test.YtbppbejigedioabGreatDoorBookF
import Derived.Test.YtbppbejigedioabGreatDoorTold
import Derived.Test.YtbppbejigedioabGreatDoorRefC
namespace Go.Proofs.YtbppbejigedioabGreatDoor
open Go.RowKit

/-- What errors.errorType holds. -/
abbrev ErrT (w : World) : Prop := w.cell? ⟨0, 0, none⟩ = some (.iface 246 (.agg #[.pointer (some ⟨6, 58, none⟩)]))
theorem cell_below {B : Nat} {w w' : World} (hb : Below B w w') {a : Addr} (h : a.block < B) : w'.cell? a = w.cell? a := by
  simp only [World.cell?, hb.block _ h]

set_option maxRecDepth 100000 in
theorem num_any (x : Int) (w : World) : Calls Tryz.prog 13 #[.int .i64 x] w fun e w' => e = .returned (.int .i64 x) ∧ w = w' := by
  go_enter Tryz.func13, Tryz.ntmps13
  go_wp2
  go_ret
  exact ⟨rfl, rfl⟩

end Go.Proofs.YtbppbejigedioabGreatDoor
