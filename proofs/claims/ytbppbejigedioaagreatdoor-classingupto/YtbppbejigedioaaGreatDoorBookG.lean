/- What errors.errorType holds; num. -/
import Derived.Test.YtbppbejigedioaaGreatDoorBookF
import Derived.Test.YtbppbejigedioaaGreatDoorTold
import Derived.Test.YtbppbejigedioaaGreatDoorRefC
namespace Go.Proofs.YtbppbejigedioaaGreatDoor
open Go.RowKit

/-- What errors.errorType holds. -/
abbrev ErrT (w : World) : Prop := w.cell? ⟨0, 0, none⟩ = some (.iface 235 (.agg #[.pointer (some ⟨6, 59, none⟩)]))
theorem cell_below {B : Nat} {w w' : World} (hb : Below B w w') {a : Addr} (h : a.block < B) : w'.cell? a = w.cell? a := by
  simp only [World.cell?, hb.block _ h]

set_option maxRecDepth 100000 in
theorem num_any (x : Int) (w : World) : Calls Tryz.prog 17 #[.int .i64 x] w fun e w' => e = .returned (.int .i64 x) ∧ w = w' := by
  go_enter Tryz.func17, Tryz.ntmps17
  go_wp2
  go_ret
  exact ⟨rfl, rfl⟩

end Go.Proofs.YtbppbejigedioaaGreatDoor
