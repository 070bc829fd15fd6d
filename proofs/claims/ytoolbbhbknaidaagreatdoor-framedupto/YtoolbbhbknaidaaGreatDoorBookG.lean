/- Walks: the program's Check; the law Checks. -/
import Derived.Test.YtoolbbhbknaidaaGreatDoorBookF
import Derived.Test.YtoolbbhbknaidaaGreatDoorTold
import Derived.Test.YtoolbbhbknaidaaGreatDoorRefC
namespace Go.Proofs.YtoolbbhbknaidaaGreatDoor
open Go.RowKit

/-- What errors.errorType holds. -/
abbrev ErrT (w : World) : Prop := w.cell? ⟨0, 0, none⟩ = some (.iface 237 (.agg #[.pointer (some ⟨6, 59, none⟩)]))
theorem cell_below {B : Nat} {w w' : World} (hb : Below B w w') {a : Addr} (h : a.block < B) : w'.cell? a = w.cell? a := by
  simp only [World.cell?, hb.block _ h]

set_option maxRecDepth 100000 in
set_option maxHeartbeats 1000000 in
theorem pcheck_any (s : ByteArray) (w : World) (hs : s.size ≤ 9223372036854775807) (hT : Tabs w) (hw2 : 4 < w.heap.size) (hg : ErrT w) :
    Calls Tryz.prog 15 #[.string s] w fun e w' => e = .returned (.tuple #[.int .i64 (Cu.check s.data.toList).1, .int .i64 (Cu.check s.data.toList).2]) ∧ Below w.heap.size w w' := by
  go_enter Tryz.func15, Tryz.ntmps15
  go_wp2_with fail
  refine (readBook_any s _ hs hT hw2).mono ?_
  rintro e w1 (⟨c, p, hc, rfl, hb⟩ | ⟨B, hc, rfl, hb⟩)
  · have hg1 : ErrT w1 := by unfold ErrT; rw [cell_below hb (by show 0 < w.heap.size; omega)]; exact hg
    have HC := hide hc
    have HB := hide hb
    have HG := hide hg1
    clear hc hb hg1 hg hT
    unfold brokenV
    go_wp2_with fail
    refine (told_hit (c : Int) (p : Int) w1 (unhide HG)).mono ?_
    rintro e w2 ⟨rfl, hb2⟩
    have HB2 := hide (below_two hb2 (unhide HB))
    clear hb2
    go_wp2
    go_ret2
    exact ⟨by rw [unhide HC]; rfl, unhide HB2⟩
  · have HC := hide hc
    have HB := hide hb
    clear hc hb hg hT
    go_wp2_with fail
    refine (told_nil w1).mono ?_
    rintro e w2 ⟨rfl, hb2⟩
    have HB2 := hide (below_two hb2 (unhide HB))
    clear hb2
    go_wp2
    go_ret2
    exact ⟨by rw [unhide HC]; rfl, unhide HB2⟩

set_option maxRecDepth 100000 in
theorem num_any (x : Int) (w : World) : Calls Tryz.prog 17 #[.int .i64 x] w fun e w' => e = .returned (.int .i64 x) ∧ w = w' := by
  go_enter Tryz.func17, Tryz.ntmps17
  go_wp2
  go_ret
  exact ⟨rfl, rfl⟩

set_option maxRecDepth 100000 in
set_option maxHeartbeats 1000000 in
theorem checks_walk (s : ByteArray) (w : World) (hs : s.size ≤ 9223372036854775807) (hT : Tabs w) (hw2 : 4 < w.heap.size) (hg : ErrT w) :
    Calls Tryz.prog 3 #[.string s] w fun e w' => e = .returned (.bool true) ∧ Below w.heap.size w w' := by
  have hp := pcheck_any s w hs hT hw2 hg
  have hr := fun W => refCheck_any s W hs
  generalize (Cu.check s.data.toList) = cp at hp hr
  obtain ⟨c, p⟩ := cp
  simp only at hp hr
  have HP := hide hp
  have HR := hide hr
  clear hp hr hg hT
  go_enter Tryz.func3, Tryz.ntmps3
  go_wp2_with fail
  refine (unhide HP).mono ?_
  rintro e w1 ⟨rfl, hb1⟩
  have HB1 := hide hb1
  clear hb1
  go_wp2_with fail
  refine (unhide HR _).mono ?_
  rintro e w2 ⟨rfl, hb2⟩
  have HB2 := hide (below_two hb2 (unhide HB1))
  clear hb2
  go_wp2_with (go_at_call 17; refine (num_any _ _).mono ?_; rintro e w' ⟨rfl, rfl⟩)
  go_ret
  exact ⟨rfl, unhide HB2⟩
end Go.Proofs.YtoolbbhbknaidaaGreatDoor
