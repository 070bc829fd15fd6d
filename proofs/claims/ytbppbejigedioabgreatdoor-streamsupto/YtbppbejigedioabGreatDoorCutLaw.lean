/- The law Cuts walked; the five listed variables. -/
import Derived.Test.YtbppbejigedioabGreatDoorMacN
import Derived.Test.YtbppbejigedioabGreatDoorLaidA
namespace Go.Proofs.YtbppbejigedioabGreatDoor
open Go.RowKit

theorem CutRes.below {f t : ByteArray} {w w' : World} {e : Ending} (h : CutRes f t w e w') : Below w.heap.size w w' := by
  rcases h with ⟨_, _, h⟩ | ⟨_, a, c, _, _, h⟩ <;> exact h
theorem tabs_low {w w' : World} (hT : Tabs w) (hb : Below w.heap.size w w') : Tabs w' := tabs_below hT hb
theorem errT_low {w w' : World} (hg : ErrT w) (hw : 4 < w.heap.size) (hb : Below w.heap.size w w') : ErrT w' := by
  unfold ErrT; rw [cell_below hb (by show 0 < w.heap.size; omega)]; exact hg
/-- The program's Cut, told in any world behind the first. -/
theorem pcut_below (f t : ByteArray) (w W : World) (hf : f.size ≤ 9223372036854775807) (ht : t.size ≤ 1048576) (hT : Tabs w) (hw3 : 4 < w.heap.size) (hg : ErrT w) (hz : Tz w) (hb : Below w.heap.size w W) :
    Calls Tryz.prog 29 #[.string f, .string t] W fun e w' => CutRes f t W e w' :=
  pcut_any f t W hf ht (tabs_low hT hb) (Nat.lt_of_lt_of_le hw3 hb.size) (errT_low hg hw3 hb) (hz.below hb hw3)
theorem intCells_len (l : List Nat) : (intCells l).length = l.length := by unfold intCells; simp
/-- A list of cuts as an answer. -/
def CutVal (out : List Nat) (c p : Nat) (w : World) (e : Ending) (w' : World) : Prop :=
  ∃ (a : Option Addr) (cap : Nat), e = .returned (.tuple #[.slice a out.length cap, .int .i64 c, .int .i64 p]) ∧ w'.ownsRow w.heap.size 3 1 (.slice a out.length cap) out.length (intCells out) ∧ Below w.heap.size w w'
/-- The cuts that the document asks for: none where the file is not well. -/
def cutOut (f t : List UInt8) : List Nat := if (Cu.check f).1 = 0 then Cu.cutsR (Cu.readGo f 12 0 []).2.2 t else []
def codeOut (f : List UInt8) : Nat × Nat := if (Cu.check f).1 = 0 then (0, 0) else Cu.check f
theorem CutRes.val {f t : ByteArray} {w w' : World} {e : Ending} (h : CutRes f t w e w') : CutVal (cutOut f.data.toList t.data.toList) (codeOut f.data.toList).1 (codeOut f.data.toList).2 w e w' := by
  rcases h with ⟨h1, rfl, h2⟩ | ⟨h1, a, c, rfl, h2, h3⟩
  · unfold cutOut codeOut
    rw [if_neg h1, if_neg h1]
    exact ⟨none, 0, rfl, World.ownsRow_nil _ _ _ _, h2⟩
  · unfold cutOut codeOut
    rw [if_pos h1, if_pos h1]
    exact ⟨a, c, rfl, h2, h3⟩
theorem cutOut_len (f t : ByteArray) (ht : t.size ≤ 1048576) : (cutOut f.data.toList t.data.toList).length ≤ 1048577 := by
  unfold cutOut
  split
  · unfold Cu.cutsR
    have h1 := Cu.cutsTo_len (Cu.readGo f.data.toList 12 0 []).2.2 (Cu.chars t.data.toList) (Cu.chars t.data.toList).length
    have h2 := chars_len t
    rw [List.length_append]
    split <;> simp <;> omega
  · simp

set_option maxRecDepth 100000 in
set_option maxHeartbeats 1000000 in
theorem cuts_walk (f t : ByteArray) (w : World) (hf : f.size ≤ 9223372036854775807) (ht : t.size ≤ 1048576) (hT : Tabs w) (hw3 : 4 < w.heap.size) (hg : ErrT w) (hz : Tz w) :
    Calls Tryz.prog 22 #[.string f, .string t] w fun e w' => e = .returned (.bool true) ∧ Below w.heap.size w w' := by
  have hp := fun (q : ByteArray) (hq : q.size ≤ 1048576) (W : World) (hb : Below w.heap.size w W) => pcut_below f q w W hf hq hT hw3 hg hz hb
  have hr := fun W => refCut_any f t W hf ht
  have hol := cutOut_len f t ht
  have HP := hide hp
  have HR := hide hr
  clear hp hr hg hT hz
  go_enter Tryz.func22, Tryz.ntmps22
  go_wp2_with fail
  refine (unhide HP t ht w (Below.refl _ _)).mono ?_
  intro e w1 h1
  obtain ⟨a1, c1, rfl, ho1, hb1⟩ := h1.val
  have HO1 := hide ho1
  have HB1 := hide hb1
  clear ho1 hb1 h1
  go_wp2_with fail
  refine (unhide HP _ (by decide) w1 (unhide HB1)).mono ?_
  intro e w2 h2
  obtain ⟨a2, c2, rfl, ho2, hb2⟩ := h2.val
  have HO12 := hide (own_below (unhide HO1) hb2)
  have HB2 := hide (below_two hb2 (unhide HB1))
  clear ho2 hb2 h2
  go_wp2_with fail
  refine (unhide HP _ (by decide) w2 (unhide HB2)).mono ?_
  intro e w3 h3
  obtain ⟨a3, c3, rfl, ho3, hb3⟩ := h3.val
  have HO13 := hide (own_below (unhide HO12) hb3)
  have HB3 := hide (below_two hb3 (unhide HB2))
  clear ho3 hb3 h3
  go_wp2_with fail
  refine (unhide HR w3).mono ?_
  intro e w4 h4
  obtain ⟨a4, c4, rfl, ho4, hb4⟩ := h4.val
  have HO14 := hide (own_below (unhide HO13) hb4)
  have HO4 := hide ho4
  have HB4 := hide (below_two hb4 (unhide HB3))
  clear ho4 hb4 h4
  generalize cutOut f.data.toList t.data.toList = out at *
  generalize codeOut f.data.toList = cp at *
  obtain ⟨c, p⟩ := cp
  go_wp2_with fail
  refine (same_any out out a1 a4 c1 c4 _ _ w4 (unhide HO14) (unhide HO4) (by omega)).mono ?_
  rintro e w5 ⟨rfl, hb5⟩
  have HB5 := hide (below_two hb5 (unhide HB4))
  have hoo : (out == out) = true := by simp
  rw [hoo]
  clear hb5
  go_wp2_with (go_at_call 13; refine (num_any _ _).mono ?_; rintro e w' ⟨rfl, rfl⟩)
  go_ret
  exact ⟨rfl, unhide HB5⟩

/-- The variables that four tables and one handle fill. -/
def lay4 : List (String × DataW Unit) := [("math/bits.deBruijn32tab", Rows.laid_math_bits_deBruijn32tab), ("math/bits.deBruijn64tab", Rows.laid_math_bits_deBruijn64tab), ("unicode/utf8.acceptRanges", Rows.laid_unicode_utf8_acceptRanges), ("errors.errorType", Rows.laid_errors_errorType), ("unicode/utf8.first", Rows.laid_unicode_utf8_first)]
theorem laid_parts4 {W : World} (h : laidMetH Tryz.prog lay4 W) :
    laidMet Tryz.prog [("math/bits.deBruijn32tab", Rows.laid_math_bits_deBruijn32tab), ("math/bits.deBruijn64tab", Rows.laid_math_bits_deBruijn64tab), ("unicode/utf8.acceptRanges", Rows.laid_unicode_utf8_acceptRanges), ("unicode/utf8.first", Rows.laid_unicode_utf8_first)] W ∧ handlesMet Tryz.prog [("errors.errorType", Rows.laid_errors_errorType)] W := h
theorem tabs_of_laid4 {W : World} (h : laidMetH Tryz.prog lay4 W) : Tabs W := by
  have h1 := (laid_parts4 h).1
  have r1 := Lib.laidMet.reads h1 (n := "unicode/utf8.first") (d := Rows.laid_unicode_utf8_first) (by simp)
  have r2 := Lib.laidMet.reads h1 (n := "unicode/utf8.acceptRanges") (d := Rows.laid_unicode_utf8_acceptRanges) (by simp)
  rw [firstIs] at r1
  rw [acceptIs] at r2
  exact utf8Tabs_of_reads Tryz.lays260 u8extra r1 r2
theorem errT_of_laid4 {W : World} (h : laidMetH Tryz.prog lay4 W) : ErrT W := by
  obtain ⟨name, u, ty, e1, e2, e3, e4, e5⟩ := (laid_parts4 h).2 _ (List.mem_singleton.2 rfl)
  have en : name = [101, 114, 114, 111, 114] := (Option.some.inj e1).symm
  subst en
  obtain rfl := Option.some.inj (rtypeT.symm.trans e2)
  have hm : ty ∈ (List.range 360).filter fun t => Tryz.prog.rowNamed t [101, 114, 114, 111, 114] := List.mem_filter.2 ⟨List.mem_range.2 (by rw [← typesSize]; exact e3), e4⟩
  rw [oneRow] at hm
  obtain rfl := List.mem_singleton.1 hm
  have hh : typeHandle Tryz.prog 58 = .pointer (some ⟨6, 58, none⟩) := by kernel_rfl
  rw [hh] at e5
  simpa using World.var?_cell gErrT e5 0
theorem tzIs : (Rows.laid_math_bits_deBruijn64tab : DataW Unit) = Lib.tabData .u8 (Lib.deBruijn64tab.map fun z : Nat => (z : Int)) := by kernel_rfl
theorem tzIs32 : (Rows.laid_math_bits_deBruijn32tab : DataW Unit) = Lib.tabData .u8 (Lib.deBruijn32tab.map fun z : Nat => (z : Int)) := by kernel_rfl
theorem gTz32 : Tryz.prog.globalNamed "math/bits.deBruijn32tab" = some 3 := by kernel_rfl
theorem yTz32 : (Tryz.prog.globals[3]?).map (·.type) = some 290 := by kernel_rfl
theorem gTz : Tryz.prog.globalNamed "math/bits.deBruijn64tab" = some 4 := by kernel_rfl
theorem yTz : (Tryz.prog.globals[4]?).map (·.type) = some 291 := by kernel_rfl
theorem tz_of_laid {W : World} (h : laidMetH Tryz.prog lay4 W) : Tz W := by
  have h1 := (laid_parts4 h).1
  have r1 := Lib.laidMet.reads h1 (n := "math/bits.deBruijn64tab") (d := Rows.laid_math_bits_deBruijn64tab) (by simp)
  rw [tzIs] at r1
  obtain ⟨g, t, cs, fuel, p, hg, hty, hvar, hd⟩ := r1
  obtain rfl := Option.some.inj (gTz.symm.trans hg)
  obtain rfl := Option.some.inj (yTz.symm.trans hty)
  have hcs := Lib.cells_of_tab Tryz.underlying291 Tryz.underlying5 (by kernel_rfl) (by kernel_rfl) hd
  have hc : ∀ j, j < Lib.deBruijn64tab.length → W.cell? ⟨4, j, none⟩ = some (.int .u8 (Lib.deBruijn64tab.getD j 0 : Nat)) := by
    intro j hj
    have := World.var?_cell hg hvar j
    rw [this, ← Array.getElem?_toList, hcs]
    simp [List.getD, hj]
  have r2 := Lib.laidMet.reads h1 (n := "math/bits.deBruijn32tab") (d := Rows.laid_math_bits_deBruijn32tab) (by simp)
  rw [tzIs32] at r2
  obtain ⟨g, t, cs, fuel, p, hg, hty, hvar, hd⟩ := r2
  obtain rfl := Option.some.inj (gTz32.symm.trans hg)
  obtain rfl := Option.some.inj (yTz32.symm.trans hty)
  have hcs2 := Lib.cells_of_tab Tryz.underlying290 Tryz.underlying5 (by kernel_rfl) (by kernel_rfl) hd
  have hc2 : ∀ j, j < Lib.deBruijn32tab.length → W.cell? ⟨3, j, none⟩ = some (.int .u8 (Lib.deBruijn32tab.getD j 0 : Nat)) := by
    intro j hj
    have := World.var?_cell hg hvar j
    rw [this, ← Array.getElem?_toList, hcs2]
    simp [List.getD, hj]
  exact ⟨⟨hc, hc2⟩, by first | exact size_of_tabs (tabs_of_laid4 h) | exact World.block_lt_of_cell? W ⟨4, 0, none⟩ (hc 0 (by decide))⟩

/-- A world for the witness: the settled one, the four variables holding what their initialisers lay. -/
def laidOf4 (w : World) : World :=
  let w0 := laidOf w
  { w0 with heap := (w0.heap.modify 4 fun
    | .cells _ t frozen => .cells (Lib.deBruijn64tab.map fun z : Nat => Value.int .u8 (z : Int)).toArray t frozen
    | o => o).modify 3 fun
    | .cells _ t frozen => .cells (Lib.deBruijn32tab.map fun z : Nat => Value.int .u8 (z : Int)).toArray t frozen
    | o => o }
theorem laid_met4 (os : Os) (args : Array Value) : laidMetH Tryz.prog lay4 ((laidOf4 (World.holding Tryz.prog os ⟨#[], #[], []⟩)).forCall (fun _ _ => 0) ⟨#[], args, []⟩).memory :=
  laidMetH_of_parts (l := lay4) (LaidIn.of_run (l := [("math/bits.deBruijn32tab", Rows.laid_math_bits_deBruijn32tab), ("math/bits.deBruijn64tab", Rows.laid_math_bits_deBruijn64tab), ("unicode/utf8.acceptRanges", Rows.laid_unicode_utf8_acceptRanges), ("unicode/utf8.first", Rows.laid_unicode_utf8_first)]) [1, 2, 3, 4] 8 (by kernel_rfl) (by kernel_rfl) (by kernel_rfl) (by kernel_rfl)).met (by kernel_rfl)
end Go.Proofs.YtbppbejigedioabGreatDoor
