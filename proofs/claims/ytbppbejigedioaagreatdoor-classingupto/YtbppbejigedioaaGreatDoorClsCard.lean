/- The law Classing: its second form's row and card. -/
import Derived.Test.YtbppbejigedioaaGreatDoorClsP
import Derived.Test.YtbppbejigedioaaGreatDoorLaidA
import Derived.Test.YtbppbejigedioaaGreatDoorCards
import Derived.Test.YtbppbejigedioaaGreatDoorTie
import Derived.WalkKit
import Derived.ProofKit
import Derived.OpenShut
import Derived.Deep.DeepHandedRow
import Derived.ChangeMaps5
namespace Go.Proofs.YtbppbejigedioaaGreatDoor
open Go.ChangeShapes Go.WideShapes Go.ChangeAt Go.RowKit

set_option maxRecDepth 100000 in
set_option maxHeartbeats 1000000 in
theorem refClasses_any (f t : ByteArray) (w : World) (hf : f.size ≤ 9223372036854775807) (ht : t.size ≤ 1048576) :
    Calls Tryz.prog 19 #[.string f, .string t] w fun e w' => e = .returned (.tuple #[.string (clsOut f.data.toList t.data.toList).1, .int .i64 (clsOut f.data.toList t.data.toList).2.1, .int .i64 (clsOut f.data.toList t.data.toList).2.2]) ∧ Below w.heap.size w w' := by
  go_enter Tryz.func19, Tryz.ntmps19
  go_wp2_with fail
  refine (refCheck_any f _ hf).mono ?_
  rintro e w1 ⟨rfl, hb1⟩
  have hb1s := hb1.size
  have HB1 := hide hb1
  clear hb1
  by_cases h0 : (Cu.check f.data.toList).1 = 0
  · have hout : Hid (clsOut f.data.toList t.data.toList = (clsB (Cu.readGo f.data.toList 12 0 []).2.2 (Cu.chars t.data.toList), 0, 0)) := hide (by unfold clsOut; rw [if_pos h0])
    obtain ⟨hsz, hok⟩ := check_ok h0
    have hd : (((Cu.check f.data.toList).1 : Int) != 0) = false := by rw [h0]; rfl
    have HOK := hide hok
    have HF := hide (Cu.readGo_fine f.data.toList 12 0 [] (fun x hx => by simp at hx))
    clear h0 hok
    go_wp2_with fail
    refine (read_any f _ hsz).mono ?_
    rintro e w2 (⟨p, hg, rfl, hb2⟩ | ⟨p, cap, l, a, hg, rfl, ho, hlo, hb2⟩)
    · exfalso
      have h := unhide HOK
      rw [hg] at h
      cases h
    · have hfin : Hid (clsOut f.data.toList t.data.toList = (clsB (l.map Prod.fst) (Cu.chars t.data.toList), 0, 0)) := hide (by rw [unhide hout, hg])
      have hF := unhide HF
      rw [hg] at hF
      have hl12 : l.length ≤ 12 := by have := hF.2; simpa using this
      have HI : Hid (∀ y ∈ l, y.1.items.length ≤ 200) := hide (fun y hy => by
        have h1 := (hF.1 y.1 (List.mem_map.2 ⟨y, hy, rfl⟩)).1
        rw [len_toList] at h1
        omega)
      have HO := hide ho
      have HLO := hide hlo
      have HB2 := hide (below_two hb2 (unhide HB1))
      clear hg ho hlo hb2 hF hout HOK HF
      go_wp2_with fail
      refine (chars_any t _ ht).mono ?_
      rintro e w3 ⟨ac, capc, rfl, hoc, hb3⟩
      have hcl := chars_len t
      have HO3 := hide (own_below (unhide HO) hb3)
      have HLO3 := hide ((unhide HLO).below hb3)
      have HB3 := hide (below_two hb3 (unhide HB2))
      have HOC := hide hoc
      clear hoc hb3
      go_wp2_with fail
      refine (classes_any l a cap _ _ ac capc _ _ (unhide HO3) (unhide HLO3) hl12 (unhide HI) (unhide HOC) (by omega)).mono ?_
      rintro e w4 ⟨rfl, hb4⟩
      have HB4 := hide (below_two hb4 (unhide HB3))
      clear hb4
      go_wp2
      go_ret3
      exact ⟨by rw [unhide hfin]; rfl, unhide HB4⟩
  · have hout : Hid (clsOut f.data.toList t.data.toList = (⟨#[]⟩, (Cu.check f.data.toList).1, (Cu.check f.data.toList).2)) := hide (by unfold clsOut; rw [if_neg h0])
    have hd : (((Cu.check f.data.toList).1 : Int) != 0) = true := by rw [bne_iff_ne]; omega
    clear h0
    go_wp2
    go_ret3
    exact ⟨by rw [unhide hout]; rfl, unhide HB1⟩

set_option maxRecDepth 100000 in
set_option maxHeartbeats 1000000 in
theorem classing_walk (f t : ByteArray) (w : World) (hf : f.size ≤ 9223372036854775807) (ht : t.size ≤ 1048576) (hT : Tabs w) (hw2 : 4 < w.heap.size) (hg : ErrT w) :
    Calls Tryz.prog 4 #[.string f, .string t] w fun e w' => e = .returned (.bool true) ∧ Below w.heap.size w w' := by
  have hp := pclasses_any f t w hf ht hT hw2 hg
  have hr := fun W => refClasses_any f t W hf ht
  generalize (clsOut f.data.toList t.data.toList) = cp at hp hr
  obtain ⟨b, c, p⟩ := cp
  simp only at hp hr
  have HP := hide hp
  have HR := hide hr
  clear hp hr hg hT
  go_enter Tryz.func4, Tryz.ntmps4
  go_wp2_with fail
  refine (unhide HP).mono ?_
  rintro e w1 ⟨rfl, hb1⟩
  have HB1 := hide hb1
  clear hb1
  go_wp2_with fail
  refine (unhide HR _).mono ?_
  rintro e w2 ⟨rfl, hb2⟩
  have HB2 := hide (below_two hb2 (unhide HB1))
  clear hb2
  go_wp2_with (go_at_call 17; refine (num_any _ _).mono ?_; rintro e w' ⟨rfl, rfl⟩)
  go_ret
  exact ⟨rfl, unhide HB2⟩

theorem upto_two {H : Type} {f t : ByteArray} (h : Rows.uptoSmall H [.lit (.string f.data.toList), .lit (.string t.data.toList)] = true) : f.size ≤ 1048576 ∧ t.size ≤ 1048576 := by
  have h2 : Rows.uptoBulkAll (H := H) [.lit (.string f.data.toList), .lit (.string t.data.toList)] ≤ 1048576 := of_decide_eq_true h
  simp only [Rows.uptoBulkAll, Rows.uptoBulk] at h2
  rw [len_toList, len_toList] at h2
  omega

theorem reads2 (os : Os) {H : Type} (enc : TypeId × Value → H) : ∃ places, DataW.whole enc Tryz.prog ((laidOf (World.holding Tryz.prog os ⟨#[], #[], []⟩)).forCall (fun _ _ => 0) ⟨#[], #[.string ⟨#[]⟩, .string ⟨#[]⟩], []⟩).memory Tryz.f4.params.toList Rows.classingSpec.vars false #[Value.string ⟨#[]⟩, Value.string ⟨#[]⟩].toList 8 = some ([.lit (.string []), .lit (.string [])], [], places) :=
  ⟨[], by kernel_rfl⟩

theorem classing_size {W : World} (h : World.ShapedOpen Tryz.prog W) : 4 < W.heap.size := by
  obtain ⟨o, o0, h1, _⟩ := h.2 6 (Nat.le_of_eq (by kernel_rfl)) (of_decide_eq_true (by kernel_rfl))
  exact Nat.lt_trans (show 4 < 6 by decide) (Array.getElem?_eq_some_iff.1 h1).1
set_option maxRecDepth 100000 in
theorem classing_contract (H : Type) (enc : TypeId × Value → H) (W : World) (base : Nat) (args : Array Value) (ds gs : List (DataW H)) (before : List MemPlace)
    (hval : ∀ (j : Nat) t v, Tryz.f4.params[j]? = some t → args[j]? = some v → Value.okWide Tryz.prog W .any base t v)
    (hW : DataW.Whole enc Tryz.prog Tryz.f4.params.toList Rows.classingSpec.vars false W args.toList ds gs before) (hk : Rows.uptoSmall H (ds ++ gs) = true) (hL : laidMetH Tryz.prog lay3 W) (hSz : 4 < W.heap.size) :
    Calls Tryz.prog 4 args W fun e W' => ∃ v, e = .returned v ∧ Rows.classingSpec.post enc Tryz.prog Tryz.f4 false true false false W args v W' := by
  have hW' := hW
  obtain ⟨p, q, hA0, hV, rfl, hfz, hnd⟩ := hW
  have hA : DataW.TrodAll enc Tryz.prog W 0 (fun _ => true) true Tryz.f4.params.toList args.toList ds p := hA0
  rw [Tryz.params4] at hA hval
  obtain ⟨v0, vs0, d0, ds0, p0, q0, hargs, rfl, rfl, h0, r0⟩ := trodAll_cons hA
  obtain ⟨v1, vs1, d1, ds1, p1, q1, hargs1, rfl, rfl, h1, r1⟩ := trodAll_cons r0
  obtain ⟨rfl, rfl, rfl⟩ := trodAll_nil r1
  obtain rfl : args = #[v0, v1] := by cases args; simp_all
  obtain ⟨rfl, rfl⟩ := trodVars_none hV
  obtain ⟨f, rfl, rfl, rfl, hf⟩ := Go.ChangeMaps.open_string Tryz.underlying9 (hval 0 9 v0 rfl rfl) h0
  obtain ⟨t, rfl, rfl, rfl, ht⟩ := Go.ChangeMaps.open_string Tryz.underlying9 (hval 1 9 v1 rfl rfl) h1
  clear hA0
  obtain ⟨hf2, ht2⟩ := upto_two hk
  have hT := tabs_of_laid hL
  refine (classing_walk f t W (by omega) ht2 hT hSz (errT_of_laid hL)).mono fun e W' ⟨he, hb⟩ => ?_
  subst he
  exact ⟨_, rfl, _, _, _, [], [], [], hW', trodAll_cons_mk (shut_bool Tryz.underlying4 _) trodAll_mk0, trodAll_cons_mk (Go.ChangeMaps.shut_string Tryz.underlying9 hf) (trodAll_cons_mk (Go.ChangeMaps.shut_string Tryz.underlying9 ht) trodAll_mk0), rfl, hb.frame _, fun h => by cases h⟩

set_option maxRecDepth 100000 in
theorem classing_lifted (os : Os) (started : os.Started) (H : Type) (enc : TypeId × Value → H) (F : Stop.Interp) :
    ReturnsInHanded {} Tryz.checked os 4 .any ((Rows.OpenSpec.upto Rows.classingSpec).preRow enc Tryz.prog Tryz.f4 Rows.classingUptoRow.domain false Rows.classingUptoRow.laid) (((Rows.OpenSpec.upto Rows.classingSpec).at F).post enc Tryz.prog Tryz.f4 false true false false) := by
  obtain ⟨places, hx⟩ := reads2 os enc
  refine returnsInHanded_of_row (C := Tryz.checked) (s := Rows.OpenSpec.upto Rows.classingSpec) own started (by kernel_rfl) Tryz.func4
    (witness_row_at (enc := enc) (C := Tryz.checked) false (laidOf (World.holding Tryz.prog os ⟨#[], #[], []⟩)) #[.string ⟨#[]⟩, .string ⟨#[]⟩] rfl (by kernel_rfl) (by kernel_rfl) (by kernel_rfl)
      (OpenSpec.preRow_of_cond 8 hx (by kernel_rfl) (fun k hk => by cases hk; kernel_rfl) (by kernel_rfl) (laid_met os _))) ?_
  intro W base args ds gs before hval hW _ hcond _ hL hsh _
  exact classing_contract H enc W base args ds gs before hval hW (hcond _ rfl) hL (classing_size hsh)

theorem classing_said : Rows.ClassingUptoSaid :=
  OpenClaim.holds_of_cond 4 Tryz.f4 rfl rfl rfl rfl rfl rfl rfl ⟨rfl, rfl, rfl, rfl, rfl⟩ rfl rfl rfl rfl rfl (by kernel_rfl) Tryz.func4 (by kernel_rfl)
    (of_decide_eq_true (by kernel_rfl)) (by unfold Func.isWrapper; first | (rw [if_pos (by decide +kernel)]; kernel_rfl) | (rw [if_neg (by decide +kernel)]; exact ⟨rfl, rfl⟩))
    (fun os started H enc _ F => by rw [OpenClaim.pre_eq_preRow]; exact classing_lifted os started H enc F)

theorem classing_plain (f : FuncId) (fn : Func) (hf : Tryz.pinned.checked.prog.funcNamed "cutter/cutterlaw.Classing" = some f) (hfn : Tryz.pinned.checked.prog.funcs[f]? = some fn) :
    true = Tryz.pinned.checked.prog.looks [] ∧ ∀ (j : Nat) t, fn.params[j]? = some t → Tryz.pinned.checked.prog.wantsStandIn t = false := by
  obtain rfl : f = 4 := Option.some.inj ((show Tryz.prog.funcNamed "cutter/cutterlaw.Classing" = some 4 by kernel_rfl).symm.trans hf) |>.symm
  obtain rfl : fn = Tryz.f4 := (Option.some.inj (Tryz.func4.symm.trans hfn)).symm
  refine ⟨by kernel_rfl, fun j t ht => ?_⟩
  rw [Tryz.params4] at ht
  obtain rfl : t = 9 := by simpa using Array.mem_of_getElem? ht
  exact (show Tryz.prog.wantsStandIn 9 = false by kernel_rfl)

/-- The tied card of the law Classing, its second form. -/
theorem classing_holds : Rows.ClassingUptoCardSaid :=
  holds_tied_goes .later _ _ _ _ classing_said (by kernel_rfl) classingUpto_row_tie rfl ⟨rfl, rfl⟩ (by kernel_rfl) rfl classing_plain (by kernel_rfl)
#print axioms classing_holds
end Go.Proofs.YtbppbejigedioaaGreatDoor
