/- The law Default walked. -/
import Derived.Test.YtbppbejigedioaaGreatDoorFrLaw
namespace Go.Proofs.YtbppbejigedioaaGreatDoor
open Go.RowKit

theorem default_facts (f t : ByteArray) : isGood (f ++ ⟨#[59, 33]⟩).data.toList = isGood (f ++ ⟨#[59, 124]⟩).data.toList ∧
    (isGood f.data.toList = true → isGood (f ++ ⟨#[59, 124]⟩).data.toList = true → cutOut (f ++ ⟨#[59, 124]⟩).data.toList t.data.toList = cutOut f.data.toList t.data.toList ∧
      (∀ q ∈ cutOut (f ++ ⟨#[59, 33]⟩).data.toList t.data.toList, q ∈ cutOut f.data.toList t.data.toList) ∧ ((cutOut (f ++ ⟨#[59, 33]⟩).data.toList t.data.toList).length = 0 ↔ t.size = 0)) := by
  have e1 : (f ++ ⟨#[59, 33]⟩).data.toList = f.data.toList ++ [59, 33] := by simp
  have e2 : (f ++ ⟨#[59, 124]⟩).data.toList = f.data.toList ++ [59, 124] := by simp
  rw [e1, e2]
  obtain ⟨a1, a2⟩ := Cu.check_op f.data.toList 33 (Or.inr rfl)
  obtain ⟨b1, b2⟩ := Cu.check_op f.data.toList 124 (Or.inl rfl)
  have hh : isGood (f.data.toList ++ [59, 33]) = isGood (f.data.toList ++ [59, 124]) := by
    unfold isGood
    rw [decide_eq_decide]
    exact a1.trans b1.symm
  refine ⟨hh, fun hg hy => ?_⟩
  have hl : Cu.LastOk f.data.toList := b1.1 (of_decide_eq_true hy)
  rw [cutOut_good hy, cutOut_good (hh.trans hy), cutOut_good hg, a2 hl, b2 hl]
  refine ⟨Cu.cutsR_lastBar _ _ _, Cu.cutsR_lastNo _ _ _, ?_⟩
  rw [Cu.cutsR_empty, len_toList]

set_option maxRecDepth 100000 in
set_option maxHeartbeats 4000000 in
theorem default_walk (f t : ByteArray) (w : World) (hf : f.size ≤ 1048576) (ht : t.size ≤ 1048576) (hT : Tabs w) (hw3 : 4 < w.heap.size) (hg : ErrT w) (hz : Tz w) :
    Calls Tryz.prog 9 #[.string f, .string t] w fun e w' => e = .returned (.bool true) ∧ Below w.heap.size w w' := by
  have hf1 : (f ++ ⟨#[59, 124]⟩).size ≤ 9223372036854775807 := by rw [ByteArray.size_append]; show f.size + 2 ≤ _; omega
  have hf2 : (f ++ ⟨#[59, 33]⟩).size ≤ 9223372036854775807 := by rw [ByteArray.size_append]; show f.size + 2 ≤ _; omega
  have HP1 := hide (fun W (hb : Below w.heap.size w W) => lcut_any f t w W (by omega) ht hT hw3 hg hz hb)
  have HP2 := hide (fun W (hb : Below w.heap.size w W) => lcut_any (f ++ ⟨#[59, 124]⟩) t w W hf1 ht hT hw3 hg hz hb)
  have HP3 := hide (fun W (hb : Below w.heap.size w W) => lcut_any (f ++ ⟨#[59, 33]⟩) t w W hf2 ht hT hw3 hg hz hb)
  have HG1 := hide (fun W => good_any f W (by omega))
  have HG2 := hide (fun W => good_any (f ++ ⟨#[59, 124]⟩) W hf1)
  have hlA := cutOut_len f t ht
  have hlB := cutOut_len (f ++ ⟨#[59, 124]⟩) t ht
  have hlC := cutOut_len (f ++ ⟨#[59, 33]⟩) t ht
  obtain ⟨hy2, hfa⟩ := default_facts f t
  rw [hy2] at HP3
  have HFA := hide hfa
  have hov : ¬ 9223372036854775807 < f.size + 2 := by omega
  clear hg hT hz hf1 hf2 hfa hy2
  generalize cutOut (f ++ ⟨#[59, 124]⟩).data.toList t.data.toList = B at *
  generalize cutOut (f ++ ⟨#[59, 33]⟩).data.toList t.data.toList = C at *
  generalize cutOut f.data.toList t.data.toList = A at *
  generalize isGood (f ++ ⟨#[59, 124]⟩).data.toList = y at *
  generalize isGood f.data.toList = x at *
  go_enter Tryz.func9, Tryz.ntmps9
  go_wp2_with fail
  refine (unhide HP1 w (Below.refl _ _)).mono ?_
  rintro e w1 ⟨a1, c1, rfl, ho1, hb1⟩
  have HO1 := hide ho1
  have HB1 := hide hb1
  clear ho1 hb1
  go_wp2_with fail
  refine (unhide HP2 _ (below_put (unhide HB1) _)).mono ?_
  rintro e w2 ⟨a2, c2, rfl, ho2, hb2⟩
  obtain ⟨hd1, hbb, hb, hle⟩ := held_put (unhide HB1) (unhide HO1) hb2
  have HO2 := hide (own_base ho2 hle)
  have HB2 := hide hb
  have HD1 := hide hd1
  generalize w1.heap.size = b1 at HD1
  clear ho2 hb2 hd1 hbb hb hle HO1 HB1
  go_wp2_with fail
  refine (unhide HP3 _ (below_put (unhide HB2) _)).mono ?_
  rintro e w3 ⟨a3, c3, rfl, ho3, hb3⟩
  obtain ⟨hd2, hbb, hb, hle⟩ := held_put (unhide HB2) (unhide HO2) hb3
  have HO3 := hide (own_base ho3 hle)
  have HB3 := hide hb
  have HD1 := hide ((unhide HD1).below hbb)
  have HD2 := hide hd2
  generalize w2.heap.size = b2 at HD2
  clear ho3 hb3 hd2 hbb hb hle HO2 HB2
  go_wp2_with fail
  refine (unhide HG1 _).mono ?_
  rintro e w4 ⟨rfl, hb4⟩
  obtain ⟨hd3, hbb, hb, hle⟩ := held_put (unhide HB3) (unhide HO3) hb4
  have HB4 := hide hb
  have HD1 := hide ((unhide HD1).below hbb)
  have HD2 := hide ((unhide HD2).below hbb)
  have HD3 := hide hd3
  generalize w3.heap.size = b3 at HD3
  clear hb4 hd3 hbb hb hle HO3 HB3
  go_wp2_with fail
  refine (unhide HG2 _).mono ?_
  rintro e w5 ⟨rfl, hb5⟩
  have HB5 := hide (below_two hb5 (unhide HB4))
  have HD1 := hide ((unhide HD1).below hb5)
  have HD2 := hide ((unhide HD2).below hb5)
  have HD3 := hide ((unhide HD3).below hb5)
  clear hb5 HB4 HP1 HP2 HP3 HG1 HG2
  obtain ⟨p0, p1, p2⟩ := (unhide HD1).blk.two
  obtain ⟨p3, p4, p5⟩ := (unhide HD2).blk.two
  obtain ⟨p6, p7, p8⟩ := (unhide HD3).blk.two
  by_cases hxy : x = true ∧ y = true
  · obtain ⟨rfl, rfl⟩ := hxy
    obtain ⟨rfl, hsub, hem⟩ := unhide HFA rfl rfl
    have HSUB := hide hsub
    have HEM := hide hem
    clear HFA hsub hem
    go_wp2
    clear p0 p1 p2 p3 p4 p5 p6 p7 p8
    go_loopw [10] (fun v wr => ∃ n : Nat, n ≤ C.length ∧ v = .int .i64 n ∧ Below w.heap.size w wr ∧ Held w wr b1 a1 c1 B true ∧ Held w wr b2 a2 c2 B true ∧ Held w wr b3 a3 c3 C true) (fun v _ => 1048579 - (intOf v).toNat)
    case atStart =>
      go_light
      exact ⟨0, by omega, rfl, unhide HB5, unhide HD1, unhide HD2, unhide HD3⟩
    case round =>
      clear HB5 HD1 HD2 HD3
      obtain ⟨n, hn, rfl, hbw, hd1, hd2, hd3⟩ := hrel
      have HBW := hide hbw
      have HD1 := hide hd1
      have HD2 := hide hd2
      have HD3 := hide hd3
      obtain ⟨p0, p1, p2⟩ := hd1.blk.two
      obtain ⟨p3, p4, p5⟩ := hd2.blk.two
      obtain ⟨p6, p7, p8⟩ := hd3.blk.two
      by_cases hlt : n < C.length
      · obtain ⟨g, z, rfl, hz, r0⟩ := int_cell hd3.row n hlt
        have hin : B.contains z = true := by rw [List.contains_iff_mem]; exact unhide HSUB z (List.mem_of_getElem? hz)
        have hc : ∀ k, Calls Tryz.prog 27 #[.slice a1 B.length c1, .int .i64 z] (wr.drewN k) fun e w' => e = .returned (.bool true) ∧ w' = wr.drewN k := fun k => by
          have h := has_any B a1 c1 _ z (wr.drewN k) ((unhide HD1).drewN k).row (by omega)
          rw [hin] at h
          exact h
        have hfin : Hid (∀ q, ∃ k : Nat, k ≤ C.length ∧ Value.int .i64 ((n : Int) + 1) = .int .i64 k ∧ Below w.heap.size w (wr.drewN q) ∧ Held w (wr.drewN q) b1 a1 c1 B true ∧ Held w (wr.drewN q) b2 a2 c2 B true ∧ Held w (wr.drewN q) b3 (some ⟨g, 0, none⟩) c3 C true) :=
          hide fun q => ⟨n + 1, by omega, by go_num, below_drawn (unhide HBW) q, (unhide HD1).drewN q, (unhide HD2).drewN q, (unhide HD3).drewN q⟩
        clear hbw hd1 hd2 hd3 hz hin
        go_wp2
        go_quiet ((go_at_call 27; exact (hc _).mono (fun _ _ h => ⟨h.1, _, h.2⟩)))
        go_wp2
        go_roundw
        case rel => first | exact unhide hfin _ | ((repeat apply Exists.intro); exact ⟨unhide hfin _, rfl⟩)
        case measure => simp [intOf]; omega
      · clear hbw hd1 hd2 hd3
        go_wp2_with fail
        refine (same_any B B a1 a2 c1 c2 _ _ _ (unhide HD1).row (unhide HD2).row (by omega)).mono ?_
        rintro e w6 ⟨rfl, hb6⟩
        have hBB : (B == B) = true := by simp
        rw [hBB]
        have HB6 := hide (below_two hb6 (unhide HBW))
        obtain ⟨p6, p7, p8⟩ := ((unhide HD3).below hb6).blk.two
        clear hb6 hBB HBW HD1 HD2 HD3
        by_cases h0 : t.size = 0
        · have dte := isEmpty_of h0
          have dC : ((C.length : Int) == 0) = true := by rw [(unhide HEM).2 h0]; rfl
          go_wp2
          go_ret
          exact ⟨rfl, unhide HB6⟩
        · have dte := notEmpty_of h0
          have dC : ((C.length : Int) == 0) = false := by
            rw [beq_eq_false_iff_ne]
            intro h
            exact h0 ((unhide HEM).1 (by omega))
          go_wp2
          go_ret
          exact ⟨rfl, unhide HB6⟩
  · cases x <;> cases y
    · go_wp2
      go_ret
      exact ⟨rfl, unhide HB5⟩
    · go_wp2
      go_ret
      exact ⟨rfl, unhide HB5⟩
    · go_wp2
      go_ret
      exact ⟨rfl, unhide HB5⟩
    · exact absurd ⟨rfl, rfl⟩ hxy
end Go.Proofs.YtbppbejigedioaaGreatDoor
