/- The law Framed walked. -/
import Derived.Test.YtbppbejigedioaaGreatDoorLawA
namespace Go.Proofs.YtbppbejigedioaaGreatDoor
open Go.RowKit

theorem cutOut_good {f t : List UInt8} (h : isGood f = true) : cutOut f t = Cu.cutsR (Cu.readGo f 12 0 []).2.2 t := by
  unfold isGood at h
  unfold cutOut
  rw [if_pos (of_decide_eq_true h)]
theorem cutOut_bad {f t : List UInt8} (h : isGood f = false) : cutOut f t = [] := by
  unfold isGood at h
  unfold cutOut
  rw [if_neg (of_decide_eq_false h)]
theorem size_extract_le (t : ByteArray) (i j : Nat) : (t.extract i j).size = min j t.size - i := by simp
theorem take_extract (t : ByteArray) (p : Nat) : (t.extract 0 p).data.toList = t.data.toList.take p := by
  simp
theorem drop_extract (t : ByteArray) (p : Nat) : (t.extract p t.size).data.toList = t.data.toList.drop p := by
  have h : (t.data.toList.drop p).length ≤ t.size - p := by rw [List.length_drop, len_toList]; exact Nat.le_refl _
  simpa using List.take_of_length_le h

set_option maxRecDepth 100000 in
set_option maxHeartbeats 2000000 in
theorem framed_walk (f t : ByteArray) (w : World) (hf : f.size ≤ 9223372036854775807) (ht : t.size ≤ 1048576) (hT : Tabs w) (hw3 : 4 < w.heap.size) (hg : ErrT w) (hz : Tz w) :
    Calls Tryz.prog 6 #[.string f, .string t] w fun e w' => e = .returned (.bool true) ∧ Below w.heap.size w w' := by
  have HC := hide (fun (q : ByteArray) (hq : q.size ≤ 1048576) W (hb : Below w.heap.size w W) => lchars_any q w W hq hT hw3 hg hb)
  have HP := hide (lcut_any f t w w hf ht hT hw3 hg hz (Below.refl _ _))
  have hol := cutOut_len f t ht
  clear hg hT hz
  cases hgd : isGood f.data.toList
  · have hout : cutOut f.data.toList t.data.toList = [] := cutOut_bad hgd
    rw [hout, hgd] at HP
    go_enter Tryz.func6, Tryz.ntmps6
    go_wp2_with fail
    refine (unhide HP).mono ?_
    rintro e w1 ⟨a, cap, rfl, ho, hb⟩
    clear HC HP ho hout hol
    have HB := hide hb
    clear hb
    simp only [List.length_nil]
    go_wp2_with fail
    refine (good_any f _ hf).mono ?_
    rintro e w2 ⟨rfl, hb2⟩
    obtain ⟨hB2, _, hb3, _⟩ := told_put (unhide HB) hb2
    obtain ⟨q0, q1, q2⟩ := hB2.two
    rw [hgd]
    clear hb2 hB2
    go_wp2
    go_ret
    exact ⟨rfl, hb3⟩
  · have hout := cutOut_good (t := t.data.toList) hgd
    rw [hgd] at HP
    by_cases h0 : t.size = 0
    · obtain rfl : t = ⟨#[]⟩ := by
        apply ByteArray.ext
        exact Array.eq_empty_of_size_eq_zero h0
      have e1 : cutOut f.data.toList (ByteArray.mk #[]).data.toList = [] := by rw [hout]; rfl
      have e2 : (Cu.chars (ByteArray.mk #[]).data.toList).length = 0 := rfl
      have HC := hide (unhide HC ⟨#[]⟩ ht)
      rw [e1] at HP
      rw [e2] at HC
      clear hout hol h0 e1 e2
      go_enter Tryz.func6, Tryz.ntmps6
      go_wp2_with fail
      refine (unhide HP).mono ?_
      rintro e w1 ⟨a, cap, rfl, ho, hb⟩
      have HB := hide hb
      clear hb ho
      simp only [List.length_nil]
      go_wp2_with fail
      refine (good_any f _ hf).mono ?_
      rintro e w2 ⟨rfl, hb2⟩
      obtain ⟨hB2, _, hb3, _⟩ := told_put (unhide HB) hb2
      have HB2 := hide hb3
      have HK := hide hB2
      rw [hgd]
      clear hb2 hB2 hb3
      go_wp2_with fail
      refine (unhide HC _ (unhide HB2)).mono ?_
      rintro e w3 ⟨rfl, hb3⟩
      obtain ⟨q0, q1, q2⟩ := ((unhide HK).below hb3 (unhide HK).lt).two
      have HB3 := hide (below_two hb3 (unhide HB2))
      clear hb3
      go_wp2
      go_ret
      exact ⟨rfl, unhide HB3⟩
    · have HF := hide (Cu.framed (Cu.readGo f.data.toList 12 0 []).2.2 (t := t.data.toList) (by rw [len_toList]; omega))
      have hcp := Cu.chars_pos (t := t.data.toList) (by rw [len_toList]; omega)
      have hcl := chars_len t
      rw [← hout] at HF
      have htwo := (unhide HF).two
      clear hout
      generalize cutOut f.data.toList t.data.toList = out at *
      have HCT := hide (unhide HC t ht)
      generalize hcn : (Cu.chars t.data.toList).length = cn at *
      have HCN := hide hcn
      clear hcn
      have dcn : ((cn : Int) == 0) = false := by rw [beq_eq_false_iff_ne]; omega
      have dc0 : decide ((cn : Int) < 0) = false := decide_eq_false (by omega)
      have dte := notEmpty_of h0
      go_enter Tryz.func6, Tryz.ntmps6
      go_wp2_with fail
      refine (unhide HP).mono ?_
      rintro e w1 ⟨a, cap, rfl, ho, hb⟩
      have HB := hide hb
      have HO := hide ho
      clear hb ho
      go_wp2_with fail
      refine (good_any f _ hf).mono ?_
      rintro e w2 ⟨rfl, hb2⟩
      obtain ⟨hd, hb3, hb4, _⟩ := held_put (unhide HB) (unhide HO) hb2
      have HB2 := hide hb4
      have HD := hide hd
      rw [hgd]
      generalize w1.heap.size = b at HD
      clear hb2 hb3 hb4 HO HB
      go_wp2_with fail
      refine (unhide HCT _ (unhide HB2)).mono ?_
      rintro e w3 ⟨rfl, hb3⟩
      have HD3 := hide ((unhide HD).below hb3)
      have HB3 := hide (below_two hb3 (unhide HB2))
      obtain ⟨q0, q1, q2⟩ := (unhide HD3).blk.two
      obtain ⟨g, x0, rfl, hx0, r0⟩ := int_cell (unhide HD3).row 0 (by omega)
      obtain rfl : x0 = 0 := by simpa [(unhide HF).zero, eq_comm] using hx0
      obtain ⟨g', x1, hg', hx1, r1⟩ := int_cell (unhide HD3).row (out.length - 1) (by omega)
      obtain rfl : g = g' := by simpa using hg'
      obtain rfl : x1 = t.size := by
        have h := (unhide HF).last
        rw [hx1, len_toList] at h
        simpa using h
      have hix : ((out.length : Int) - 1) = ((out.length - 1 : Nat) : Int) := by omega
      clear hb3 HD HB2 HP HCT hx0 hx1 hg' hd
      go_wp2
      clear r0 r1 hix q0 q1 q2 htwo
      go_loopw [8] (fun v wr => ∃ n : Nat, 1 ≤ n ∧ n ≤ out.length ∧ v = .int .i64 n ∧ Below w.heap.size w wr ∧ Held w wr b (some ⟨g, 0, none⟩) cap out true) (fun v _ => 1048579 - (intOf v).toNat)
      case atStart =>
        go_light
        exact ⟨1, by omega, by omega, rfl, unhide HB3, unhide HD3⟩
      case round =>
        clear HB3 HD3
        obtain ⟨n, hn1, hm, rfl, hbw, hdw⟩ := hrel
        have HBW := hide hbw
        have HDW := hide hdw
        obtain ⟨q0, q1, q2⟩ := hdw.blk.two
        by_cases hlt : n < out.length
        · obtain ⟨g1, x, hg1, hx, r0⟩ := int_cell hdw.row (n - 1) (by omega)
          obtain rfl : g = g1 := by simpa using hg1
          obtain ⟨g2, y, hg2, hy, r1⟩ := int_cell hdw.row n hlt
          obtain rfl : g = g2 := by simpa using hg2
          have hxy := (unhide HF).rise (n - 1) x y hx (by rw [Nat.sub_add_cancel hn1]; exact hy)
          have hyt := (unhide HF).le y (List.mem_of_getElem? hy)
          rw [len_toList] at hyt
          have HPA := hide ((unhide HF).part y (List.mem_of_getElem? hy))
          have HY := hide hy
          clear hbw hdw hg1 hg2 hx hy
          have dxy : ¬ y ≤ x := by omega
          have dyt : ¬ t.size < y := by omega
          have hix : ((n : Int) - 1) = ((n - 1 : Nat) : Int) := by omega
          go_wp2
          go_quiet (fail)
          go_wp2_with fail
          refine (unhide HC (t.extract 0 y) (by rw [size_extract_le]; omega) _ (below_drawn (unhide HBW) _)).mono ?_
          rintro e w4 ⟨rfl, hb4⟩
          rw [take_extract]
          have HB4 := hide (below_two hb4 (below_drawn (unhide HBW) nq))
          have HD4 := hide (((unhide HDW).drewN nq).below hb4)
          obtain ⟨q0, q1, q2⟩ := (unhide HD4).blk.two
          obtain ⟨g2, y2, hg2, hy2, r1⟩ := int_cell (unhide HD4).row n hlt
          obtain rfl : g = g2 := by simpa using hg2
          obtain rfl : y = y2 := by rw [unhide HY] at hy2; simpa using hy2
          clear hb4 hg2 hy2 HBW HDW
          generalize (Cu.chars (List.take y t.data.toList)).length = ca at HPA ⊢
          go_wp2_with fail
          refine (unhide HC (t.extract y t.size) (by rw [size_extract_le]; omega) _ (unhide HB4)).mono ?_
          rintro e w5 ⟨rfl, hb5⟩
          rw [drop_extract]
          have HB5 := hide (below_two hb5 (unhide HB4))
          have HD5 := hide ((unhide HD4).below hb5)
          clear hb5 HB4 HD4
          generalize (Cu.chars (List.drop y t.data.toList)).length = cb at HPA ⊢
          have hcc : ca + cb = cn := by rw [← unhide HCN]; exact unhide HPA
          have da : decide ((ca : Int) < 0) = false := decide_eq_false (by omega)
          have db : decide ((cb : Int) < 0) = false := decide_eq_false (by omega)
          have dab : (((ca : Int) + (cb : Int)) != (cn : Int)) = false := by rw [← hcc]; simp
          have hfin : Hid (∃ k : Nat, 1 ≤ k ∧ k ≤ out.length ∧ Value.int .i64 ((n : Int) + 1) = .int .i64 k ∧ Below w.heap.size w w5 ∧ Held w w5 b (some ⟨g, 0, none⟩) cap out true) := hide ⟨n + 1, by omega, by omega, by go_num, unhide HB5, unhide HD5⟩
          have hca : ca + cb ≤ 1048576 := by omega
          clear hcc HCN HPA
          go_wp2
          go_roundw
          case rel => first | exact unhide hfin | ((repeat apply Exists.intro); exact ⟨unhide hfin, rfl⟩)
          case measure => simp [intOf]; omega
        · clear hbw hdw
          go_wp2
          go_ret
          exact ⟨rfl, unhide HBW⟩
end Go.Proofs.YtbppbejigedioaaGreatDoor
