/- The law Early walked. -/
import Derived.Test.YtbppbejigedioaaGreatDoorFrLaw
namespace Go.Proofs.YtbppbejigedioaaGreatDoor
open Go.RowKit

theorem early_facts (f t u : ByteArray) (h : isGood f.data.toList = true) :
    (∀ p, p + 12 ≤ t.size → (cutOut f.data.toList (t ++ u).data.toList).contains p = (cutOut f.data.toList t.data.toList).contains p) ∧ ((cutOut f.data.toList (t ++ u).data.toList).length = 0 ↔ (t ++ u).size = 0) := by
  rw [cutOut_good h, cutOut_good h]
  refine ⟨fun p hp => ?_, by rw [Cu.cutsR_empty, len_toList]⟩
  have e : (t ++ u).data.toList = t.data.toList ++ u.data.toList := by simp
  rw [e, Bool.eq_iff_iff, List.contains_iff_mem, List.contains_iff_mem]
  exact Cu.early (Cu.readGo_right _ _ _ _ (by simp)) _ _ p (by rw [len_toList]; exact hp)

set_option maxRecDepth 100000 in
set_option maxHeartbeats 2000000 in
theorem early_walk (f t u : ByteArray) (w : World) (hf : f.size ≤ 9223372036854775807) (ht : t.size + u.size ≤ 1048576) (hT : Tabs w) (hw3 : 4 < w.heap.size) (hg : ErrT w) (hz : Tz w) :
    Calls Tryz.prog 10 #[.string f, .string t, .string u] w fun e w' => e = .returned (.bool true) ∧ Below w.heap.size w w' := by
  have hsz : (t ++ u).size ≤ 1048576 := by rw [ByteArray.size_append]; exact ht
  have HP1 := hide (fun W (hb : Below w.heap.size w W) => lcut_any f t w W hf (by omega) hT hw3 hg hz hb)
  have HP2 := hide (fun W (hb : Below w.heap.size w W) => lcut_any f (t ++ u) w W hf hsz hT hw3 hg hz hb)
  have hlA := cutOut_len f t (by omega)
  have hlB := cutOut_len f (t ++ u) hsz
  have HFA := hide (early_facts f t u)
  have hov : ¬ 9223372036854775807 < t.size + u.size := by omega
  clear hg hT hz
  generalize cutOut f.data.toList (t ++ u).data.toList = B at *
  generalize cutOut f.data.toList t.data.toList = A at *
  cases hgd : isGood f.data.toList
  all_goals
    rw [hgd] at HP1 HP2
    go_enter Tryz.func10, Tryz.ntmps10
    go_wp2_with fail
    refine (unhide HP1 w (Below.refl _ _)).mono ?_
    rintro e w1 ⟨a1, c1, rfl, ho1, hb1⟩
    have HO1 := hide ho1
    have HB1 := hide hb1
    clear ho1 hb1
    go_wp2_with fail
    refine (unhide HP2 _ (below_put (unhide HB1) _)).mono ?_
    rintro e w2 ⟨a2, c2, rfl, ho2, hb2⟩
    obtain ⟨hd1, hbb, hb, hle⟩ := held_put (unhide HB1) (unhide HO1) hb2
    have HO2 := hide (own_base ho2 hle)
    have HB2 := hide hb
    have HD1 := hide hd1
    generalize w1.heap.size = b1 at HD1
    clear ho2 hb2 hd1 hbb hb hle HO1 HB1
    go_wp2_with fail
    refine (good_any f _ hf).mono ?_
    rintro e w3 ⟨rfl, hb3⟩
    rw [hgd]
    obtain ⟨hd2, hbb, hb, hle⟩ := held_put (unhide HB2) (unhide HO2) hb3
    have HB3 := hide hb
    have HD1 := hide ((unhide HD1).below hbb)
    have HD2 := hide hd2
    generalize w2.heap.size = b2 at HD2
    clear hb3 hd2 hbb hb hle HO2 HB2
    obtain ⟨p0, p1, p2⟩ := (unhide HD1).blk.two
    obtain ⟨p3, p4, p5⟩ := (unhide HD2).blk.two
    clear HP1 HP2
  · go_wp2
    go_ret
    exact ⟨rfl, unhide HB3⟩
  · obtain ⟨hea, hem⟩ := unhide HFA hgd
    have HEA := hide hea
    have HEM := hide hem
    clear HFA hea hem
    go_wp2
    clear p0 p1 p2 p3 p4 p5
    go_loopw [10] (fun v wr => ∃ n : Nat, n ≤ t.size ∧ v = .int .i64 n ∧ Below w.heap.size w wr ∧ Held w wr b1 a1 c1 A true ∧ Held w wr b2 a2 c2 B true) (fun v _ => 1048579 - (intOf v).toNat)
    case atStart =>
      go_light
      exact ⟨0, by omega, rfl, unhide HB3, unhide HD1, unhide HD2⟩
    case round =>
      clear HB3 HD1 HD2
      obtain ⟨n, hn, rfl, hbw, hd1, hd2⟩ := hrel
      have HBW := hide hbw
      have HD1 := hide hd1
      have HD2 := hide hd2
      obtain ⟨p0, p1, p2⟩ := hd1.blk.two
      obtain ⟨p3, p4, p5⟩ := hd2.blk.two
      clear hbw hd1 hd2
      by_cases hlt : n + 12 ≤ t.size
      · have hc := unhide HEA n hlt
        have HQ : Hid (B.contains n = A.contains n) := hide hc
        clear hc
        cases hq : A.contains n
        all_goals
          rw [hq] at HQ
          have HQA := hide hq
          clear hq
          go_wp2_with fail
          refine (has_any A a1 c1 _ n _ (unhide HD1).row (by omega)).mono ?_
          rintro e w4 ⟨rfl, rfl⟩
          rw [unhide HQA]
          go_wp2_with fail
          refine (has_any B a2 c2 _ n _ (unhide HD2).row (by omega)).mono ?_
          rintro e w4 ⟨rfl, rfl⟩
          rw [unhide HQ]
          have hfin : Hid (∃ k : Nat, k ≤ t.size ∧ Value.int .i64 ((n : Int) + 1) = .int .i64 k ∧ Below w.heap.size w w4 ∧ Held w w4 b1 a1 c1 A true ∧ Held w w4 b2 a2 c2 B true) := hide ⟨n + 1, by omega, by go_num, unhide HBW, unhide HD1, unhide HD2⟩
          go_wp2
          go_roundw
          case rel => first | exact unhide hfin | ((repeat apply Exists.intro); exact ⟨unhide hfin, rfl⟩)
          case measure => simp [intOf]; omega
      · by_cases h0 : (t ++ u).size = 0
        · have dte := isEmpty_of h0
          obtain rfl : B = [] := List.length_eq_zero_iff.1 ((unhide HEM).2 h0)
          simp only [List.length_nil] at p3
          clear HEA HEM HD1 HD2 hlB
          go_wp2
          go_ret
          exact ⟨rfl, unhide HBW⟩
        · have dB : ¬ B = [] := fun h => h0 ((unhide HEM).1 (by rw [h]; rfl))
          have dB2 : 0 < B.length := List.length_pos_iff.2 dB
          go_wp2
          go_ret
          exact ⟨rfl, unhide HBW⟩
end Go.Proofs.YtbppbejigedioaaGreatDoor
