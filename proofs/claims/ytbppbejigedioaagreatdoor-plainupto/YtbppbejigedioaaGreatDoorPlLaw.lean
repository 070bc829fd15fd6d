/- The law Plain walked. -/
import Derived.Test.YtbppbejigedioaaGreatDoorLawA
namespace Go.Proofs.YtbppbejigedioaaGreatDoor
open Go.RowKit

theorem plain_facts (t : ByteArray) : (t.size = 0 ∧ Cu.allCuts t.data.toList = [] ∧ Cu.noCuts t.data.toList = [] ∧ (Cu.chars t.data.toList).length = 0) ∨
    (¬ t.size = 0 ∧ (Cu.allCuts t.data.toList).length = (Cu.chars t.data.toList).length + 1 ∧ Cu.noCuts t.data.toList = [0, t.size] ∧ 0 < (Cu.chars t.data.toList).length) := by
  by_cases h : t.size = 0
  · have e : t.data.toList = [] := List.length_eq_zero_iff.1 (by rw [len_toList]; exact h)
    rw [e]
    exact Or.inl ⟨h, rfl, rfl, rfl⟩
  · have h1 : 0 < t.data.toList.length := by rw [len_toList]; omega
    refine Or.inr ⟨h, Cu.allCuts_len h1, ?_, Cu.chars_pos h1⟩
    unfold Cu.noCuts
    rw [if_pos h1, len_toList]

set_option maxRecDepth 100000 in
set_option maxHeartbeats 2000000 in
theorem plain_walk (t : ByteArray) (w : World) (ht : t.size ≤ 1048576) (hT : Tabs w) (hw3 : 4 < w.heap.size) (hg : ErrT w) (hz : Tz w) :
    Calls Tryz.prog 7 #[.string t] w fun e w' => e = .returned (.bool true) ∧ Below w.heap.size w w' := by
  have HC := hide (fun W (hb : Below w.heap.size w W) => lchars_any t w W ht hT hw3 hg hb)
  have HP0 := hide (fun W (hb : Below w.heap.size w W) => lcut_const ⟨#[]⟩ t w W (by decide) ht hT hw3 hg hz hb Cu.check_none (Cu.cutsR_nofile _))
  have HP1 := hide (fun W (hb : Below w.heap.size w W) => lcut_const ⟨#[33]⟩ t w W (by decide) ht hT hw3 hg hz hb Cu.check_no (Cu.cutsR_no _))
  have HP2 := hide (fun W (hb : Below w.heap.size w W) => lcut_const ⟨#[46, 33, 46]⟩ t w W (by decide) ht hT hw3 hg hz hb Cu.check_dots (Cu.cutsR_dots _))
  have HP3 := hide (fun W (hb : Below w.heap.size w W) => lcut_const ⟨#[124]⟩ t w W (by decide) ht hT hw3 hg hz hb Cu.check_bar (Cu.cutsR_bar _))
  have hla := all_len t ht
  have hcl := chars_len t
  have HFA := hide (plain_facts t)
  clear hg hT hz
  generalize Cu.allCuts t.data.toList = A at *
  generalize Cu.noCuts t.data.toList = N at *
  generalize (Cu.chars t.data.toList).length = cn at *
  go_enter Tryz.func7, Tryz.ntmps7
  go_wp2_with fail
  refine (unhide HP0 w (Below.refl _ _)).mono ?_
  rintro e w1 ⟨a1, c1, rfl, ho1, hb1⟩
  have HO1 := hide ho1
  have HB1 := hide hb1
  clear ho1 hb1
  go_wp2_with fail
  refine (unhide HP1 _ (below_put (unhide HB1) _)).mono ?_
  rintro e w2 ⟨a2, c2, rfl, ho2, hb2⟩
  obtain ⟨hd1, hbb, hb, hle⟩ := held_put (unhide HB1) (unhide HO1) hb2
  have HO2 := hide (own_base ho2 hle)
  have HB2 := hide hb
  have HD1 := hide hd1
  generalize w1.heap.size = b1 at HD1
  clear ho2 hb2 hd1 hbb hb hle HO1 HB1
  go_wp2_with fail
  refine (unhide HP2 _ (below_put (unhide HB2) _)).mono ?_
  rintro e w3 ⟨a3, c3, rfl, ho3, hb3⟩
  obtain ⟨hd2, hbb, hb, hle⟩ := held_put (unhide HB2) (unhide HO2) hb3
  have HO3 := hide (own_base ho3 hle)
  have HB3 := hide hb
  have HD1 := hide ((unhide HD1).below hbb)
  have HD2 := hide hd2
  generalize w2.heap.size = b2 at HD2
  clear ho3 hb3 hd2 hbb hb hle HO2 HB2
  go_wp2_with fail
  refine (unhide HP3 _ (below_put (unhide HB3) _)).mono ?_
  rintro e w4 ⟨a4, c4, rfl, ho4, hb4⟩
  obtain ⟨hd3, hbb, hb, hle⟩ := held_put (unhide HB3) (unhide HO3) hb4
  have HO4 := hide (own_base ho4 hle)
  have HB4 := hide hb
  have HD1 := hide ((unhide HD1).below hbb)
  have HD2 := hide ((unhide HD2).below hbb)
  have HD3 := hide hd3
  generalize w3.heap.size = b3 at HD3
  clear ho4 hb4 hd3 hbb hb hle HO3 HB3
  go_wp2_with fail
  refine (unhide HC _ (below_put (unhide HB4) _)).mono ?_
  rintro e w5 ⟨rfl, hb5⟩
  obtain ⟨hd4, hbb, hb, hle⟩ := held_put (unhide HB4) (unhide HO4) hb5
  have HB5 := hide hb
  have HD1 := hide ((unhide HD1).below hbb)
  have HD2 := hide ((unhide HD2).below hbb)
  have HD3 := hide ((unhide HD3).below hbb)
  have HD4 := hide hd4
  generalize w4.heap.size = b4 at HD4
  clear hb5 hd4 hbb hb hle HO4 HB4 HP0 HP1 HP2 HP3 HC
  obtain ⟨p0, p1, p2⟩ := (unhide HD1).blk.two
  obtain ⟨p3, p4, p5⟩ := (unhide HD2).blk.two
  obtain ⟨p6, p7, p8⟩ := (unhide HD3).blk.two
  obtain ⟨p9, p10, p11⟩ := (unhide HD4).blk.two
  have dc0 : decide ((cn : Int) < 0) = false := decide_eq_false (by omega)
  rcases unhide HFA with ⟨h0, rfl, rfl, rfl⟩ | ⟨h0, hal, rfl, hcp⟩
  · have dte := isEmpty_of h0
    simp only [List.length_nil] at *
    clear HFA HD1 HD2 HD3 HD4 h0 hla hcl
    go_wp2
    go_ret
    exact ⟨rfl, unhide HB5⟩
  · have dte := notEmpty_of h0
    have HAL := hide hal
    clear HFA hal
    go_wp2_with fail
    refine (same_any A A a1 a4 c1 c4 _ _ w5 (unhide HD1).row (unhide HD4).row (by omega)).mono ?_
    rintro e w6 ⟨rfl, hb6⟩
    have hAA : (A == A) = true := by simp
    rw [hAA]
    have HB6 := hide (below_two hb6 (unhide HB5))
    have HD1 := hide ((unhide HD1).below hb6)
    have HD2 := hide ((unhide HD2).below hb6)
    have HD3 := hide ((unhide HD3).below hb6)
    obtain ⟨p3, p4, p5⟩ := (unhide HD2).blk.two
    obtain ⟨p6, p7, p8⟩ := (unhide HD3).blk.two
    clear hb6 HB5 HD4 hAA
    go_wp2_with fail
    refine (same_any [0, t.size] [0, t.size] a2 a3 c2 c3 _ _ w6 (unhide HD2).row (unhide HD3).row (by simp)).mono ?_
    rintro e w7 ⟨rfl, hb7⟩
    have hNN : (([0, t.size] : List Nat) == [0, t.size]) = true := by simp
    rw [hNN]
    have HB7 := hide (below_two hb7 (unhide HB6))
    have HD1 := hide ((unhide HD1).below hb7)
    have HD2 := hide ((unhide HD2).below hb7)
    clear hb7 HB6 HD3 hNN
    obtain ⟨p0, p1, p2⟩ := (unhide HD1).blk.two
    obtain ⟨p3, p4, p5⟩ := (unhide HD2).blk.two
    obtain ⟨g, x0, rfl, hx0, r0⟩ := int_cell (unhide HD2).row 0 (by simp)
    obtain ⟨g', x1, hg', hx1, r1⟩ := int_cell (unhide HD2).row 1 (by simp)
    obtain rfl : g = g' := by simpa using hg'
    obtain rfl : x0 = 0 := by simpa [eq_comm] using hx0
    obtain rfl : x1 = t.size := by simpa [eq_comm] using hx1
    have dA : ((A.length : Int) == (cn : Int) + 1) = true := by rw [unhide HAL]; simp
    have hcp2 : (0 : Int) < (cn : Int) := by omega
    clear hg' hx0 hx1
    go_wp2
    go_ret
    exact ⟨rfl, unhide HB7⟩
end Go.Proofs.YtbppbejigedioaaGreatDoor
