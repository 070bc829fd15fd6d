/- The laws' own small functions: chars, has. -/
import Derived.Test.YtbppbejigedioaaGreatDoorLawT
import Derived.Test.YtbppbejigedioaaGreatDoorClsP
namespace Go.Proofs.YtbppbejigedioaaGreatDoor
open Go.RowKit

theorem clsOut_none (t : List UInt8) : clsOut [] t = (clsB (Cu.readGo [] 12 0 []).2.2 (Cu.chars t), 0, 0) := by
  unfold clsOut
  rw [Cu.check_none, if_pos rfl]
set_option maxRecDepth 100000 in
set_option maxHeartbeats 400000 in
theorem lchars_any (t : ByteArray) (w W : World) (ht : t.size ≤ 1048576) (hT : Tabs w) (hw3 : 4 < w.heap.size) (hg : ErrT w) (hb : Below w.heap.size w W) :
    Calls Tryz.prog 25 #[.string t] W fun e w' => e = .returned (.int .i64 ((Cu.chars t.data.toList).length : Nat)) ∧ Below W.heap.size W w' := by
  have HP := hide (pclasses_any ⟨#[]⟩ t W (by decide) ht (tabs_low hT hb) (by have := hb.size; omega) (errT_low hg hw3 hb))
  have e0 : (ByteArray.mk #[]).data.toList = [] := rfl
  rw [e0, clsOut_none] at HP
  have hsz := clsB_size (Cu.readGo [] 12 0 []).2.2 (Cu.chars t.data.toList)
  clear hg hT hb e0
  generalize clsB (Cu.readGo [] 12 0 []).2.2 (Cu.chars t.data.toList) = q at HP hsz
  rw [← hsz]
  clear hsz
  go_enter Tryz.func25, Tryz.ntmps25
  go_wp2_with fail
  refine (unhide HP).mono ?_
  rintro e w1 ⟨rfl, hb1⟩
  have HB1 := hide hb1
  clear hb1
  go_wp2_with (go_at_call 17; refine (num_any _ _).mono ?_; rintro e w' ⟨rfl, rfl⟩)
  go_ret
  exact ⟨rfl, unhide HB1⟩

set_option maxRecDepth 100000 in
set_option maxHeartbeats 1000000 in
theorem has_any (l : List Nat) (a : Option Addr) (ca ba : Nat) (p : Nat) (w : World) (ha : w.ownsRow ba 3 1 (.slice a l.length ca) l.length (intCells l)) (hl : l.length ≤ 2097152) :
    Calls Tryz.prog 27 #[.slice a l.length ca, .int .i64 p] w fun e w' => e = .returned (.bool (l.contains p)) ∧ w' = w := by
  have HA := hide ha
  clear ha
  go_enter Tryz.func27, Tryz.ntmps27
  go_wp2
  go_loopw [5] (fun v wr => ∃ n : Nat, n ≤ l.length ∧ v = .int .i64 n ∧ wr = w ∧ (l.take n).contains p = false) (fun v _ => 2097154 - (intOf v).toNat)
  case atStart =>
    go_light
    exact ⟨0, Nat.zero_le _, rfl, rfl, by simp⟩
  case round =>
    obtain ⟨n, hn, rfl, rfl, htk⟩ := hrel
    have HTK := hide htk
    clear htk
    by_cases hlt : n < l.length
    · obtain ⟨g, x, rfl, hx, c0⟩ := int_cell (unhide HA) n hlt
      by_cases hxy : x = p
      · have hr : Hid (l.contains p = true) := hide (by rw [List.contains_iff_mem]; rw [← hxy]; exact List.mem_of_getElem? hx)
        have dxy : ((x : Int) == (p : Int)) = true := by rw [hxy]; simp
        clear hx hxy
        go_wp2
        go_ret
        exact ⟨by rw [unhide hr]; rfl, rfl⟩
      · have hr : Hid ((l.take (n + 1)).contains p = false) := hide (by
          rw [List.take_add_one, hx]
          have h1 := unhide HTK
          rw [Bool.eq_false_iff, ne_eq, List.contains_iff_mem] at h1 ⊢
          intro h2
          rcases List.mem_append.1 h2 with h3 | h3
          · exact h1 h3
          · simp at h3; exact hxy h3.symm)
        have dxy : ((x : Int) == (p : Int)) = false := by rw [beq_eq_false_iff_ne]; omega
        have hfin : Hid (∃ k : Nat, k ≤ l.length ∧ Value.int .i64 ((n : Int) + 1) = .int .i64 k ∧ True ∧ (l.take k).contains p = false) := hide ⟨n + 1, by omega, by go_num, trivial, unhide hr⟩
        clear hx hxy
        go_wp2
        go_roundw
        case rel => first | exact unhide hfin | ((repeat apply Exists.intro); exact ⟨unhide hfin, rfl⟩)
        case measure => simp [intOf]; omega
    · have hr : Hid (l.contains p = false) := hide (by
        have h := unhide HTK
        rw [List.take_of_length_le (by omega)] at h
        exact h)
      go_wp2
      go_ret
      exact ⟨by rw [unhide hr]; rfl, rfl⟩
end Go.Proofs.YtbppbejigedioaaGreatDoor
