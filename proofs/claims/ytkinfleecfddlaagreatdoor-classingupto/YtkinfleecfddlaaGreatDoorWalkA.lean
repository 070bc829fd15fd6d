/- Walks: the reference's small functions. -/
import Derived.Test.YtkinfleecfddlaaGreatDoorRows
import Derived.Test.YtkinfleecfddlaaGreatDoorPlainA
import Derived.WalkKit
import Derived.WalkSpells
import Derived.WalkLawsBesides
import Derived.Deep.Light
namespace Go.Proofs.YtkinfleecfddlaaGreatDoor
open Go.RowKit

theorem hide {p : Prop} (h : p) : Hid p := h
theorem unhide {p : Prop} (h : Hid p) : p := h
theorem len_toList (s : ByteArray) : s.data.toList.length = s.size := Array.length_toList
theorem ret_bool {a b : Bool} (h : a = b) : Ending.returned (.bool a) = .returned (.bool b) := by rw [h]
theorem ret_int {k : IntKind} {a b : Int} (h : a = b) : Ending.returned (.int k a) = .returned (.int k b) := by rw [h]
theorem ret_3int {k : IntKind} {a b c a' b' c' : Int} (h : a = a' ∧ b = b' ∧ c = c') : Ending.returned (.tuple #[.int k a, .int k b, .int k c]) = .returned (.tuple #[.int k a', .int k b', .int k c']) := by rw [h.1, h.2.1, h.2.2]
theorem ret_2int {k : IntKind} {a b a' b' : Int} (h : a = a' ∧ b = b') : Ending.returned (.tuple #[.int k a, .int k b]) = .returned (.tuple #[.int k a', .int k b']) := by rw [h.1, h.2]

set_option maxHeartbeats 400000 in
theorem isName_any (c : Int) (w : World) (h0 : 0 ≤ c) (h1 : c ≤ 255) :
    Calls Tryz.prog 40 #[.int .u8 c] w fun e w' => e = .returned (.bool (decide (65 ≤ c ∧ c ≤ 90))) ∧ w' = w := by
  go_enter Tryz.func40, Tryz.ntmps40
  go_wp2
  all_goals go_ret
  all_goals exact ⟨ret_bool (by rw [Bool.eq_iff_iff]; simp; try omega), rfl⟩

set_option maxHeartbeats 400000 in
theorem isHow_any (c : Int) (w : World) (_h0 : 0 ≤ c) (_h1 : c ≤ 255) :
    Calls Tryz.prog 71 #[.int .u8 c] w fun e w' => e = .returned (.bool (decide (c = 42 ∨ c = 43 ∨ c = 63))) ∧ w' = w := by
  go_enter Tryz.func71, Tryz.ntmps71
  go_wp2
  all_goals go_ret
  all_goals exact ⟨ret_bool (by rw [Bool.eq_iff_iff]; simp_all; try omega), rfl⟩

set_option maxHeartbeats 400000 in
theorem barred_any (c : Int) (w : World) (_h0 : 0 ≤ c) (_h1 : c ≤ 255) :
    Calls Tryz.prog 105 #[.int .u8 c] w fun e w' => e = .returned (.bool (decide (c = 59 ∨ c = 61 ∨ c = 45 ∨ c = 33 ∨ c = 124))) ∧ w' = w := by
  go_enter Tryz.func105, Tryz.ntmps105
  go_wp2
  all_goals go_ret
  all_goals exact ⟨ret_bool (by rw [Bool.eq_iff_iff]; simp_all; try omega), rfl⟩

set_option maxHeartbeats 400000 in
theorem isSign_any (c : Int) (w : World) (h0 : 0 ≤ c) (h1 : c ≤ 255) :
    Calls Tryz.prog 70 #[.int .u8 c] w fun e w' => e = .returned (.bool (decide ((65 ≤ c ∧ c ≤ 90) ∨ c = 95 ∨ c = 46))) ∧ w' = w := by
  go_enter Tryz.func70, Tryz.ntmps70
  go_wp2_with (go_at_call 40; refine (isName_any _ _ h0 h1).mono ?_; rintro e w' ⟨rfl, rfl⟩)
  all_goals go_ret
  all_goals exact ⟨ret_bool (by rw [Bool.eq_iff_iff]; simp_all; try omega), rfl⟩

set_option maxRecDepth 100000 in
set_option maxHeartbeats 400000 in
theorem needs_any (c : Nat) (w : World) (h1 : c ≤ 255) :
    Calls Tryz.prog 106 #[.int .i64 c] w fun e w' => e = .returned (.tuple #[.int .i64 (Cu.needs c).1, .int .i64 (Cu.needs c).2.1, .int .i64 (Cu.needs c).2.2]) ∧ w' = w := by
  go_enter Tryz.func106, Tryz.ntmps106
  go_wp2
  all_goals go_ret3
  all_goals (refine ⟨ret_3int ?_, rfl⟩; go_light; try simp only [beq_iff_eq, beq_eq_false_iff_ne, ne_eq] at *)
  all_goals (first | rw [Cu.needs_a (by omega)] | rw [Cu.needs_b (by omega)] | rw [Cu.needs_c (by omega)] | rw [Cu.needs_d (by omega)] | rw [Cu.needs_e (by omega)] | rw [Cu.needs_f (by omega)] | rw [Cu.needs_g (by omega)] | rw [Cu.needs_h (by omega)] | rw [Cu.needs_i (by omega)])
  all_goals exact ⟨rfl, rfl, rfl⟩

/-- A byte of a string, as the walk spells it and as the plain functions do. -/
theorem byt_eq (s : ByteArray) (i : Nat) (h : i < s.size) : s[i].toNat = Cu.byt s.data.toList i := by
  unfold Cu.byt
  have h' : i < s.data.toList.length := by simpa using h
  rw [List.getD_eq_getElem?_getD, List.getElem?_eq_getElem h']
  rfl
theorem byt_lt (s : List UInt8) (i : Nat) : Cu.byt s i < 256 := by
  unfold Cu.byt; exact UInt8.toNat_lt _

set_option maxRecDepth 100000 in
set_option maxHeartbeats 400000 in
theorem well_zero (s : ByteArray) (n : Nat) (w : World) (_hs : s.size ≤ 140737488355328) (hn : n < s.size) (hz : (Cu.needs (Cu.byt s.data.toList n)).1 = 0) :
    Calls Tryz.prog 76 #[.string s, .int .i64 n] w fun e w' => e = .returned (.tuple #[.int .i64 (Cu.well s.data.toList n).1, .int .i64 (Cu.well s.data.toList n).2]) ∧ w' = w := by
  have hb := byt_lt s.data.toList n
  have hbe := byt_eq s n hn
  have hw := hide (show Cu.well s.data.toList n = (0, 0) by unfold Cu.well; rw [if_pos hz])
  have hz2 : (((Cu.needs (Cu.byt s.data.toList n)).1 : Int) == 0) = true := by rw [hz]; rfl
  clear hz
  go_enter Tryz.func76, Tryz.ntmps76
  go_wp2_with (go_at_call 106; refine (needs_any _ _ (by omega)).mono ?_; rintro e w' ⟨rfl, rfl⟩)
  go_ret2
  exact ⟨ret_2int (by rw [unhide hw]; exact ⟨rfl, rfl⟩), rfl⟩

set_option maxRecDepth 100000 in
set_option maxHeartbeats 1000000 in
theorem well_some (s : ByteArray) (n : Nat) (w : World) (hs : s.size ≤ 140737488355328) (hn : n < s.size) (hz : (Cu.needs (Cu.byt s.data.toList n)).1 ≠ 0) :
    Calls Tryz.prog 76 #[.string s, .int .i64 n] w fun e w' => e = .returned (.tuple #[.int .i64 (Cu.well s.data.toList n).1, .int .i64 (Cu.well s.data.toList n).2]) ∧ w' = w := by
  have hb := byt_lt s.data.toList n
  have hbe := byt_eq s n hn
  have HW : Hid (Cu.well s.data.toList n = (Cu.wk s.data.toList n (Cu.needs (Cu.byt s.data.toList n)).1 4 (Cu.needs (Cu.byt s.data.toList n)).2.1 (Cu.needs (Cu.byt s.data.toList n)).2.2 1, (Cu.needs (Cu.byt s.data.toList n)).1)) := hide (by unfold Cu.well; rw [if_neg hz])
  have hle := Cu.needs_le (Cu.byt s.data.toList n)
  have hlen := hide (len_toList s)
  have hz2 : (((Cu.needs (Cu.byt s.data.toList n)).1 : Int) == 0) = false := by rw [beq_eq_false_iff_ne]; omega
  go_enter Tryz.func76, Tryz.ntmps76
  go_wp2_with (go_at_call 106; refine (needs_any _ _ (by omega)).mono ?_; rintro e w' ⟨rfl, rfl⟩)
  generalize Cu.needs (Cu.byt s.data.toList n) = nd at *
  obtain ⟨m, lo0, hi0⟩ := nd
  simp only at hle hz HW hz2
  go_loop [7, 8, 9] (fun a b c => ∃ k f lo hi : Nat, k ≤ m ∧ k + f = 5 ∧ lo ≤ 255 ∧ hi ≤ 255 ∧ a = .int .i64 lo ∧ b = .int .i64 hi ∧ c = .int .i64 k ∧ Cu.wk s.data.toList n m f lo hi k = Cu.wk s.data.toList n m 4 lo0 hi0 1) (fun _ _ c => 5 - (intOf c).toNat)
  case atStart => exact ⟨1, 4, lo0, hi0, by omega, rfl, hle.2.1, hle.2.2, rfl, rfl, rfl, rfl⟩
  case round =>
    obtain ⟨k, f, lo, hi, hk, hf, hlo, hhi, rfl, rfl, rfl, hwk⟩ := hrel
    have HK := hide hwk
    clear hwk
    by_cases hlt : k < m ∧ n + k < s.size
    · obtain ⟨h2, h3⟩ := hlt
      have hb2 := byt_lt s.data.toList (n + k)
      have hbe2 := byt_eq s (n + k) h3
      by_cases hin : lo ≤ Cu.byt s.data.toList (n + k) ∧ Cu.byt s.data.toList (n + k) ≤ hi
      · obtain ⟨h4, h5⟩ := hin
        go_wp2
        go_round
        case rel =>
          go_light
          obtain ⟨g, rfl⟩ : ∃ g, f = g + 1 := ⟨f - 1, by omega⟩
          refine ⟨k + 1, g, 0x80, 0xbf, by omega, by omega, by omega, by omega, rfl, rfl, by go_num, ?_⟩
          rw [← unhide HK, Cu.wk_go ⟨h2, by have := unhide hlen; omega, h4, h5⟩]
        case measure => simp [intOf]; omega
      · have hst := hide (Cu.wk_stop (s := s.data.toList) (i := n) (n := m) (f := f) (lo := lo) (hi := hi) (k := k) (by omega))
        by_cases h4 : Cu.byt s.data.toList (n + k) < lo
        all_goals
          go_wp2
          go_ret2
          exact ⟨ret_2int (by rw [unhide HW, ← unhide HK, unhide hst]; exact ⟨rfl, rfl⟩), rfl⟩
    · have hst := hide (Cu.wk_stop (s := s.data.toList) (i := n) (n := m) (f := f) (lo := lo) (hi := hi) (k := k) (by have := unhide hlen; omega))
      by_cases h4 : k < m
      all_goals
        have h5 : k < m → ¬ n + k < s.size := fun h => by omega
        try (have h6 := h5 h4)
        clear h5
        go_wp2
        go_ret2
        exact ⟨ret_2int (by rw [unhide HW, ← unhide HK, unhide hst]; exact ⟨rfl, rfl⟩), rfl⟩

theorem well_any (s : ByteArray) (i : Int) (w : World) (hs : s.size ≤ 140737488355328) (h0 : 0 ≤ i) (h1 : i < s.size) :
    Calls Tryz.prog 76 #[.string s, .int .i64 i] w fun e w' => e = .returned (.tuple #[.int .i64 (Cu.well s.data.toList i.toNat).1, .int .i64 (Cu.well s.data.toList i.toNat).2]) ∧ w' = w := by
  obtain ⟨n, rfl⟩ := Int.eq_ofNat_of_zero_le h0
  rw [Int.toNat_natCast]
  by_cases hz : (Cu.needs (Cu.byt s.data.toList n)).1 = 0
  · exact well_zero s n w hs (by omega) hz
  · exact well_some s n w hs (by omega) hz
end Go.Proofs.YtkinfleecfddlaaGreatDoor
