/- Walks: the reference's small functions. -/
import Derived.Test.YtbppbejigedioabGreatDoorRows
import Derived.Test.YtbppbejigedioabGreatDoorPlainA
import Derived.WalkKit
import Derived.WalkSpells
import Derived.WalkLawsBesides
import Derived.Deep.Light
import Derived.BigQuiet
import Derived.Deep.QuietTactic
namespace Go.Proofs.YtbppbejigedioabGreatDoor
open Go.RowKit

theorem hide {p : Prop} (h : p) : Hid p := h
theorem unhide {p : Prop} (h : Hid p) : p := h
theorem len_toList (s : ByteArray) : s.data.toList.length = s.size := Array.length_toList
theorem ret_bool {a b : Bool} (h : a = b) : Ending.returned (.bool a) = .returned (.bool b) := by rw [h]
theorem ret_int {k : IntKind} {a b : Int} (h : a = b) : Ending.returned (.int k a) = .returned (.int k b) := by rw [h]
theorem ret_3int {k : IntKind} {a b c a' b' c' : Int} (h : a = a' ∧ b = b' ∧ c = c') : Ending.returned (.tuple #[.int k a, .int k b, .int k c]) = .returned (.tuple #[.int k a', .int k b', .int k c']) := by rw [h.1, h.2.1, h.2.2]
theorem ret_2int {k : IntKind} {a b a' b' : Int} (h : a = a' ∧ b = b') : Ending.returned (.tuple #[.int k a, .int k b]) = .returned (.tuple #[.int k a', .int k b']) := by rw [h.1, h.2]

set_option maxHeartbeats 400000 in
theorem isName_any (c : Int) (w : World) (h0 : 0 ≤ c) (h1 : c ≤ 255) :
    Calls Tryz.prog 70 #[.int .u8 c] w fun e w' => e = .returned (.bool (decide (65 ≤ c ∧ c ≤ 90))) ∧ w' = w := by
  go_enter Tryz.func70, Tryz.ntmps70
  go_wp2
  all_goals go_ret
  all_goals exact ⟨ret_bool (by rw [Bool.eq_iff_iff]; simp; try omega), rfl⟩

set_option maxHeartbeats 400000 in
theorem isHow_any (c : Int) (w : World) (_h0 : 0 ≤ c) (_h1 : c ≤ 255) :
    Calls Tryz.prog 108 #[.int .u8 c] w fun e w' => e = .returned (.bool (decide (c = 42 ∨ c = 43 ∨ c = 63))) ∧ w' = w := by
  go_enter Tryz.func108, Tryz.ntmps108
  go_wp2
  all_goals go_ret
  all_goals exact ⟨ret_bool (by rw [Bool.eq_iff_iff]; simp_all; try omega), rfl⟩

set_option maxHeartbeats 400000 in
theorem barred_any (c : Int) (w : World) (_h0 : 0 ≤ c) (_h1 : c ≤ 255) :
    Calls Tryz.prog 141 #[.int .u8 c] w fun e w' => e = .returned (.bool (decide (c = 59 ∨ c = 61 ∨ c = 45 ∨ c = 33 ∨ c = 124))) ∧ w' = w := by
  go_enter Tryz.func141, Tryz.ntmps141
  go_wp2
  all_goals go_ret
  all_goals exact ⟨ret_bool (by rw [Bool.eq_iff_iff]; simp_all; try omega), rfl⟩

set_option maxHeartbeats 400000 in
theorem isSign_any (c : Int) (w : World) (h0 : 0 ≤ c) (h1 : c ≤ 255) :
    Calls Tryz.prog 107 #[.int .u8 c] w fun e w' => e = .returned (.bool (decide ((65 ≤ c ∧ c ≤ 90) ∨ c = 95 ∨ c = 46))) ∧ w' = w := by
  go_enter Tryz.func107, Tryz.ntmps107
  go_wp2_with (go_at_call 70; refine (isName_any _ _ h0 h1).mono ?_; rintro e w' ⟨rfl, rfl⟩)
  all_goals go_ret
  all_goals exact ⟨ret_bool (by rw [Bool.eq_iff_iff]; simp_all; try omega), rfl⟩

set_option maxRecDepth 100000 in
set_option maxHeartbeats 400000 in
theorem needs_any (c : Nat) (w : World) (h1 : c ≤ 255) :
    Calls Tryz.prog 98 #[.int .i64 c] w fun e w' => e = .returned (.tuple #[.int .i64 (Cu.needs c).1, .int .i64 (Cu.needs c).2.1, .int .i64 (Cu.needs c).2.2]) ∧ w' = w := by
  go_enter Tryz.func98, Tryz.ntmps98
  go_wp2
  all_goals go_ret3
  all_goals (refine ⟨ret_3int ?_, rfl⟩; go_light; try simp only [beq_iff_eq, beq_eq_false_iff_ne, ne_eq] at *)
  all_goals (first | rw [Cu.needs_a (by omega)] | rw [Cu.needs_b (by omega)] | rw [Cu.needs_c (by omega)] | rw [Cu.needs_d (by omega)] | rw [Cu.needs_e (by omega)] | rw [Cu.needs_f (by omega)] | rw [Cu.needs_g (by omega)] | rw [Cu.needs_h (by omega)] | rw [Cu.needs_i (by omega)])
  all_goals exact ⟨rfl, rfl, rfl⟩

/-- A byte of a string, as the walk spells it and as the plain functions do. -/
theorem byt_eq (s : ByteArray) (i : Nat) (h : i < s.size) : s[i].toNat = Cu.byt s.data.toList i := by
  unfold Cu.byt
  have h' : i < s.data.toList.length := by simpa using h
  rw [List.getD_eq_getElem?_getD, List.getElem?_eq_getElem h']
  rfl
theorem byt_lt (s : List UInt8) (i : Nat) : Cu.byt s i < 256 := by
  unfold Cu.byt; exact UInt8.toNat_lt _

set_option maxRecDepth 100000 in
set_option maxHeartbeats 400000 in
theorem well_zero (s : ByteArray) (n : Nat) (w : World) (_hs : s.size ≤ 140737488355328) (hn : n < s.size) (hz : (Cu.needs (Cu.byt s.data.toList n)).1 = 0) :
    Calls Tryz.prog 59 #[.string s, .int .i64 n] w fun e w' => e = .returned (.tuple #[.int .i64 (Cu.well s.data.toList n).1, .int .i64 (Cu.well s.data.toList n).2]) ∧ w' = w := by
  have hb := byt_lt s.data.toList n
  have hbe := byt_eq s n hn
  have hw := hide (show Cu.well s.data.toList n = (0, 0) by unfold Cu.well; rw [if_pos hz])
  have hz2 : (((Cu.needs (Cu.byt s.data.toList n)).1 : Int) == 0) = true := by rw [hz]; rfl
  clear hz
  go_enter Tryz.func59, Tryz.ntmps59
  go_wp2_with (go_at_call 98; refine (needs_any _ _ (by omega)).mono ?_; rintro e w' ⟨rfl, rfl⟩)
  go_ret2
  exact ⟨ret_2int (by rw [unhide hw]; exact ⟨rfl, rfl⟩), rfl⟩

set_option maxRecDepth 100000 in
set_option maxHeartbeats 1000000 in
theorem well_some (s : ByteArray) (n : Nat) (w : World) (hs : s.size ≤ 140737488355328) (hn : n < s.size) (hz : (Cu.needs (Cu.byt s.data.toList n)).1 ≠ 0) :
    Calls Tryz.prog 59 #[.string s, .int .i64 n] w fun e w' => e = .returned (.tuple #[.int .i64 (Cu.well s.data.toList n).1, .int .i64 (Cu.well s.data.toList n).2]) ∧ w' = w := by
  have hb := byt_lt s.data.toList n
  have hbe := byt_eq s n hn
  have HW : Hid (Cu.well s.data.toList n = (Cu.wk s.data.toList n (Cu.needs (Cu.byt s.data.toList n)).1 4 (Cu.needs (Cu.byt s.data.toList n)).2.1 (Cu.needs (Cu.byt s.data.toList n)).2.2 1, (Cu.needs (Cu.byt s.data.toList n)).1)) := hide (by unfold Cu.well; rw [if_neg hz])
  have hle := Cu.needs_le (Cu.byt s.data.toList n)
  have hlen := hide (len_toList s)
  have hz2 : (((Cu.needs (Cu.byt s.data.toList n)).1 : Int) == 0) = false := by rw [beq_eq_false_iff_ne]; omega
  go_enter Tryz.func59, Tryz.ntmps59
  go_wp2_with (go_at_call 98; refine (needs_any _ _ (by omega)).mono ?_; rintro e w' ⟨rfl, rfl⟩)
  generalize Cu.needs (Cu.byt s.data.toList n) = nd at *
  obtain ⟨m, lo0, hi0⟩ := nd
  simp only at hle hz HW hz2
  go_loop [7, 8, 9] (fun a b c => ∃ k f lo hi : Nat, k ≤ m ∧ k + f = 5 ∧ lo ≤ 255 ∧ hi ≤ 255 ∧ a = .int .i64 lo ∧ b = .int .i64 hi ∧ c = .int .i64 k ∧ Cu.wk s.data.toList n m f lo hi k = Cu.wk s.data.toList n m 4 lo0 hi0 1) (fun _ _ c => 5 - (intOf c).toNat)
  case atStart => exact ⟨1, 4, lo0, hi0, by omega, rfl, hle.2.1, hle.2.2, rfl, rfl, rfl, rfl⟩
  case round =>
    obtain ⟨k, f, lo, hi, hk, hf, hlo, hhi, rfl, rfl, rfl, hwk⟩ := hrel
    have HK := hide hwk
    clear hwk
    by_cases hlt : k < m ∧ n + k < s.size
    · obtain ⟨h2, h3⟩ := hlt
      have hb2 := byt_lt s.data.toList (n + k)
      have hbe2 := byt_eq s (n + k) h3
      by_cases hin : lo ≤ Cu.byt s.data.toList (n + k) ∧ Cu.byt s.data.toList (n + k) ≤ hi
      · obtain ⟨h4, h5⟩ := hin
        go_wp2
        go_round
        case rel =>
          go_light
          obtain ⟨g, rfl⟩ : ∃ g, f = g + 1 := ⟨f - 1, by omega⟩
          refine ⟨k + 1, g, 0x80, 0xbf, by omega, by omega, by omega, by omega, rfl, rfl, by go_num, ?_⟩
          rw [← unhide HK, Cu.wk_go ⟨h2, by have := unhide hlen; omega, h4, h5⟩]
        case measure => simp [intOf]; omega
      · have hst := hide (Cu.wk_stop (s := s.data.toList) (i := n) (n := m) (f := f) (lo := lo) (hi := hi) (k := k) (by omega))
        by_cases h4 : Cu.byt s.data.toList (n + k) < lo
        all_goals
          go_wp2
          go_ret2
          exact ⟨ret_2int (by rw [unhide HW, ← unhide HK, unhide hst]; exact ⟨rfl, rfl⟩), rfl⟩
    · have hst := hide (Cu.wk_stop (s := s.data.toList) (i := n) (n := m) (f := f) (lo := lo) (hi := hi) (k := k) (by have := unhide hlen; omega))
      by_cases h4 : k < m
      all_goals
        have h5 : k < m → ¬ n + k < s.size := fun h => by omega
        try (have h6 := h5 h4)
        clear h5
        go_wp2
        go_ret2
        exact ⟨ret_2int (by rw [unhide HW, ← unhide HK, unhide hst]; exact ⟨rfl, rfl⟩), rfl⟩

theorem well_any (s : ByteArray) (i : Int) (w : World) (hs : s.size ≤ 140737488355328) (h0 : 0 ≤ i) (h1 : i < s.size) :
    Calls Tryz.prog 59 #[.string s, .int .i64 i] w fun e w' => e = .returned (.tuple #[.int .i64 (Cu.well s.data.toList i.toNat).1, .int .i64 (Cu.well s.data.toList i.toNat).2]) ∧ w' = w := by
  obtain ⟨n, rfl⟩ := Int.eq_ofNat_of_zero_le h0
  rw [Int.toNat_natCast]
  by_cases hz : (Cu.needs (Cu.byt s.data.toList n)).1 = 0
  · exact well_zero s n w hs (by omega) hz
  · exact well_some s n w hs (by omega) hz
end Go.Proofs.YtbppbejigedioabGreatDoor
/- Walks: the reference's code points and items. -/
namespace Go.Proofs.YtbppbejigedioabGreatDoor
open Go.RowKit

set_option maxRecDepth 100000 in
set_option maxHeartbeats 400000 in
theorem code_one (s : ByteArray) (i : Nat) (w : World) (_hs : s.size ≤ 140737488355328) (hi : i < s.size) :
    Calls Tryz.prog 99 #[.string s, .int .i64 i, .int .i64 1] w fun e w' => e = .returned (.int .i64 (Cu.code s.data.toList i 1)) ∧ ∃ q, w' = w.drewN q := by
  have hb := byt_lt s.data.toList i
  have hbe := byt_eq s i hi
  go_enter Tryz.func99, Tryz.ntmps99
  go_wp2
  go_ret
  exact ⟨rfl, 0, rfl⟩

set_option maxRecDepth 100000 in
set_option maxHeartbeats 1000000 in
theorem code_2 (s : ByteArray) (i : Nat) (w : World) (hs : s.size ≤ 140737488355328) (hi : i + 2 ≤ s.size) :
    Calls Tryz.prog 99 #[.string s, .int .i64 i, .int .i64 2] w fun e w' => e = .returned (.int .i64 (Cu.code s.data.toList i 2)) ∧ ∃ q, w' = w.drewN q := by
  have hb := byt_lt s.data.toList i
  have hi0 : i < s.size := by omega
  have hbe := byt_eq s i hi0
  have HC : Hid (Cu.code s.data.toList i 2 = Cu.codeTo s.data.toList i 2 1) := hide (by unfold Cu.code; rw [if_neg (by omega)])
  have HB : Hid (∀ k, k ≤ 3 → Cu.codeTo s.data.toList i 2 k < 16777216) := hide (fun k hk => by
    have h := Cu.codeTo_lt s.data.toList i 2 k (by omega)
    have h2 : 64 ^ (k + 1) ≤ 64 ^ 4 := Nat.pow_le_pow_right (by omega) (by omega)
    omega)
  have H0 : Hid (Cu.codeTo s.data.toList i 2 0 = Cu.byt s.data.toList i % 2 ^ (7 - 2)) := hide rfl
  go_enter Tryz.func99, Tryz.ntmps99
  go_wp2
  go_quiet (fail)
  go_wp2
  go_loop [7, 8] (fun a b => ∃ k : Nat, k ≤ 3 ∧ k + 1 ≤ 2 ∧ b = .int .i64 ((k + 1 : Nat) : Int) ∧ a = .int .i64 (Cu.codeTo s.data.toList i 2 k)) (fun _ b => 5 - (intOf b).toNat)
  case atStart => exact ⟨0, by omega, by omega, rfl, congrArg (Value.int .i64) (by rw [unhide H0]; omega)⟩
  case round =>
    obtain ⟨k, hk, hk2, rfl, rfl⟩ := hrel
    have hbd := unhide HB k hk
    have HS : Hid (Cu.codeTo s.data.toList i 2 (k + 1) = 64 * Cu.codeTo s.data.toList i 2 k + Cu.byt s.data.toList (i + (k + 1)) % 64) := hide rfl
    generalize hv : Cu.codeTo s.data.toList i 2 k = v at *
    have Hv := hide hv
    clear hv
    by_cases hlt : k + 1 < 2
    · have hb2 := byt_lt s.data.toList (i + (k + 1))
      have hi2 : i + (k + 1) < s.size := by omega
      have hbe2 := byt_eq s (i + (k + 1)) hi2
      go_wp2
      go_round
      case rel =>
        go_light
        exact ⟨k + 1, by omega, by omega, by go_num, congrArg (Value.int .i64) (by rw [unhide HS]; omega)⟩
      case measure => simp [intOf]; omega
    · go_wp2
      go_ret
      exact ⟨ret_int (by rw [unhide HC, ← unhide Hv, show k = 1 by omega]), nq, rfl⟩

set_option maxRecDepth 100000 in
set_option maxHeartbeats 1000000 in
theorem code_3 (s : ByteArray) (i : Nat) (w : World) (hs : s.size ≤ 140737488355328) (hi : i + 3 ≤ s.size) :
    Calls Tryz.prog 99 #[.string s, .int .i64 i, .int .i64 3] w fun e w' => e = .returned (.int .i64 (Cu.code s.data.toList i 3)) ∧ ∃ q, w' = w.drewN q := by
  have hb := byt_lt s.data.toList i
  have hi0 : i < s.size := by omega
  have hbe := byt_eq s i hi0
  have HC : Hid (Cu.code s.data.toList i 3 = Cu.codeTo s.data.toList i 3 2) := hide (by unfold Cu.code; rw [if_neg (by omega)])
  have HB : Hid (∀ k, k ≤ 3 → Cu.codeTo s.data.toList i 3 k < 16777216) := hide (fun k hk => by
    have h := Cu.codeTo_lt s.data.toList i 3 k (by omega)
    have h2 : 64 ^ (k + 1) ≤ 64 ^ 4 := Nat.pow_le_pow_right (by omega) (by omega)
    omega)
  have H0 : Hid (Cu.codeTo s.data.toList i 3 0 = Cu.byt s.data.toList i % 2 ^ (7 - 3)) := hide rfl
  go_enter Tryz.func99, Tryz.ntmps99
  go_wp2
  go_quiet (fail)
  go_wp2
  go_loop [7, 8] (fun a b => ∃ k : Nat, k ≤ 3 ∧ k + 1 ≤ 3 ∧ b = .int .i64 ((k + 1 : Nat) : Int) ∧ a = .int .i64 (Cu.codeTo s.data.toList i 3 k)) (fun _ b => 5 - (intOf b).toNat)
  case atStart => exact ⟨0, by omega, by omega, rfl, congrArg (Value.int .i64) (by rw [unhide H0]; omega)⟩
  case round =>
    obtain ⟨k, hk, hk2, rfl, rfl⟩ := hrel
    have hbd := unhide HB k hk
    have HS : Hid (Cu.codeTo s.data.toList i 3 (k + 1) = 64 * Cu.codeTo s.data.toList i 3 k + Cu.byt s.data.toList (i + (k + 1)) % 64) := hide rfl
    generalize hv : Cu.codeTo s.data.toList i 3 k = v at *
    have Hv := hide hv
    clear hv
    by_cases hlt : k + 1 < 3
    · have hb2 := byt_lt s.data.toList (i + (k + 1))
      have hi2 : i + (k + 1) < s.size := by omega
      have hbe2 := byt_eq s (i + (k + 1)) hi2
      go_wp2
      go_round
      case rel =>
        go_light
        exact ⟨k + 1, by omega, by omega, by go_num, congrArg (Value.int .i64) (by rw [unhide HS]; omega)⟩
      case measure => simp [intOf]; omega
    · go_wp2
      go_ret
      exact ⟨ret_int (by rw [unhide HC, ← unhide Hv, show k = 2 by omega]), nq, rfl⟩

set_option maxRecDepth 100000 in
set_option maxHeartbeats 1000000 in
theorem code_4 (s : ByteArray) (i : Nat) (w : World) (hs : s.size ≤ 140737488355328) (hi : i + 4 ≤ s.size) :
    Calls Tryz.prog 99 #[.string s, .int .i64 i, .int .i64 4] w fun e w' => e = .returned (.int .i64 (Cu.code s.data.toList i 4)) ∧ ∃ q, w' = w.drewN q := by
  have hb := byt_lt s.data.toList i
  have hi0 : i < s.size := by omega
  have hbe := byt_eq s i hi0
  have HC : Hid (Cu.code s.data.toList i 4 = Cu.codeTo s.data.toList i 4 3) := hide (by unfold Cu.code; rw [if_neg (by omega)])
  have HB : Hid (∀ k, k ≤ 3 → Cu.codeTo s.data.toList i 4 k < 16777216) := hide (fun k hk => by
    have h := Cu.codeTo_lt s.data.toList i 4 k (by omega)
    have h2 : 64 ^ (k + 1) ≤ 64 ^ 4 := Nat.pow_le_pow_right (by omega) (by omega)
    omega)
  have H0 : Hid (Cu.codeTo s.data.toList i 4 0 = Cu.byt s.data.toList i % 2 ^ (7 - 4)) := hide rfl
  go_enter Tryz.func99, Tryz.ntmps99
  go_wp2
  go_quiet (fail)
  go_wp2
  go_loop [7, 8] (fun a b => ∃ k : Nat, k ≤ 3 ∧ k + 1 ≤ 4 ∧ b = .int .i64 ((k + 1 : Nat) : Int) ∧ a = .int .i64 (Cu.codeTo s.data.toList i 4 k)) (fun _ b => 5 - (intOf b).toNat)
  case atStart => exact ⟨0, by omega, by omega, rfl, congrArg (Value.int .i64) (by rw [unhide H0]; omega)⟩
  case round =>
    obtain ⟨k, hk, hk2, rfl, rfl⟩ := hrel
    have hbd := unhide HB k hk
    have HS : Hid (Cu.codeTo s.data.toList i 4 (k + 1) = 64 * Cu.codeTo s.data.toList i 4 k + Cu.byt s.data.toList (i + (k + 1)) % 64) := hide rfl
    generalize hv : Cu.codeTo s.data.toList i 4 k = v at *
    have Hv := hide hv
    clear hv
    by_cases hlt : k + 1 < 4
    · have hb2 := byt_lt s.data.toList (i + (k + 1))
      have hi2 : i + (k + 1) < s.size := by omega
      have hbe2 := byt_eq s (i + (k + 1)) hi2
      go_wp2
      go_round
      case rel =>
        go_light
        exact ⟨k + 1, by omega, by omega, by go_num, congrArg (Value.int .i64) (by rw [unhide HS]; omega)⟩
      case measure => simp [intOf]; omega
    · go_wp2
      go_ret
      exact ⟨ret_int (by rw [unhide HC, ← unhide Hv, show k = 3 by omega]), nq, rfl⟩

theorem code_any (s : ByteArray) (i n : Int) (w : World) (hs : s.size ≤ 140737488355328) (h0 : 0 ≤ i) (h1 : 1 ≤ n) (h2 : n ≤ 4) (hi : i + n ≤ s.size) :
    Calls Tryz.prog 99 #[.string s, .int .i64 i, .int .i64 n] w fun e w' => e = .returned (.int .i64 (Cu.code s.data.toList i.toNat n.toNat)) ∧ ∃ q, w' = w.drewN q := by
  obtain ⟨i, rfl⟩ := Int.eq_ofNat_of_zero_le h0
  rw [Int.toNat_natCast]
  have hn : n = 1 ∨ n = 2 ∨ n = 3 ∨ n = 4 := by omega
  rcases hn with rfl | rfl | rfl | rfl
  · exact code_one s i w hs (by omega)
  · exact code_2 s i w hs (by omega)
  · exact code_3 s i w hs (by omega)
  · exact code_4 s i w hs (by omega)

theorem barred_nat (c : Nat) (w : World) (h : c < 256) :
    Calls Tryz.prog 141 #[.int .u8 c] w fun e w' => e = .returned (.bool (Cu.barred c)) ∧ w' = w := by
  refine (barred_any c w (by omega) (by omega)).mono ?_
  rintro e w' ⟨rfl, rfl⟩
  exact ⟨ret_bool (by unfold Cu.barred; rw [Bool.eq_iff_iff]; simp only [decide_eq_true_eq]; omega), rfl⟩
theorem isName_nat (c : Nat) (w : World) (h : c < 256) :
    Calls Tryz.prog 70 #[.int .u8 c] w fun e w' => e = .returned (.bool (Cu.isName c)) ∧ w = w' := by
  refine (isName_any c w (by omega) (by omega)).mono ?_
  rintro e w' ⟨rfl, rfl⟩
  exact ⟨ret_bool (by unfold Cu.isName; rw [Bool.eq_iff_iff]; simp only [decide_eq_true_eq]; omega), rfl⟩
theorem isSign_nat (c : Nat) (w : World) (h : c < 256) :
    Calls Tryz.prog 107 #[.int .u8 c] w fun e w' => e = .returned (.bool (Cu.isSign c)) ∧ w = w' := by
  refine (isSign_any c w (by omega) (by omega)).mono ?_
  rintro e w' ⟨rfl, rfl⟩
  exact ⟨ret_bool (by unfold Cu.isSign; rw [Bool.eq_iff_iff]; simp only [decide_eq_true_eq]; omega), rfl⟩
theorem isHow_nat (c : Nat) (w : World) (h : c < 256) :
    Calls Tryz.prog 108 #[.int .u8 c] w fun e w' => e = .returned (.bool (Cu.isHow c)) ∧ w = w' := by
  refine (isHow_any c w (by omega) (by omega)).mono ?_
  rintro e w' ⟨rfl, rfl⟩
  exact ⟨ret_bool (by unfold Cu.isHow; rw [Bool.eq_iff_iff]; simp only [decide_eq_true_eq]; omega), rfl⟩

end Go.Proofs.YtbppbejigedioabGreatDoor
/- Walks: the reference's itemChar. -/
namespace Go.Proofs.YtbppbejigedioabGreatDoor
open Go.RowKit

/-- What itemChar hands back. -/
def itemRes (s : List UInt8) (i : Nat) : Value := .tuple #[.agg #[.int .i64 (Cu.itemAt s i), .int .i64 (Cu.itemN s i), .int .i64 (Cu.itemCode s i)], .int .i64 (Cu.itemEnd s i), .bool (Cu.itemOk s i)]

theorem itemRes_no {s : List UInt8} {i j : Nat} (h : Cu.itemOk s i = false) (h2 : Cu.itemEnd s i = j) : itemRes s i = .tuple #[.agg #[.int .i64 0, .int .i64 0, .int .i64 0], .int .i64 j, .bool false] := by
  unfold itemRes Cu.itemAt Cu.itemN Cu.itemCode; rw [h, h2]; simp
theorem itemRes_yes {s : List UInt8} {i : Nat} (h : Cu.itemOk s i = true) (h2 : Cu.itemEnd s i = i + (Cu.well s i).2) : itemRes s i = .tuple #[.agg #[.int .i64 i, .int .i64 (Cu.well s i).2, .int .i64 (Cu.code s i (Cu.well s i).2)], .int .i64 (i + (Cu.well s i).2 : Nat), .bool true] := by
  unfold itemRes Cu.itemAt Cu.itemN Cu.itemCode; rw [h, h2]; simp

set_option maxRecDepth 100000 in
set_option maxHeartbeats 400000 in
theorem itemChar_end (s : ByteArray) (i : Nat) (w : World) (_hs : s.size ≤ 140737488355328) (h1 : i = s.size) :
    Calls Tryz.prog 106 #[.string s, .int .i64 i] w fun e w' => e = .returned (itemRes s.data.toList i) ∧ Below w.heap.size w w' := by
  have hlt : ¬ i < s.size := by omega
  have hr := hide (itemRes_no (s := s.data.toList) (i := i) (j := i) (by unfold Cu.itemOk; simp [hlt]) (by unfold Cu.itemEnd; rw [if_neg (by rw [len_toList]; omega)]))
  go_enter Tryz.func106, Tryz.ntmps106
  go_wp2
  refine bodyPost_ret (v := .tuple #[.agg #[.int .i64 0, .int .i64 0, .int .i64 0], .int .i64 i, .bool false]) (by simp [results, Tryz.results106, go_sem]) rfl ⟨by rw [unhide hr], (Below.refl _ _).alloc (Nat.le_refl _) _⟩

set_option maxRecDepth 100000 in
set_option maxHeartbeats 400000 in
theorem itemChar_bar (s : ByteArray) (i : Nat) (w : World) (_hs : s.size ≤ 140737488355328) (h1 : i < s.size) (hbar : Cu.barred (Cu.byt s.data.toList i) = true) :
    Calls Tryz.prog 106 #[.string s, .int .i64 i] w fun e w' => e = .returned (itemRes s.data.toList i) ∧ Below w.heap.size w w' := by
  have hb := byt_lt s.data.toList i
  have hbe := byt_eq s i h1
  have hr := hide (itemRes_no (s := s.data.toList) (i := i) (j := i) (by unfold Cu.itemOk; simp [hbar]) (by unfold Cu.itemEnd; rw [if_neg (by rw [hbar]; simp)]))
  go_enter Tryz.func106, Tryz.ntmps106
  go_wp2_with (go_at_call 141; refine (barred_nat _ _ hb).mono ?_; rintro e w' ⟨rfl, rfl⟩)
  refine bodyPost_ret (v := .tuple #[.agg #[.int .i64 0, .int .i64 0, .int .i64 0], .int .i64 i, .bool false]) (by simp [results, Tryz.results106, go_sem]) rfl ⟨by rw [unhide hr], (Below.refl _ _).alloc (Nat.le_refl _) _⟩

set_option maxRecDepth 100000 in
set_option maxHeartbeats 400000 in
theorem itemChar_bad (s : ByteArray) (i : Nat) (w : World) (hs : s.size ≤ 140737488355328) (h1 : i < s.size) (hbar : Cu.barred (Cu.byt s.data.toList i) = false) (hw : (Cu.well s.data.toList i).2 = 0 ∨ (Cu.well s.data.toList i).1 < (Cu.well s.data.toList i).2) :
    Calls Tryz.prog 106 #[.string s, .int .i64 i] w fun e w' => e = .returned (itemRes s.data.toList i) ∧ Below w.heap.size w w' := by
  have hb := byt_lt s.data.toList i
  have hbe := byt_eq s i h1
  have hwl := Cu.well_le s.data.toList i
  have hr := hide (itemRes_no (s := s.data.toList) (i := i) (j := i + (Cu.well s.data.toList i).1) (by unfold Cu.itemOk; simp only [Bool.and_eq_false_iff, decide_eq_false_iff_not]; omega) (by unfold Cu.itemEnd; rw [if_pos ⟨by rw [len_toList]; omega, hbar⟩]))
  by_cases hz : (Cu.well s.data.toList i).2 = 0
  · have hz2 : (((Cu.well s.data.toList i).2 : Int) == 0) = true := by rw [hz]; rfl
    clear hz
    go_enter Tryz.func106, Tryz.ntmps106
    go_wp2_with (first | (go_at_call 141; refine (barred_nat _ _ hb).mono ?_; rintro e w' ⟨rfl, rfl⟩) | (go_at_call 59; refine (well_any s _ _ hs (by omega) (by omega)).mono ?_; rintro e w' ⟨rfl, rfl⟩; rw [Int.toNat_natCast]))
    refine bodyPost_ret (v := .tuple #[.agg #[.int .i64 0, .int .i64 0, .int .i64 0], .int .i64 (i + (Cu.well s.data.toList i).1 : Nat), .bool false]) (by simp [results, Tryz.results106, go_sem]) rfl ⟨by rw [unhide hr], (Below.refl _ _).alloc (Nat.le_refl _) _⟩
  · have hz2 : (((Cu.well s.data.toList i).2 : Int) == 0) = false := by rw [beq_eq_false_iff_ne]; omega
    have hz3 : (Cu.well s.data.toList i).1 < (Cu.well s.data.toList i).2 := by omega
    clear hz
    go_enter Tryz.func106, Tryz.ntmps106
    go_wp2_with (first | (go_at_call 141; refine (barred_nat _ _ hb).mono ?_; rintro e w' ⟨rfl, rfl⟩) | (go_at_call 59; refine (well_any s _ _ hs (by omega) (by omega)).mono ?_; rintro e w' ⟨rfl, rfl⟩; rw [Int.toNat_natCast]))
    refine bodyPost_ret (v := .tuple #[.agg #[.int .i64 0, .int .i64 0, .int .i64 0], .int .i64 (i + (Cu.well s.data.toList i).1 : Nat), .bool false]) (by simp [results, Tryz.results106, go_sem]) rfl ⟨by rw [unhide hr], (Below.refl _ _).alloc (Nat.le_refl _) _⟩

set_option maxRecDepth 100000 in
set_option maxHeartbeats 400000 in
theorem itemChar_good (s : ByteArray) (i : Nat) (w : World) (hs : s.size ≤ 140737488355328) (h1 : i < s.size) (hbar : Cu.barred (Cu.byt s.data.toList i) = false) (hz : (Cu.well s.data.toList i).2 ≠ 0) (hw : (Cu.well s.data.toList i).1 = (Cu.well s.data.toList i).2) :
    Calls Tryz.prog 106 #[.string s, .int .i64 i] w fun e w' => e = .returned (itemRes s.data.toList i) ∧ Below w.heap.size w w' := by
  have hb := byt_lt s.data.toList i
  have hbe := byt_eq s i h1
  have hwl := Cu.well_le s.data.toList i
  have hin : i + (Cu.well s.data.toList i).2 ≤ s.size := by have := Cu.well_in s.data.toList i (by rw [len_toList]; omega); rw [len_toList] at this; omega
  have hr := hide (itemRes_yes (s := s.data.toList) (i := i) (by unfold Cu.itemOk; simp only [Bool.and_eq_true, decide_eq_true_eq, hbar, len_toList]; refine ⟨⟨⟨h1, rfl⟩, hz⟩, by omega⟩) (by unfold Cu.itemEnd; rw [if_pos ⟨by rw [len_toList]; omega, hbar⟩, hw]))
  have hz2 : (((Cu.well s.data.toList i).2 : Int) == 0) = false := by rw [beq_eq_false_iff_ne]; omega
  have hw2 : ¬ (Cu.well s.data.toList i).1 < (Cu.well s.data.toList i).2 := by omega
  clear hw
  go_enter Tryz.func106, Tryz.ntmps106
  go_wp2_with (first | (go_at_call 141; refine (barred_nat _ _ hb).mono ?_; rintro e w' ⟨rfl, rfl⟩) | (go_at_call 59; refine (well_any s _ _ hs (by omega) (by omega)).mono ?_; rintro e w' ⟨rfl, rfl⟩; rw [Int.toNat_natCast]))
  refine (code_any s _ _ _ hs (by omega) (by omega) (by omega) (by omega)).mono ?_
  rintro e w' ⟨rfl, nq, rfl⟩
  rw [Int.toNat_natCast, Int.toNat_natCast]
  go_wp2
  refine bodyPost_ret (v := .tuple #[.agg #[.int .i64 i, .int .i64 (Cu.well s.data.toList i).2, .int .i64 (Cu.code s.data.toList i (Cu.well s.data.toList i).2)], .int .i64 (i + (Cu.well s.data.toList i).2 : Nat), .bool true]) (by simp [results, Tryz.results106, go_sem]) rfl ⟨by rw [unhide hr], ?_⟩
  go_light
  exact (((below_drewN ((Below.refl _ _).alloc (Nat.le_refl _) _) nq).setCell (by simp) _).setCell (by simp) _).setCell (by simp) _

theorem itemChar_any (s : ByteArray) (i : Int) (w : World) (hs : s.size ≤ 140737488355328) (h0 : 0 ≤ i) (h1 : i ≤ s.size) :
    Calls Tryz.prog 106 #[.string s, .int .i64 i] w fun e w' => e = .returned (itemRes s.data.toList i.toNat) ∧ Below w.heap.size w w' := by
  obtain ⟨i, rfl⟩ := Int.eq_ofNat_of_zero_le h0
  rw [Int.toNat_natCast]
  by_cases h2 : i = s.size
  · exact itemChar_end s i w hs h2
  · cases hb : Cu.barred (Cu.byt s.data.toList i) with
    | true => exact itemChar_bar s i w hs (by omega) hb
    | false =>
      have hwl := Cu.well_le s.data.toList i
      by_cases hw : (Cu.well s.data.toList i).2 = 0 ∨ (Cu.well s.data.toList i).1 < (Cu.well s.data.toList i).2
      · exact itemChar_bad s i w hs (by omega) hb hw
      · exact itemChar_good s i w hs (by omega) hb (by omega) (by omega)
end Go.Proofs.YtbppbejigedioabGreatDoor
