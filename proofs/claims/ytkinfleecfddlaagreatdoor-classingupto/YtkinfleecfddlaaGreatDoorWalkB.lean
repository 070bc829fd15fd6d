/- Walks: the reference's code points and items. -/
import Derived.Test.YtkinfleecfddlaaGreatDoorWalkA
import Derived.BigQuiet
import Derived.Deep.QuietTactic
namespace Go.Proofs.YtkinfleecfddlaaGreatDoor
open Go.RowKit

set_option maxRecDepth 100000 in
set_option maxHeartbeats 400000 in
theorem code_one (s : ByteArray) (i : Nat) (w : World) (_hs : s.size ≤ 140737488355328) (hi : i < s.size) :
    Calls Tryz.prog 77 #[.string s, .int .i64 i, .int .i64 1] w fun e w' => e = .returned (.int .i64 (Cu.code s.data.toList i 1)) ∧ ∃ q, w' = w.drewN q := by
  have hb := byt_lt s.data.toList i
  have hbe := byt_eq s i hi
  go_enter Tryz.func77, Tryz.ntmps77
  go_wp2
  go_ret
  exact ⟨rfl, 0, rfl⟩

set_option maxRecDepth 100000 in
set_option maxHeartbeats 1000000 in
theorem code_2 (s : ByteArray) (i : Nat) (w : World) (hs : s.size ≤ 140737488355328) (hi : i + 2 ≤ s.size) :
    Calls Tryz.prog 77 #[.string s, .int .i64 i, .int .i64 2] w fun e w' => e = .returned (.int .i64 (Cu.code s.data.toList i 2)) ∧ ∃ q, w' = w.drewN q := by
  have hb := byt_lt s.data.toList i
  have hi0 : i < s.size := by omega
  have hbe := byt_eq s i hi0
  have HC : Hid (Cu.code s.data.toList i 2 = Cu.codeTo s.data.toList i 2 1) := hide (by unfold Cu.code; rw [if_neg (by omega)])
  have HB : Hid (∀ k, k ≤ 3 → Cu.codeTo s.data.toList i 2 k < 16777216) := hide (fun k hk => by
    have h := Cu.codeTo_lt s.data.toList i 2 k (by omega)
    have h2 : 64 ^ (k + 1) ≤ 64 ^ 4 := Nat.pow_le_pow_right (by omega) (by omega)
    omega)
  have H0 : Hid (Cu.codeTo s.data.toList i 2 0 = Cu.byt s.data.toList i % 2 ^ (7 - 2)) := hide rfl
  go_enter Tryz.func77, Tryz.ntmps77
  go_wp2
  go_quiet (fail)
  go_wp2
  go_loop [7, 8] (fun a b => ∃ k : Nat, k ≤ 3 ∧ k + 1 ≤ 2 ∧ b = .int .i64 ((k + 1 : Nat) : Int) ∧ a = .int .i64 (Cu.codeTo s.data.toList i 2 k)) (fun _ b => 5 - (intOf b).toNat)
  case atStart => exact ⟨0, by omega, by omega, rfl, congrArg (Value.int .i64) (by rw [unhide H0]; omega)⟩
  case round =>
    obtain ⟨k, hk, hk2, rfl, rfl⟩ := hrel
    have hbd := unhide HB k hk
    have HS : Hid (Cu.codeTo s.data.toList i 2 (k + 1) = 64 * Cu.codeTo s.data.toList i 2 k + Cu.byt s.data.toList (i + (k + 1)) % 64) := hide rfl
    generalize hv : Cu.codeTo s.data.toList i 2 k = v at *
    have Hv := hide hv
    clear hv
    by_cases hlt : k + 1 < 2
    · have hb2 := byt_lt s.data.toList (i + (k + 1))
      have hi2 : i + (k + 1) < s.size := by omega
      have hbe2 := byt_eq s (i + (k + 1)) hi2
      go_wp2
      go_round
      case rel =>
        go_light
        exact ⟨k + 1, by omega, by omega, by go_num, congrArg (Value.int .i64) (by rw [unhide HS]; omega)⟩
      case measure => simp [intOf]; omega
    · go_wp2
      go_ret
      exact ⟨ret_int (by rw [unhide HC, ← unhide Hv, show k = 1 by omega]), nq, rfl⟩

set_option maxRecDepth 100000 in
set_option maxHeartbeats 1000000 in
theorem code_3 (s : ByteArray) (i : Nat) (w : World) (hs : s.size ≤ 140737488355328) (hi : i + 3 ≤ s.size) :
    Calls Tryz.prog 77 #[.string s, .int .i64 i, .int .i64 3] w fun e w' => e = .returned (.int .i64 (Cu.code s.data.toList i 3)) ∧ ∃ q, w' = w.drewN q := by
  have hb := byt_lt s.data.toList i
  have hi0 : i < s.size := by omega
  have hbe := byt_eq s i hi0
  have HC : Hid (Cu.code s.data.toList i 3 = Cu.codeTo s.data.toList i 3 2) := hide (by unfold Cu.code; rw [if_neg (by omega)])
  have HB : Hid (∀ k, k ≤ 3 → Cu.codeTo s.data.toList i 3 k < 16777216) := hide (fun k hk => by
    have h := Cu.codeTo_lt s.data.toList i 3 k (by omega)
    have h2 : 64 ^ (k + 1) ≤ 64 ^ 4 := Nat.pow_le_pow_right (by omega) (by omega)
    omega)
  have H0 : Hid (Cu.codeTo s.data.toList i 3 0 = Cu.byt s.data.toList i % 2 ^ (7 - 3)) := hide rfl
  go_enter Tryz.func77, Tryz.ntmps77
  go_wp2
  go_quiet (fail)
  go_wp2
  go_loop [7, 8] (fun a b => ∃ k : Nat, k ≤ 3 ∧ k + 1 ≤ 3 ∧ b = .int .i64 ((k + 1 : Nat) : Int) ∧ a = .int .i64 (Cu.codeTo s.data.toList i 3 k)) (fun _ b => 5 - (intOf b).toNat)
  case atStart => exact ⟨0, by omega, by omega, rfl, congrArg (Value.int .i64) (by rw [unhide H0]; omega)⟩
  case round =>
    obtain ⟨k, hk, hk2, rfl, rfl⟩ := hrel
    have hbd := unhide HB k hk
    have HS : Hid (Cu.codeTo s.data.toList i 3 (k + 1) = 64 * Cu.codeTo s.data.toList i 3 k + Cu.byt s.data.toList (i + (k + 1)) % 64) := hide rfl
    generalize hv : Cu.codeTo s.data.toList i 3 k = v at *
    have Hv := hide hv
    clear hv
    by_cases hlt : k + 1 < 3
    · have hb2 := byt_lt s.data.toList (i + (k + 1))
      have hi2 : i + (k + 1) < s.size := by omega
      have hbe2 := byt_eq s (i + (k + 1)) hi2
      go_wp2
      go_round
      case rel =>
        go_light
        exact ⟨k + 1, by omega, by omega, by go_num, congrArg (Value.int .i64) (by rw [unhide HS]; omega)⟩
      case measure => simp [intOf]; omega
    · go_wp2
      go_ret
      exact ⟨ret_int (by rw [unhide HC, ← unhide Hv, show k = 2 by omega]), nq, rfl⟩

set_option maxRecDepth 100000 in
set_option maxHeartbeats 1000000 in
theorem code_4 (s : ByteArray) (i : Nat) (w : World) (hs : s.size ≤ 140737488355328) (hi : i + 4 ≤ s.size) :
    Calls Tryz.prog 77 #[.string s, .int .i64 i, .int .i64 4] w fun e w' => e = .returned (.int .i64 (Cu.code s.data.toList i 4)) ∧ ∃ q, w' = w.drewN q := by
  have hb := byt_lt s.data.toList i
  have hi0 : i < s.size := by omega
  have hbe := byt_eq s i hi0
  have HC : Hid (Cu.code s.data.toList i 4 = Cu.codeTo s.data.toList i 4 3) := hide (by unfold Cu.code; rw [if_neg (by omega)])
  have HB : Hid (∀ k, k ≤ 3 → Cu.codeTo s.data.toList i 4 k < 16777216) := hide (fun k hk => by
    have h := Cu.codeTo_lt s.data.toList i 4 k (by omega)
    have h2 : 64 ^ (k + 1) ≤ 64 ^ 4 := Nat.pow_le_pow_right (by omega) (by omega)
    omega)
  have H0 : Hid (Cu.codeTo s.data.toList i 4 0 = Cu.byt s.data.toList i % 2 ^ (7 - 4)) := hide rfl
  go_enter Tryz.func77, Tryz.ntmps77
  go_wp2
  go_quiet (fail)
  go_wp2
  go_loop [7, 8] (fun a b => ∃ k : Nat, k ≤ 3 ∧ k + 1 ≤ 4 ∧ b = .int .i64 ((k + 1 : Nat) : Int) ∧ a = .int .i64 (Cu.codeTo s.data.toList i 4 k)) (fun _ b => 5 - (intOf b).toNat)
  case atStart => exact ⟨0, by omega, by omega, rfl, congrArg (Value.int .i64) (by rw [unhide H0]; omega)⟩
  case round =>
    obtain ⟨k, hk, hk2, rfl, rfl⟩ := hrel
    have hbd := unhide HB k hk
    have HS : Hid (Cu.codeTo s.data.toList i 4 (k + 1) = 64 * Cu.codeTo s.data.toList i 4 k + Cu.byt s.data.toList (i + (k + 1)) % 64) := hide rfl
    generalize hv : Cu.codeTo s.data.toList i 4 k = v at *
    have Hv := hide hv
    clear hv
    by_cases hlt : k + 1 < 4
    · have hb2 := byt_lt s.data.toList (i + (k + 1))
      have hi2 : i + (k + 1) < s.size := by omega
      have hbe2 := byt_eq s (i + (k + 1)) hi2
      go_wp2
      go_round
      case rel =>
        go_light
        exact ⟨k + 1, by omega, by omega, by go_num, congrArg (Value.int .i64) (by rw [unhide HS]; omega)⟩
      case measure => simp [intOf]; omega
    · go_wp2
      go_ret
      exact ⟨ret_int (by rw [unhide HC, ← unhide Hv, show k = 3 by omega]), nq, rfl⟩

theorem code_any (s : ByteArray) (i n : Int) (w : World) (hs : s.size ≤ 140737488355328) (h0 : 0 ≤ i) (h1 : 1 ≤ n) (h2 : n ≤ 4) (hi : i + n ≤ s.size) :
    Calls Tryz.prog 77 #[.string s, .int .i64 i, .int .i64 n] w fun e w' => e = .returned (.int .i64 (Cu.code s.data.toList i.toNat n.toNat)) ∧ ∃ q, w' = w.drewN q := by
  obtain ⟨i, rfl⟩ := Int.eq_ofNat_of_zero_le h0
  rw [Int.toNat_natCast]
  have hn : n = 1 ∨ n = 2 ∨ n = 3 ∨ n = 4 := by omega
  rcases hn with rfl | rfl | rfl | rfl
  · exact code_one s i w hs (by omega)
  · exact code_2 s i w hs (by omega)
  · exact code_3 s i w hs (by omega)
  · exact code_4 s i w hs (by omega)

theorem barred_nat (c : Nat) (w : World) (h : c < 256) :
    Calls Tryz.prog 105 #[.int .u8 c] w fun e w' => e = .returned (.bool (Cu.barred c)) ∧ w' = w := by
  refine (barred_any c w (by omega) (by omega)).mono ?_
  rintro e w' ⟨rfl, rfl⟩
  exact ⟨ret_bool (by unfold Cu.barred; rw [Bool.eq_iff_iff]; simp only [decide_eq_true_eq]; omega), rfl⟩
theorem isName_nat (c : Nat) (w : World) (h : c < 256) :
    Calls Tryz.prog 40 #[.int .u8 c] w fun e w' => e = .returned (.bool (Cu.isName c)) ∧ w = w' := by
  refine (isName_any c w (by omega) (by omega)).mono ?_
  rintro e w' ⟨rfl, rfl⟩
  exact ⟨ret_bool (by unfold Cu.isName; rw [Bool.eq_iff_iff]; simp only [decide_eq_true_eq]; omega), rfl⟩
theorem isSign_nat (c : Nat) (w : World) (h : c < 256) :
    Calls Tryz.prog 70 #[.int .u8 c] w fun e w' => e = .returned (.bool (Cu.isSign c)) ∧ w = w' := by
  refine (isSign_any c w (by omega) (by omega)).mono ?_
  rintro e w' ⟨rfl, rfl⟩
  exact ⟨ret_bool (by unfold Cu.isSign; rw [Bool.eq_iff_iff]; simp only [decide_eq_true_eq]; omega), rfl⟩
theorem isHow_nat (c : Nat) (w : World) (h : c < 256) :
    Calls Tryz.prog 71 #[.int .u8 c] w fun e w' => e = .returned (.bool (Cu.isHow c)) ∧ w = w' := by
  refine (isHow_any c w (by omega) (by omega)).mono ?_
  rintro e w' ⟨rfl, rfl⟩
  exact ⟨ret_bool (by unfold Cu.isHow; rw [Bool.eq_iff_iff]; simp only [decide_eq_true_eq]; omega), rfl⟩

end Go.Proofs.YtkinfleecfddlaaGreatDoor
