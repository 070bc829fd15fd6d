/- Walks: the reference's itemChar. -/
import Derived.Test.YtkinfleecfddlaaGreatDoorWalkB
namespace Go.Proofs.YtkinfleecfddlaaGreatDoor
open Go.RowKit

/-- What itemChar hands back. -/
def itemRes (s : List UInt8) (i : Nat) : Value := .tuple #[.agg #[.int .i64 (Cu.itemAt s i), .int .i64 (Cu.itemN s i), .int .i64 (Cu.itemCode s i)], .int .i64 (Cu.itemEnd s i), .bool (Cu.itemOk s i)]

theorem itemRes_no {s : List UInt8} {i j : Nat} (h : Cu.itemOk s i = false) (h2 : Cu.itemEnd s i = j) : itemRes s i = .tuple #[.agg #[.int .i64 0, .int .i64 0, .int .i64 0], .int .i64 j, .bool false] := by
  unfold itemRes Cu.itemAt Cu.itemN Cu.itemCode; rw [h, h2]; simp
theorem itemRes_yes {s : List UInt8} {i : Nat} (h : Cu.itemOk s i = true) (h2 : Cu.itemEnd s i = i + (Cu.well s i).2) : itemRes s i = .tuple #[.agg #[.int .i64 i, .int .i64 (Cu.well s i).2, .int .i64 (Cu.code s i (Cu.well s i).2)], .int .i64 (i + (Cu.well s i).2 : Nat), .bool true] := by
  unfold itemRes Cu.itemAt Cu.itemN Cu.itemCode; rw [h, h2]; simp

set_option maxRecDepth 100000 in
set_option maxHeartbeats 400000 in
theorem itemChar_end (s : ByteArray) (i : Nat) (w : World) (_hs : s.size ≤ 140737488355328) (h1 : i = s.size) :
    Calls Tryz.prog 69 #[.string s, .int .i64 i] w fun e w' => e = .returned (itemRes s.data.toList i) ∧ Below w.heap.size w w' := by
  have hlt : ¬ i < s.size := by omega
  have hr := hide (itemRes_no (s := s.data.toList) (i := i) (j := i) (by unfold Cu.itemOk; simp [hlt]) (by unfold Cu.itemEnd; rw [if_neg (by rw [len_toList]; omega)]))
  go_enter Tryz.func69, Tryz.ntmps69
  go_wp2
  refine bodyPost_ret (v := .tuple #[.agg #[.int .i64 0, .int .i64 0, .int .i64 0], .int .i64 i, .bool false]) (by simp [results, Tryz.results69, go_sem]) rfl ⟨by rw [unhide hr], (Below.refl _ _).alloc (Nat.le_refl _) _⟩

set_option maxRecDepth 100000 in
set_option maxHeartbeats 400000 in
theorem itemChar_bar (s : ByteArray) (i : Nat) (w : World) (_hs : s.size ≤ 140737488355328) (h1 : i < s.size) (hbar : Cu.barred (Cu.byt s.data.toList i) = true) :
    Calls Tryz.prog 69 #[.string s, .int .i64 i] w fun e w' => e = .returned (itemRes s.data.toList i) ∧ Below w.heap.size w w' := by
  have hb := byt_lt s.data.toList i
  have hbe := byt_eq s i h1
  have hr := hide (itemRes_no (s := s.data.toList) (i := i) (j := i) (by unfold Cu.itemOk; simp [hbar]) (by unfold Cu.itemEnd; rw [if_neg (by rw [hbar]; simp)]))
  go_enter Tryz.func69, Tryz.ntmps69
  go_wp2_with (go_at_call 105; refine (barred_nat _ _ hb).mono ?_; rintro e w' ⟨rfl, rfl⟩)
  refine bodyPost_ret (v := .tuple #[.agg #[.int .i64 0, .int .i64 0, .int .i64 0], .int .i64 i, .bool false]) (by simp [results, Tryz.results69, go_sem]) rfl ⟨by rw [unhide hr], (Below.refl _ _).alloc (Nat.le_refl _) _⟩

set_option maxRecDepth 100000 in
set_option maxHeartbeats 400000 in
theorem itemChar_bad (s : ByteArray) (i : Nat) (w : World) (hs : s.size ≤ 140737488355328) (h1 : i < s.size) (hbar : Cu.barred (Cu.byt s.data.toList i) = false) (hw : (Cu.well s.data.toList i).2 = 0 ∨ (Cu.well s.data.toList i).1 < (Cu.well s.data.toList i).2) :
    Calls Tryz.prog 69 #[.string s, .int .i64 i] w fun e w' => e = .returned (itemRes s.data.toList i) ∧ Below w.heap.size w w' := by
  have hb := byt_lt s.data.toList i
  have hbe := byt_eq s i h1
  have hwl := Cu.well_le s.data.toList i
  have hr := hide (itemRes_no (s := s.data.toList) (i := i) (j := i + (Cu.well s.data.toList i).1) (by unfold Cu.itemOk; simp only [Bool.and_eq_false_iff, decide_eq_false_iff_not]; omega) (by unfold Cu.itemEnd; rw [if_pos ⟨by rw [len_toList]; omega, hbar⟩]))
  by_cases hz : (Cu.well s.data.toList i).2 = 0
  · have hz2 : (((Cu.well s.data.toList i).2 : Int) == 0) = true := by rw [hz]; rfl
    clear hz
    go_enter Tryz.func69, Tryz.ntmps69
    go_wp2_with (first | (go_at_call 105; refine (barred_nat _ _ hb).mono ?_; rintro e w' ⟨rfl, rfl⟩) | (go_at_call 76; refine (well_any s _ _ hs (by omega) (by omega)).mono ?_; rintro e w' ⟨rfl, rfl⟩; rw [Int.toNat_natCast]))
    refine bodyPost_ret (v := .tuple #[.agg #[.int .i64 0, .int .i64 0, .int .i64 0], .int .i64 (i + (Cu.well s.data.toList i).1 : Nat), .bool false]) (by simp [results, Tryz.results69, go_sem]) rfl ⟨by rw [unhide hr], (Below.refl _ _).alloc (Nat.le_refl _) _⟩
  · have hz2 : (((Cu.well s.data.toList i).2 : Int) == 0) = false := by rw [beq_eq_false_iff_ne]; omega
    have hz3 : (Cu.well s.data.toList i).1 < (Cu.well s.data.toList i).2 := by omega
    clear hz
    go_enter Tryz.func69, Tryz.ntmps69
    go_wp2_with (first | (go_at_call 105; refine (barred_nat _ _ hb).mono ?_; rintro e w' ⟨rfl, rfl⟩) | (go_at_call 76; refine (well_any s _ _ hs (by omega) (by omega)).mono ?_; rintro e w' ⟨rfl, rfl⟩; rw [Int.toNat_natCast]))
    refine bodyPost_ret (v := .tuple #[.agg #[.int .i64 0, .int .i64 0, .int .i64 0], .int .i64 (i + (Cu.well s.data.toList i).1 : Nat), .bool false]) (by simp [results, Tryz.results69, go_sem]) rfl ⟨by rw [unhide hr], (Below.refl _ _).alloc (Nat.le_refl _) _⟩

set_option maxRecDepth 100000 in
set_option maxHeartbeats 400000 in
theorem itemChar_good (s : ByteArray) (i : Nat) (w : World) (hs : s.size ≤ 140737488355328) (h1 : i < s.size) (hbar : Cu.barred (Cu.byt s.data.toList i) = false) (hz : (Cu.well s.data.toList i).2 ≠ 0) (hw : (Cu.well s.data.toList i).1 = (Cu.well s.data.toList i).2) :
    Calls Tryz.prog 69 #[.string s, .int .i64 i] w fun e w' => e = .returned (itemRes s.data.toList i) ∧ Below w.heap.size w w' := by
  have hb := byt_lt s.data.toList i
  have hbe := byt_eq s i h1
  have hwl := Cu.well_le s.data.toList i
  have hin : i + (Cu.well s.data.toList i).2 ≤ s.size := by have := Cu.well_in s.data.toList i (by rw [len_toList]; omega); rw [len_toList] at this; omega
  have hr := hide (itemRes_yes (s := s.data.toList) (i := i) (by unfold Cu.itemOk; simp only [Bool.and_eq_true, decide_eq_true_eq, hbar, len_toList]; refine ⟨⟨⟨h1, rfl⟩, hz⟩, by omega⟩) (by unfold Cu.itemEnd; rw [if_pos ⟨by rw [len_toList]; omega, hbar⟩, hw]))
  have hz2 : (((Cu.well s.data.toList i).2 : Int) == 0) = false := by rw [beq_eq_false_iff_ne]; omega
  have hw2 : ¬ (Cu.well s.data.toList i).1 < (Cu.well s.data.toList i).2 := by omega
  clear hw
  go_enter Tryz.func69, Tryz.ntmps69
  go_wp2_with (first | (go_at_call 105; refine (barred_nat _ _ hb).mono ?_; rintro e w' ⟨rfl, rfl⟩) | (go_at_call 76; refine (well_any s _ _ hs (by omega) (by omega)).mono ?_; rintro e w' ⟨rfl, rfl⟩; rw [Int.toNat_natCast]))
  refine (code_any s _ _ _ hs (by omega) (by omega) (by omega) (by omega)).mono ?_
  rintro e w' ⟨rfl, nq, rfl⟩
  rw [Int.toNat_natCast, Int.toNat_natCast]
  go_wp2
  refine bodyPost_ret (v := .tuple #[.agg #[.int .i64 i, .int .i64 (Cu.well s.data.toList i).2, .int .i64 (Cu.code s.data.toList i (Cu.well s.data.toList i).2)], .int .i64 (i + (Cu.well s.data.toList i).2 : Nat), .bool true]) (by simp [results, Tryz.results69, go_sem]) rfl ⟨by rw [unhide hr], ?_⟩
  go_light
  exact (((below_drewN ((Below.refl _ _).alloc (Nat.le_refl _) _) nq).setCell (by simp) _).setCell (by simp) _).setCell (by simp) _

theorem itemChar_any (s : ByteArray) (i : Int) (w : World) (hs : s.size ≤ 140737488355328) (h0 : 0 ≤ i) (h1 : i ≤ s.size) :
    Calls Tryz.prog 69 #[.string s, .int .i64 i] w fun e w' => e = .returned (itemRes s.data.toList i.toNat) ∧ Below w.heap.size w w' := by
  obtain ⟨i, rfl⟩ := Int.eq_ofNat_of_zero_le h0
  rw [Int.toNat_natCast]
  by_cases h2 : i = s.size
  · exact itemChar_end s i w hs h2
  · cases hb : Cu.barred (Cu.byt s.data.toList i) with
    | true => exact itemChar_bar s i w hs (by omega) hb
    | false =>
      have hwl := Cu.well_le s.data.toList i
      by_cases hw : (Cu.well s.data.toList i).2 = 0 ∨ (Cu.well s.data.toList i).1 < (Cu.well s.data.toList i).2
      · exact itemChar_bad s i w hs (by omega) hb hw
      · exact itemChar_good s i w hs (by omega) hb (by omega) (by omega)
end Go.Proofs.YtkinfleecfddlaaGreatDoor
