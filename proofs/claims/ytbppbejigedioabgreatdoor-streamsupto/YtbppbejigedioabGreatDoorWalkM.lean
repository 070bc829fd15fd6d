/- Walks: utf8.FullRuneInString, begun. -/
import Derived.Test.YtbppbejigedioabGreatDoorRdA
import Derived.Test.YtbppbejigedioabGreatDoorPlainB
namespace Go.Proofs.YtbppbejigedioabGreatDoor
open Go.RowKit

/-- Go's tables, where the dump lays them. -/
abbrev Tabs (w : World) : Prop := Lib.Utf8Tabs 1 2 w

/-- Is a beginning of m bytes a whole encoding, or none? c: the first byte's entry. -/
def fullB (m c b1 b2 : Nat) : Bool :=
  if c % 8 ≤ m then true else if 1 < m ∧ (b1 < Lib.accLo (c / 16) ∨ Lib.accHi (c / 16) < b1) then true else if 2 < m ∧ (b2 < 128 ∨ 191 < b2) then true else false

set_option maxRecDepth 100000 in
set_option maxHeartbeats 1000000 in
theorem fullRune_2 (t : ByteArray) (w : World) (hT : Tabs w) (h1 : 1 ≤ t.size) (h2 : t.size ≤ 200) (hc : Lib.firstT (Cu.byt t.data.toList 0) = 2) :
    Calls Tryz.prog 55 #[.string t] w fun e w' => e = .returned (.bool (fullB t.size 2 (Cu.byt t.data.toList 1) (Cu.byt t.data.toList 2))) ∧ Below w.heap.size w w' := by
  have hz : ((t.size : Int) == 0) = false := by rw [beq_eq_false_iff_ne]; omega
  have hb0 := byt_lt t.data.toList 0
  have hbe0 := byt_eq t 0 (by omega)
  have c0 := hT.1 (Cu.byt t.data.toList 0) hb0
  rw [hc] at c0
  have hlt : (0 : Int) < (t.size : Int) := by omega
  obtain ⟨a0, a1⟩ := hT.2 0 (by omega)
  have a0' : w.cell? ⟨2, 0, none⟩ = some (.int .u8 128) := a0
  have a1' : w.cell? ⟨2, 1, none⟩ = some (.int .u8 191) := a1
  clear a0 a1 hT
  by_cases hsz : 2 ≤ t.size
  · have hr : Hid (fullB t.size 2 (Cu.byt t.data.toList 1) (Cu.byt t.data.toList 2) = true) := hide (by unfold fullB; rw [if_pos hsz])
    go_enter Tryz.func55, Tryz.ntmps55
    go_wp2
    go_ret
    exact ⟨ret_bool (unhide hr).symm, Below.refl _ _⟩
  · have hbl := (Below.refl w.heap.size w).alloc (Nat.le_refl _) (.cells #[.int .u8 128, .int .u8 191] 211)
    have HBL := hide hbl
    clear hbl
    by_cases hm : 1 < t.size
    · exfalso; omega
    · have hr : Hid (fullB t.size 2 (Cu.byt t.data.toList 1) (Cu.byt t.data.toList 2) = false) := hide (by unfold fullB; rw [if_neg hsz, if_neg (by omega), if_neg (by omega)])
      have hm' : decide ((1 : Int) < (t.size : Int)) = false := by simp; omega
      have hm2' : ¬ (2 : Int) < (t.size : Int) := by omega
      go_enter Tryz.func55, Tryz.ntmps55
      go_wp2
      go_quiet (fail)
      go_wp2
      go_ret
      exact ⟨ret_bool (unhide hr).symm, below_drewN (unhide HBL) _⟩

set_option maxRecDepth 100000 in
set_option maxHeartbeats 1000000 in
theorem fullRune_3 (t : ByteArray) (w : World) (hT : Tabs w) (h1 : 1 ≤ t.size) (h2 : t.size ≤ 200) (hc : Lib.firstT (Cu.byt t.data.toList 0) = 3) :
    Calls Tryz.prog 55 #[.string t] w fun e w' => e = .returned (.bool (fullB t.size 3 (Cu.byt t.data.toList 1) (Cu.byt t.data.toList 2))) ∧ Below w.heap.size w w' := by
  have hz : ((t.size : Int) == 0) = false := by rw [beq_eq_false_iff_ne]; omega
  have hb0 := byt_lt t.data.toList 0
  have hbe0 := byt_eq t 0 (by omega)
  have c0 := hT.1 (Cu.byt t.data.toList 0) hb0
  rw [hc] at c0
  have hlt : (0 : Int) < (t.size : Int) := by omega
  obtain ⟨a0, a1⟩ := hT.2 0 (by omega)
  have a0' : w.cell? ⟨2, 0, none⟩ = some (.int .u8 128) := a0
  have a1' : w.cell? ⟨2, 1, none⟩ = some (.int .u8 191) := a1
  clear a0 a1 hT
  by_cases hsz : 3 ≤ t.size
  · have hr : Hid (fullB t.size 3 (Cu.byt t.data.toList 1) (Cu.byt t.data.toList 2) = true) := hide (by unfold fullB; rw [if_pos hsz])
    go_enter Tryz.func55, Tryz.ntmps55
    go_wp2
    go_ret
    exact ⟨ret_bool (unhide hr).symm, Below.refl _ _⟩
  · have hbl := (Below.refl w.heap.size w).alloc (Nat.le_refl _) (.cells #[.int .u8 128, .int .u8 191] 211)
    have HBL := hide hbl
    clear hbl
    by_cases hm : 1 < t.size
    · have hb1 := byt_lt t.data.toList 1
      have hbe1 := byt_eq t 1 hm
      have hm' : (1 : Int) < (t.size : Int) := by omega
      by_cases hin : Cu.byt t.data.toList 1 < 128
      · have hr : Hid (fullB t.size 3 (Cu.byt t.data.toList 1) (Cu.byt t.data.toList 2) = true) := hide (by unfold fullB; rw [if_neg hsz, if_pos ⟨hm, Or.inl hin⟩])
        have hind : decide (((Cu.byt t.data.toList 1 : Nat) : Int) < 128) = true := by simp; omega
        go_enter Tryz.func55, Tryz.ntmps55
        go_wp2
        go_quiet (fail)
        go_wp2
        go_ret
        exact ⟨ret_bool (unhide hr).symm, below_drewN (unhide HBL) _⟩
      · have hin2 : decide (((Cu.byt t.data.toList 1 : Nat) : Int) < 128) = false := by simp; omega
        by_cases hin3 : 191 < Cu.byt t.data.toList 1
        · have hr : Hid (fullB t.size 3 (Cu.byt t.data.toList 1) (Cu.byt t.data.toList 2) = true) := hide (by unfold fullB; rw [if_neg hsz, if_pos ⟨hm, Or.inr hin3⟩])
          go_enter Tryz.func55, Tryz.ntmps55
          go_wp2
          go_quiet (fail)
          go_wp2
          go_ret
          exact ⟨ret_bool (unhide hr).symm, below_drewN (unhide HBL) _⟩
        · have hno : Hid (¬ (1 < t.size ∧ (Cu.byt t.data.toList 1 < Lib.accLo (3 / 16) ∨ Lib.accHi (3 / 16) < Cu.byt t.data.toList 1))) := hide (fun h => by
            have h' := h.2
            rcases h' with h' | h'
            · exact hin h'
            · exact hin3 h')
          have hr : Hid (fullB t.size 3 (Cu.byt t.data.toList 1) (Cu.byt t.data.toList 2) = false) := hide (by unfold fullB; rw [if_neg hsz, if_neg (unhide hno), if_neg (by omega)])
          have h2' : ¬ (2 : Int) < (t.size : Int) := by omega
          go_enter Tryz.func55, Tryz.ntmps55
          go_wp2
          go_quiet (fail)
          go_wp2
          go_ret
          exact ⟨ret_bool (unhide hr).symm, below_drewN (unhide HBL) _⟩
    · have hr : Hid (fullB t.size 3 (Cu.byt t.data.toList 1) (Cu.byt t.data.toList 2) = false) := hide (by unfold fullB; rw [if_neg hsz, if_neg (by omega), if_neg (by omega)])
      have hm' : decide ((1 : Int) < (t.size : Int)) = false := by simp; omega
      have hm2' : ¬ (2 : Int) < (t.size : Int) := by omega
      go_enter Tryz.func55, Tryz.ntmps55
      go_wp2
      go_quiet (fail)
      go_wp2
      go_ret
      exact ⟨ret_bool (unhide hr).symm, below_drewN (unhide HBL) _⟩

set_option maxRecDepth 100000 in
set_option maxHeartbeats 1000000 in
theorem fullRune_4 (t : ByteArray) (w : World) (hT : Tabs w) (h1 : 1 ≤ t.size) (h2 : t.size ≤ 200) (hc : Lib.firstT (Cu.byt t.data.toList 0) = 4) :
    Calls Tryz.prog 55 #[.string t] w fun e w' => e = .returned (.bool (fullB t.size 4 (Cu.byt t.data.toList 1) (Cu.byt t.data.toList 2))) ∧ Below w.heap.size w w' := by
  have hz : ((t.size : Int) == 0) = false := by rw [beq_eq_false_iff_ne]; omega
  have hb0 := byt_lt t.data.toList 0
  have hbe0 := byt_eq t 0 (by omega)
  have c0 := hT.1 (Cu.byt t.data.toList 0) hb0
  rw [hc] at c0
  have hlt : (0 : Int) < (t.size : Int) := by omega
  obtain ⟨a0, a1⟩ := hT.2 0 (by omega)
  have a0' : w.cell? ⟨2, 0, none⟩ = some (.int .u8 128) := a0
  have a1' : w.cell? ⟨2, 1, none⟩ = some (.int .u8 191) := a1
  clear a0 a1 hT
  by_cases hsz : 4 ≤ t.size
  · have hr : Hid (fullB t.size 4 (Cu.byt t.data.toList 1) (Cu.byt t.data.toList 2) = true) := hide (by unfold fullB; rw [if_pos hsz])
    go_enter Tryz.func55, Tryz.ntmps55
    go_wp2
    go_ret
    exact ⟨ret_bool (unhide hr).symm, Below.refl _ _⟩
  · have hbl := (Below.refl w.heap.size w).alloc (Nat.le_refl _) (.cells #[.int .u8 128, .int .u8 191] 211)
    have HBL := hide hbl
    clear hbl
    by_cases hm : 1 < t.size
    · have hb1 := byt_lt t.data.toList 1
      have hbe1 := byt_eq t 1 hm
      have hm' : (1 : Int) < (t.size : Int) := by omega
      by_cases hin : Cu.byt t.data.toList 1 < 128
      · have hr : Hid (fullB t.size 4 (Cu.byt t.data.toList 1) (Cu.byt t.data.toList 2) = true) := hide (by unfold fullB; rw [if_neg hsz, if_pos ⟨hm, Or.inl hin⟩])
        have hind : decide (((Cu.byt t.data.toList 1 : Nat) : Int) < 128) = true := by simp; omega
        go_enter Tryz.func55, Tryz.ntmps55
        go_wp2
        go_quiet (fail)
        go_wp2
        go_ret
        exact ⟨ret_bool (unhide hr).symm, below_drewN (unhide HBL) _⟩
      · have hin2 : decide (((Cu.byt t.data.toList 1 : Nat) : Int) < 128) = false := by simp; omega
        by_cases hin3 : 191 < Cu.byt t.data.toList 1
        · have hr : Hid (fullB t.size 4 (Cu.byt t.data.toList 1) (Cu.byt t.data.toList 2) = true) := hide (by unfold fullB; rw [if_neg hsz, if_pos ⟨hm, Or.inr hin3⟩])
          go_enter Tryz.func55, Tryz.ntmps55
          go_wp2
          go_quiet (fail)
          go_wp2
          go_ret
          exact ⟨ret_bool (unhide hr).symm, below_drewN (unhide HBL) _⟩
        · have hno : Hid (¬ (1 < t.size ∧ (Cu.byt t.data.toList 1 < Lib.accLo (4 / 16) ∨ Lib.accHi (4 / 16) < Cu.byt t.data.toList 1))) := hide (fun h => by
            have h' := h.2
            rcases h' with h' | h'
            · exact hin h'
            · exact hin3 h')
          by_cases hm2 : 2 < t.size
          · have hb2 := byt_lt t.data.toList 2
            have hbe2 := byt_eq t 2 hm2
            have hm2' : (2 : Int) < (t.size : Int) := by omega
            by_cases hq : Cu.byt t.data.toList 2 < 128
            · have hr : Hid (fullB t.size 4 (Cu.byt t.data.toList 1) (Cu.byt t.data.toList 2) = true) := hide (by unfold fullB; rw [if_neg hsz, if_neg (unhide hno), if_pos ⟨hm2, Or.inl hq⟩])
              go_enter Tryz.func55, Tryz.ntmps55
              go_wp2
              go_quiet (fail)
              go_wp2
              go_ret
              exact ⟨ret_bool (unhide hr).symm, below_drewN (unhide HBL) _⟩
            · by_cases hq2 : 191 < Cu.byt t.data.toList 2
              · have hr : Hid (fullB t.size 4 (Cu.byt t.data.toList 1) (Cu.byt t.data.toList 2) = true) := hide (by unfold fullB; rw [if_neg hsz, if_neg (unhide hno), if_pos ⟨hm2, Or.inr hq2⟩])
                go_enter Tryz.func55, Tryz.ntmps55
                go_wp2
                go_quiet (fail)
                go_wp2
                go_ret
                exact ⟨ret_bool (unhide hr).symm, below_drewN (unhide HBL) _⟩
              · have hr : Hid (fullB t.size 4 (Cu.byt t.data.toList 1) (Cu.byt t.data.toList 2) = false) := hide (by unfold fullB; rw [if_neg hsz, if_neg (unhide hno), if_neg (by omega)])
                go_enter Tryz.func55, Tryz.ntmps55
                go_wp2
                go_quiet (fail)
                go_wp2
                go_ret
                exact ⟨ret_bool (unhide hr).symm, below_drewN (unhide HBL) _⟩
          · have hr : Hid (fullB t.size 4 (Cu.byt t.data.toList 1) (Cu.byt t.data.toList 2) = false) := hide (by unfold fullB; rw [if_neg hsz, if_neg (unhide hno), if_neg (by omega)])
            have hm2' : ¬ (2 : Int) < (t.size : Int) := by omega
            go_enter Tryz.func55, Tryz.ntmps55
            go_wp2
            go_quiet (fail)
            go_wp2
            go_ret
            exact ⟨ret_bool (unhide hr).symm, below_drewN (unhide HBL) _⟩
    · have hr : Hid (fullB t.size 4 (Cu.byt t.data.toList 1) (Cu.byt t.data.toList 2) = false) := hide (by unfold fullB; rw [if_neg hsz, if_neg (by omega), if_neg (by omega)])
      have hm' : decide ((1 : Int) < (t.size : Int)) = false := by simp; omega
      have hm2' : ¬ (2 : Int) < (t.size : Int) := by omega
      go_enter Tryz.func55, Tryz.ntmps55
      go_wp2
      go_quiet (fail)
      go_wp2
      go_ret
      exact ⟨ret_bool (unhide hr).symm, below_drewN (unhide HBL) _⟩

set_option maxRecDepth 100000 in
set_option maxHeartbeats 1000000 in
theorem fullRune_19 (t : ByteArray) (w : World) (hT : Tabs w) (h1 : 1 ≤ t.size) (h2 : t.size ≤ 200) (hc : Lib.firstT (Cu.byt t.data.toList 0) = 19) :
    Calls Tryz.prog 55 #[.string t] w fun e w' => e = .returned (.bool (fullB t.size 19 (Cu.byt t.data.toList 1) (Cu.byt t.data.toList 2))) ∧ Below w.heap.size w w' := by
  have hz : ((t.size : Int) == 0) = false := by rw [beq_eq_false_iff_ne]; omega
  have hb0 := byt_lt t.data.toList 0
  have hbe0 := byt_eq t 0 (by omega)
  have c0 := hT.1 (Cu.byt t.data.toList 0) hb0
  rw [hc] at c0
  have hlt : (0 : Int) < (t.size : Int) := by omega
  obtain ⟨a0, a1⟩ := hT.2 1 (by omega)
  have a0' : w.cell? ⟨2, 2, none⟩ = some (.int .u8 160) := a0
  have a1' : w.cell? ⟨2, 3, none⟩ = some (.int .u8 191) := a1
  clear a0 a1 hT
  by_cases hsz : 3 ≤ t.size
  · have hr : Hid (fullB t.size 19 (Cu.byt t.data.toList 1) (Cu.byt t.data.toList 2) = true) := hide (by unfold fullB; rw [if_pos hsz])
    go_enter Tryz.func55, Tryz.ntmps55
    go_wp2
    go_ret
    exact ⟨ret_bool (unhide hr).symm, Below.refl _ _⟩
  · have hbl := (Below.refl w.heap.size w).alloc (Nat.le_refl _) (.cells #[.int .u8 160, .int .u8 191] 211)
    have HBL := hide hbl
    clear hbl
    by_cases hm : 1 < t.size
    · have hb1 := byt_lt t.data.toList 1
      have hbe1 := byt_eq t 1 hm
      have hm' : (1 : Int) < (t.size : Int) := by omega
      by_cases hin : Cu.byt t.data.toList 1 < 160
      · have hr : Hid (fullB t.size 19 (Cu.byt t.data.toList 1) (Cu.byt t.data.toList 2) = true) := hide (by unfold fullB; rw [if_neg hsz, if_pos ⟨hm, Or.inl hin⟩])
        have hind : decide (((Cu.byt t.data.toList 1 : Nat) : Int) < 160) = true := by simp; omega
        go_enter Tryz.func55, Tryz.ntmps55
        go_wp2
        go_quiet (fail)
        go_wp2
        go_ret
        exact ⟨ret_bool (unhide hr).symm, below_drewN (unhide HBL) _⟩
      · have hin2 : decide (((Cu.byt t.data.toList 1 : Nat) : Int) < 160) = false := by simp; omega
        by_cases hin3 : 191 < Cu.byt t.data.toList 1
        · have hr : Hid (fullB t.size 19 (Cu.byt t.data.toList 1) (Cu.byt t.data.toList 2) = true) := hide (by unfold fullB; rw [if_neg hsz, if_pos ⟨hm, Or.inr hin3⟩])
          go_enter Tryz.func55, Tryz.ntmps55
          go_wp2
          go_quiet (fail)
          go_wp2
          go_ret
          exact ⟨ret_bool (unhide hr).symm, below_drewN (unhide HBL) _⟩
        · have hno : Hid (¬ (1 < t.size ∧ (Cu.byt t.data.toList 1 < Lib.accLo (19 / 16) ∨ Lib.accHi (19 / 16) < Cu.byt t.data.toList 1))) := hide (fun h => by
            have h' := h.2
            rcases h' with h' | h'
            · exact hin h'
            · exact hin3 h')
          have hr : Hid (fullB t.size 19 (Cu.byt t.data.toList 1) (Cu.byt t.data.toList 2) = false) := hide (by unfold fullB; rw [if_neg hsz, if_neg (unhide hno), if_neg (by omega)])
          have h2' : ¬ (2 : Int) < (t.size : Int) := by omega
          go_enter Tryz.func55, Tryz.ntmps55
          go_wp2
          go_quiet (fail)
          go_wp2
          go_ret
          exact ⟨ret_bool (unhide hr).symm, below_drewN (unhide HBL) _⟩
    · have hr : Hid (fullB t.size 19 (Cu.byt t.data.toList 1) (Cu.byt t.data.toList 2) = false) := hide (by unfold fullB; rw [if_neg hsz, if_neg (by omega), if_neg (by omega)])
      have hm' : decide ((1 : Int) < (t.size : Int)) = false := by simp; omega
      have hm2' : ¬ (2 : Int) < (t.size : Int) := by omega
      go_enter Tryz.func55, Tryz.ntmps55
      go_wp2
      go_quiet (fail)
      go_wp2
      go_ret
      exact ⟨ret_bool (unhide hr).symm, below_drewN (unhide HBL) _⟩

set_option maxRecDepth 100000 in
set_option maxHeartbeats 1000000 in
theorem fullRune_35 (t : ByteArray) (w : World) (hT : Tabs w) (h1 : 1 ≤ t.size) (h2 : t.size ≤ 200) (hc : Lib.firstT (Cu.byt t.data.toList 0) = 35) :
    Calls Tryz.prog 55 #[.string t] w fun e w' => e = .returned (.bool (fullB t.size 35 (Cu.byt t.data.toList 1) (Cu.byt t.data.toList 2))) ∧ Below w.heap.size w w' := by
  have hz : ((t.size : Int) == 0) = false := by rw [beq_eq_false_iff_ne]; omega
  have hb0 := byt_lt t.data.toList 0
  have hbe0 := byt_eq t 0 (by omega)
  have c0 := hT.1 (Cu.byt t.data.toList 0) hb0
  rw [hc] at c0
  have hlt : (0 : Int) < (t.size : Int) := by omega
  obtain ⟨a0, a1⟩ := hT.2 2 (by omega)
  have a0' : w.cell? ⟨2, 4, none⟩ = some (.int .u8 128) := a0
  have a1' : w.cell? ⟨2, 5, none⟩ = some (.int .u8 159) := a1
  clear a0 a1 hT
  by_cases hsz : 3 ≤ t.size
  · have hr : Hid (fullB t.size 35 (Cu.byt t.data.toList 1) (Cu.byt t.data.toList 2) = true) := hide (by unfold fullB; rw [if_pos hsz])
    go_enter Tryz.func55, Tryz.ntmps55
    go_wp2
    go_ret
    exact ⟨ret_bool (unhide hr).symm, Below.refl _ _⟩
  · have hbl := (Below.refl w.heap.size w).alloc (Nat.le_refl _) (.cells #[.int .u8 128, .int .u8 159] 211)
    have HBL := hide hbl
    clear hbl
    by_cases hm : 1 < t.size
    · have hb1 := byt_lt t.data.toList 1
      have hbe1 := byt_eq t 1 hm
      have hm' : (1 : Int) < (t.size : Int) := by omega
      by_cases hin : Cu.byt t.data.toList 1 < 128
      · have hr : Hid (fullB t.size 35 (Cu.byt t.data.toList 1) (Cu.byt t.data.toList 2) = true) := hide (by unfold fullB; rw [if_neg hsz, if_pos ⟨hm, Or.inl hin⟩])
        have hind : decide (((Cu.byt t.data.toList 1 : Nat) : Int) < 128) = true := by simp; omega
        go_enter Tryz.func55, Tryz.ntmps55
        go_wp2
        go_quiet (fail)
        go_wp2
        go_ret
        exact ⟨ret_bool (unhide hr).symm, below_drewN (unhide HBL) _⟩
      · have hin2 : decide (((Cu.byt t.data.toList 1 : Nat) : Int) < 128) = false := by simp; omega
        by_cases hin3 : 159 < Cu.byt t.data.toList 1
        · have hr : Hid (fullB t.size 35 (Cu.byt t.data.toList 1) (Cu.byt t.data.toList 2) = true) := hide (by unfold fullB; rw [if_neg hsz, if_pos ⟨hm, Or.inr hin3⟩])
          go_enter Tryz.func55, Tryz.ntmps55
          go_wp2
          go_quiet (fail)
          go_wp2
          go_ret
          exact ⟨ret_bool (unhide hr).symm, below_drewN (unhide HBL) _⟩
        · have hno : Hid (¬ (1 < t.size ∧ (Cu.byt t.data.toList 1 < Lib.accLo (35 / 16) ∨ Lib.accHi (35 / 16) < Cu.byt t.data.toList 1))) := hide (fun h => by
            have h' := h.2
            rcases h' with h' | h'
            · exact hin h'
            · exact hin3 h')
          have hr : Hid (fullB t.size 35 (Cu.byt t.data.toList 1) (Cu.byt t.data.toList 2) = false) := hide (by unfold fullB; rw [if_neg hsz, if_neg (unhide hno), if_neg (by omega)])
          have h2' : ¬ (2 : Int) < (t.size : Int) := by omega
          go_enter Tryz.func55, Tryz.ntmps55
          go_wp2
          go_quiet (fail)
          go_wp2
          go_ret
          exact ⟨ret_bool (unhide hr).symm, below_drewN (unhide HBL) _⟩
    · have hr : Hid (fullB t.size 35 (Cu.byt t.data.toList 1) (Cu.byt t.data.toList 2) = false) := hide (by unfold fullB; rw [if_neg hsz, if_neg (by omega), if_neg (by omega)])
      have hm' : decide ((1 : Int) < (t.size : Int)) = false := by simp; omega
      have hm2' : ¬ (2 : Int) < (t.size : Int) := by omega
      go_enter Tryz.func55, Tryz.ntmps55
      go_wp2
      go_quiet (fail)
      go_wp2
      go_ret
      exact ⟨ret_bool (unhide hr).symm, below_drewN (unhide HBL) _⟩

set_option maxRecDepth 100000 in
set_option maxHeartbeats 1000000 in
theorem fullRune_52 (t : ByteArray) (w : World) (hT : Tabs w) (h1 : 1 ≤ t.size) (h2 : t.size ≤ 200) (hc : Lib.firstT (Cu.byt t.data.toList 0) = 52) :
    Calls Tryz.prog 55 #[.string t] w fun e w' => e = .returned (.bool (fullB t.size 52 (Cu.byt t.data.toList 1) (Cu.byt t.data.toList 2))) ∧ Below w.heap.size w w' := by
  have hz : ((t.size : Int) == 0) = false := by rw [beq_eq_false_iff_ne]; omega
  have hb0 := byt_lt t.data.toList 0
  have hbe0 := byt_eq t 0 (by omega)
  have c0 := hT.1 (Cu.byt t.data.toList 0) hb0
  rw [hc] at c0
  have hlt : (0 : Int) < (t.size : Int) := by omega
  obtain ⟨a0, a1⟩ := hT.2 3 (by omega)
  have a0' : w.cell? ⟨2, 6, none⟩ = some (.int .u8 144) := a0
  have a1' : w.cell? ⟨2, 7, none⟩ = some (.int .u8 191) := a1
  clear a0 a1 hT
  by_cases hsz : 4 ≤ t.size
  · have hr : Hid (fullB t.size 52 (Cu.byt t.data.toList 1) (Cu.byt t.data.toList 2) = true) := hide (by unfold fullB; rw [if_pos hsz])
    go_enter Tryz.func55, Tryz.ntmps55
    go_wp2
    go_ret
    exact ⟨ret_bool (unhide hr).symm, Below.refl _ _⟩
  · have hbl := (Below.refl w.heap.size w).alloc (Nat.le_refl _) (.cells #[.int .u8 144, .int .u8 191] 211)
    have HBL := hide hbl
    clear hbl
    by_cases hm : 1 < t.size
    · have hb1 := byt_lt t.data.toList 1
      have hbe1 := byt_eq t 1 hm
      have hm' : (1 : Int) < (t.size : Int) := by omega
      by_cases hin : Cu.byt t.data.toList 1 < 144
      · have hr : Hid (fullB t.size 52 (Cu.byt t.data.toList 1) (Cu.byt t.data.toList 2) = true) := hide (by unfold fullB; rw [if_neg hsz, if_pos ⟨hm, Or.inl hin⟩])
        have hind : decide (((Cu.byt t.data.toList 1 : Nat) : Int) < 144) = true := by simp; omega
        go_enter Tryz.func55, Tryz.ntmps55
        go_wp2
        go_quiet (fail)
        go_wp2
        go_ret
        exact ⟨ret_bool (unhide hr).symm, below_drewN (unhide HBL) _⟩
      · have hin2 : decide (((Cu.byt t.data.toList 1 : Nat) : Int) < 144) = false := by simp; omega
        by_cases hin3 : 191 < Cu.byt t.data.toList 1
        · have hr : Hid (fullB t.size 52 (Cu.byt t.data.toList 1) (Cu.byt t.data.toList 2) = true) := hide (by unfold fullB; rw [if_neg hsz, if_pos ⟨hm, Or.inr hin3⟩])
          go_enter Tryz.func55, Tryz.ntmps55
          go_wp2
          go_quiet (fail)
          go_wp2
          go_ret
          exact ⟨ret_bool (unhide hr).symm, below_drewN (unhide HBL) _⟩
        · have hno : Hid (¬ (1 < t.size ∧ (Cu.byt t.data.toList 1 < Lib.accLo (52 / 16) ∨ Lib.accHi (52 / 16) < Cu.byt t.data.toList 1))) := hide (fun h => by
            have h' := h.2
            rcases h' with h' | h'
            · exact hin h'
            · exact hin3 h')
          by_cases hm2 : 2 < t.size
          · have hb2 := byt_lt t.data.toList 2
            have hbe2 := byt_eq t 2 hm2
            have hm2' : (2 : Int) < (t.size : Int) := by omega
            by_cases hq : Cu.byt t.data.toList 2 < 128
            · have hr : Hid (fullB t.size 52 (Cu.byt t.data.toList 1) (Cu.byt t.data.toList 2) = true) := hide (by unfold fullB; rw [if_neg hsz, if_neg (unhide hno), if_pos ⟨hm2, Or.inl hq⟩])
              go_enter Tryz.func55, Tryz.ntmps55
              go_wp2
              go_quiet (fail)
              go_wp2
              go_ret
              exact ⟨ret_bool (unhide hr).symm, below_drewN (unhide HBL) _⟩
            · by_cases hq2 : 191 < Cu.byt t.data.toList 2
              · have hr : Hid (fullB t.size 52 (Cu.byt t.data.toList 1) (Cu.byt t.data.toList 2) = true) := hide (by unfold fullB; rw [if_neg hsz, if_neg (unhide hno), if_pos ⟨hm2, Or.inr hq2⟩])
                go_enter Tryz.func55, Tryz.ntmps55
                go_wp2
                go_quiet (fail)
                go_wp2
                go_ret
                exact ⟨ret_bool (unhide hr).symm, below_drewN (unhide HBL) _⟩
              · have hr : Hid (fullB t.size 52 (Cu.byt t.data.toList 1) (Cu.byt t.data.toList 2) = false) := hide (by unfold fullB; rw [if_neg hsz, if_neg (unhide hno), if_neg (by omega)])
                go_enter Tryz.func55, Tryz.ntmps55
                go_wp2
                go_quiet (fail)
                go_wp2
                go_ret
                exact ⟨ret_bool (unhide hr).symm, below_drewN (unhide HBL) _⟩
          · have hr : Hid (fullB t.size 52 (Cu.byt t.data.toList 1) (Cu.byt t.data.toList 2) = false) := hide (by unfold fullB; rw [if_neg hsz, if_neg (unhide hno), if_neg (by omega)])
            have hm2' : ¬ (2 : Int) < (t.size : Int) := by omega
            go_enter Tryz.func55, Tryz.ntmps55
            go_wp2
            go_quiet (fail)
            go_wp2
            go_ret
            exact ⟨ret_bool (unhide hr).symm, below_drewN (unhide HBL) _⟩
    · have hr : Hid (fullB t.size 52 (Cu.byt t.data.toList 1) (Cu.byt t.data.toList 2) = false) := hide (by unfold fullB; rw [if_neg hsz, if_neg (by omega), if_neg (by omega)])
      have hm' : decide ((1 : Int) < (t.size : Int)) = false := by simp; omega
      have hm2' : ¬ (2 : Int) < (t.size : Int) := by omega
      go_enter Tryz.func55, Tryz.ntmps55
      go_wp2
      go_quiet (fail)
      go_wp2
      go_ret
      exact ⟨ret_bool (unhide hr).symm, below_drewN (unhide HBL) _⟩

set_option maxRecDepth 100000 in
set_option maxHeartbeats 1000000 in
theorem fullRune_68 (t : ByteArray) (w : World) (hT : Tabs w) (h1 : 1 ≤ t.size) (h2 : t.size ≤ 200) (hc : Lib.firstT (Cu.byt t.data.toList 0) = 68) :
    Calls Tryz.prog 55 #[.string t] w fun e w' => e = .returned (.bool (fullB t.size 68 (Cu.byt t.data.toList 1) (Cu.byt t.data.toList 2))) ∧ Below w.heap.size w w' := by
  have hz : ((t.size : Int) == 0) = false := by rw [beq_eq_false_iff_ne]; omega
  have hb0 := byt_lt t.data.toList 0
  have hbe0 := byt_eq t 0 (by omega)
  have c0 := hT.1 (Cu.byt t.data.toList 0) hb0
  rw [hc] at c0
  have hlt : (0 : Int) < (t.size : Int) := by omega
  obtain ⟨a0, a1⟩ := hT.2 4 (by omega)
  have a0' : w.cell? ⟨2, 8, none⟩ = some (.int .u8 128) := a0
  have a1' : w.cell? ⟨2, 9, none⟩ = some (.int .u8 143) := a1
  clear a0 a1 hT
  by_cases hsz : 4 ≤ t.size
  · have hr : Hid (fullB t.size 68 (Cu.byt t.data.toList 1) (Cu.byt t.data.toList 2) = true) := hide (by unfold fullB; rw [if_pos hsz])
    go_enter Tryz.func55, Tryz.ntmps55
    go_wp2
    go_ret
    exact ⟨ret_bool (unhide hr).symm, Below.refl _ _⟩
  · have hbl := (Below.refl w.heap.size w).alloc (Nat.le_refl _) (.cells #[.int .u8 128, .int .u8 143] 211)
    have HBL := hide hbl
    clear hbl
    by_cases hm : 1 < t.size
    · have hb1 := byt_lt t.data.toList 1
      have hbe1 := byt_eq t 1 hm
      have hm' : (1 : Int) < (t.size : Int) := by omega
      by_cases hin : Cu.byt t.data.toList 1 < 128
      · have hr : Hid (fullB t.size 68 (Cu.byt t.data.toList 1) (Cu.byt t.data.toList 2) = true) := hide (by unfold fullB; rw [if_neg hsz, if_pos ⟨hm, Or.inl hin⟩])
        have hind : decide (((Cu.byt t.data.toList 1 : Nat) : Int) < 128) = true := by simp; omega
        go_enter Tryz.func55, Tryz.ntmps55
        go_wp2
        go_quiet (fail)
        go_wp2
        go_ret
        exact ⟨ret_bool (unhide hr).symm, below_drewN (unhide HBL) _⟩
      · have hin2 : decide (((Cu.byt t.data.toList 1 : Nat) : Int) < 128) = false := by simp; omega
        by_cases hin3 : 143 < Cu.byt t.data.toList 1
        · have hr : Hid (fullB t.size 68 (Cu.byt t.data.toList 1) (Cu.byt t.data.toList 2) = true) := hide (by unfold fullB; rw [if_neg hsz, if_pos ⟨hm, Or.inr hin3⟩])
          go_enter Tryz.func55, Tryz.ntmps55
          go_wp2
          go_quiet (fail)
          go_wp2
          go_ret
          exact ⟨ret_bool (unhide hr).symm, below_drewN (unhide HBL) _⟩
        · have hno : Hid (¬ (1 < t.size ∧ (Cu.byt t.data.toList 1 < Lib.accLo (68 / 16) ∨ Lib.accHi (68 / 16) < Cu.byt t.data.toList 1))) := hide (fun h => by
            have h' := h.2
            rcases h' with h' | h'
            · exact hin h'
            · exact hin3 h')
          by_cases hm2 : 2 < t.size
          · have hb2 := byt_lt t.data.toList 2
            have hbe2 := byt_eq t 2 hm2
            have hm2' : (2 : Int) < (t.size : Int) := by omega
            by_cases hq : Cu.byt t.data.toList 2 < 128
            · have hr : Hid (fullB t.size 68 (Cu.byt t.data.toList 1) (Cu.byt t.data.toList 2) = true) := hide (by unfold fullB; rw [if_neg hsz, if_neg (unhide hno), if_pos ⟨hm2, Or.inl hq⟩])
              go_enter Tryz.func55, Tryz.ntmps55
              go_wp2
              go_quiet (fail)
              go_wp2
              go_ret
              exact ⟨ret_bool (unhide hr).symm, below_drewN (unhide HBL) _⟩
            · by_cases hq2 : 191 < Cu.byt t.data.toList 2
              · have hr : Hid (fullB t.size 68 (Cu.byt t.data.toList 1) (Cu.byt t.data.toList 2) = true) := hide (by unfold fullB; rw [if_neg hsz, if_neg (unhide hno), if_pos ⟨hm2, Or.inr hq2⟩])
                go_enter Tryz.func55, Tryz.ntmps55
                go_wp2
                go_quiet (fail)
                go_wp2
                go_ret
                exact ⟨ret_bool (unhide hr).symm, below_drewN (unhide HBL) _⟩
              · have hr : Hid (fullB t.size 68 (Cu.byt t.data.toList 1) (Cu.byt t.data.toList 2) = false) := hide (by unfold fullB; rw [if_neg hsz, if_neg (unhide hno), if_neg (by omega)])
                go_enter Tryz.func55, Tryz.ntmps55
                go_wp2
                go_quiet (fail)
                go_wp2
                go_ret
                exact ⟨ret_bool (unhide hr).symm, below_drewN (unhide HBL) _⟩
          · have hr : Hid (fullB t.size 68 (Cu.byt t.data.toList 1) (Cu.byt t.data.toList 2) = false) := hide (by unfold fullB; rw [if_neg hsz, if_neg (unhide hno), if_neg (by omega)])
            have hm2' : ¬ (2 : Int) < (t.size : Int) := by omega
            go_enter Tryz.func55, Tryz.ntmps55
            go_wp2
            go_quiet (fail)
            go_wp2
            go_ret
            exact ⟨ret_bool (unhide hr).symm, below_drewN (unhide HBL) _⟩
    · have hr : Hid (fullB t.size 68 (Cu.byt t.data.toList 1) (Cu.byt t.data.toList 2) = false) := hide (by unfold fullB; rw [if_neg hsz, if_neg (by omega), if_neg (by omega)])
      have hm' : decide ((1 : Int) < (t.size : Int)) = false := by simp; omega
      have hm2' : ¬ (2 : Int) < (t.size : Int) := by omega
      go_enter Tryz.func55, Tryz.ntmps55
      go_wp2
      go_quiet (fail)
      go_wp2
      go_ret
      exact ⟨ret_bool (unhide hr).symm, below_drewN (unhide HBL) _⟩

set_option maxRecDepth 100000 in
set_option maxHeartbeats 1000000 in
theorem fullRune_240 (t : ByteArray) (w : World) (hT : Tabs w) (h1 : 1 ≤ t.size) (h2 : t.size ≤ 200) (hc : Lib.firstT (Cu.byt t.data.toList 0) = 240) :
    Calls Tryz.prog 55 #[.string t] w fun e w' => e = .returned (.bool (fullB t.size 240 (Cu.byt t.data.toList 1) (Cu.byt t.data.toList 2))) ∧ Below w.heap.size w w' := by
  have hz : ((t.size : Int) == 0) = false := by rw [beq_eq_false_iff_ne]; omega
  have hb0 := byt_lt t.data.toList 0
  have hbe0 := byt_eq t 0 (by omega)
  have c0 := hT.1 (Cu.byt t.data.toList 0) hb0
  rw [hc] at c0
  have hlt : (0 : Int) < (t.size : Int) := by omega
  obtain ⟨a0, a1⟩ := hT.2 15 (by omega)
  have a0' : w.cell? ⟨2, 30, none⟩ = some (.int .u8 0) := a0
  have a1' : w.cell? ⟨2, 31, none⟩ = some (.int .u8 0) := a1
  clear a0 a1 hT
  by_cases hsz : 0 ≤ t.size
  · have hr : Hid (fullB t.size 240 (Cu.byt t.data.toList 1) (Cu.byt t.data.toList 2) = true) := hide (by unfold fullB; rw [if_pos hsz])
    go_enter Tryz.func55, Tryz.ntmps55
    go_wp2
    go_ret
    exact ⟨ret_bool (unhide hr).symm, Below.refl _ _⟩
  · exfalso; omega

set_option maxRecDepth 100000 in
set_option maxHeartbeats 1000000 in
theorem fullRune_241 (t : ByteArray) (w : World) (hT : Tabs w) (h1 : 1 ≤ t.size) (h2 : t.size ≤ 200) (hc : Lib.firstT (Cu.byt t.data.toList 0) = 241) :
    Calls Tryz.prog 55 #[.string t] w fun e w' => e = .returned (.bool (fullB t.size 241 (Cu.byt t.data.toList 1) (Cu.byt t.data.toList 2))) ∧ Below w.heap.size w w' := by
  have hz : ((t.size : Int) == 0) = false := by rw [beq_eq_false_iff_ne]; omega
  have hb0 := byt_lt t.data.toList 0
  have hbe0 := byt_eq t 0 (by omega)
  have c0 := hT.1 (Cu.byt t.data.toList 0) hb0
  rw [hc] at c0
  have hlt : (0 : Int) < (t.size : Int) := by omega
  obtain ⟨a0, a1⟩ := hT.2 15 (by omega)
  have a0' : w.cell? ⟨2, 30, none⟩ = some (.int .u8 0) := a0
  have a1' : w.cell? ⟨2, 31, none⟩ = some (.int .u8 0) := a1
  clear a0 a1 hT
  by_cases hsz : 1 ≤ t.size
  · have hr : Hid (fullB t.size 241 (Cu.byt t.data.toList 1) (Cu.byt t.data.toList 2) = true) := hide (by unfold fullB; rw [if_pos hsz])
    go_enter Tryz.func55, Tryz.ntmps55
    go_wp2
    go_ret
    exact ⟨ret_bool (unhide hr).symm, Below.refl _ _⟩
  · exfalso; omega

theorem fullRune_any (t : ByteArray) (w : World) (hT : Tabs w) (h1 : 1 ≤ t.size) (h2 : t.size ≤ 200) :
    Calls Tryz.prog 55 #[.string t] w fun e w' => e = .returned (.bool (fullB t.size (Lib.firstT (Cu.byt t.data.toList 0)) (Cu.byt t.data.toList 1) (Cu.byt t.data.toList 2))) ∧ Below w.heap.size w w' := by
  rcases Lib.firstT_cases (Cu.byt t.data.toList 0) with h | h | h | h | h | h | h | h | h
  all_goals rw [h]
  · exact fullRune_240 t w hT h1 h2 h
  · exact fullRune_241 t w hT h1 h2 h
  · exact fullRune_2 t w hT h1 h2 h
  · exact fullRune_19 t w hT h1 h2 h
  · exact fullRune_3 t w hT h1 h2 h
  · exact fullRune_35 t w hT h1 h2 h
  · exact fullRune_52 t w hT h1 h2 h
  · exact fullRune_4 t w hT h1 h2 h
  · exact fullRune_68 t w hT h1 h2 h
end Go.Proofs.YtbppbejigedioabGreatDoor
