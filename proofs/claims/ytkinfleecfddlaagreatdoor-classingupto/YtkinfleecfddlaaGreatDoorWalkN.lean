/- Walks: begun. -/
import Derived.Test.YtkinfleecfddlaaGreatDoorWalkM
import Derived.Test.YtkinfleecfddlaaGreatDoorPlainB
import Derived.Lib.IndexBytes
namespace Go.Proofs.YtkinfleecfddlaaGreatDoor
open Go.RowKit

theorem take_byt (l : List UInt8) (m k : Nat) (h : k < m) : Cu.byt (l.take m) k = Cu.byt l k := by
  unfold Cu.byt
  rw [List.getD_eq_getElem?_getD, List.getD_eq_getElem?_getD, List.getElem?_take_of_lt h]
theorem drop_byt (l : List UInt8) (i k : Nat) : Cu.byt (l.drop i) k = Cu.byt l (i + k) := by
  unfold Cu.byt
  rw [List.getD_eq_getElem?_getD, List.getD_eq_getElem?_getD, List.getElem?_drop]
theorem wk_drop (l : List UInt8) (i n f lo hi k : Nat) (h : i ≤ l.length) : Cu.wk (l.drop i) 0 n f lo hi k = Cu.wk l i n f lo hi k := by
  induction f generalizing lo hi k with
  | zero => rfl
  | succ f ih =>
    rw [Cu.wk_s, Cu.wk_s, ih]
    simp only [drop_byt, List.length_drop, Nat.zero_add]
    by_cases hk : k < l.length - i
    · have : i + k < l.length := by omega
      simp [hk, this]
    · have : ¬ i + k < l.length := by omega
      simp [hk, this]
theorem well_drop (l : List UInt8) (i : Nat) (h : i ≤ l.length) : Cu.well (l.drop i) 0 = Cu.well l i := by
  unfold Cu.well
  rw [drop_byt, wk_drop _ _ _ _ _ _ _ h]
  rfl
theorem begN_drop (l : List UInt8) (i : Nat) (h : i ≤ l.length) : Cu.begN (l.drop i) 0 = Cu.begN l i := by
  unfold Cu.begN
  rw [well_drop _ _ h, drop_byt, List.length_drop]
  have e : (¬ 0 < l.length - i) = (¬ i < l.length) := propext ⟨fun h => by omega, fun h => by omega⟩
  simp only [e, Nat.add_zero]

theorem extract_list (t : ByteArray) (a b : Nat) : (t.extract a b).data.toList = (t.data.toList.take b).drop a := by
  simp [ByteArray.data_extract, Array.toList_extract, List.extract_eq_take_drop, List.drop_take]

theorem tabs_grown {w w' : World} {row : Option Nat} (h : Tabs w) (hg : w.grownBy w' row) (h1 : some 1 ≠ row) (h2 : some 2 ≠ row) : Tabs w' :=
  ⟨fun c hc => hg.cell (h.1 c hc) h1, fun i hi => ⟨hg.cell (h.2 i hi).1 h2, hg.cell (h.2 i hi).2 h2⟩⟩
theorem tabs_below {w w' : World} (h : Tabs w) (hb : Below w.heap.size w w') : Tabs w' := tabs_grown h (grown_of_below hb none) (by simp) (by simp)
theorem fullB_take (l : List UInt8) (n : Nat) : fullB (n + 1) (Lib.firstT (Cu.byt (l.take (n + 1)) 0)) (Cu.byt (l.take (n + 1)) 1) (Cu.byt (l.take (n + 1)) 2) = Cu.fullB (n + 1) (Lib.firstT (Cu.byt l 0)) (Cu.byt l 1) (Cu.byt l 2) := by
  rw [take_byt l (n + 1) 0 (by omega)]
  unfold fullB Cu.fullB
  by_cases h1 : 1 < n + 1
  · rw [take_byt l (n + 1) 1 h1]
    by_cases h2 : 2 < n + 1
    · rw [take_byt l (n + 1) 2 h2]
    · simp only [h2, false_and, if_false]
  · have h2 : ¬ 2 < n + 1 := by omega
    simp only [h1, h2, false_and, if_false]

set_option maxRecDepth 100000 in
set_option maxHeartbeats 1000000 in
theorem begun_any (t : ByteArray) (w : World) (hT : Tabs w) (ht : t.size ≤ 200) :
    Calls Tryz.prog 127 #[.string t] w fun e w' => e = .returned (.int .i64 (Cu.begN t.data.toList 0)) ∧ Below w.heap.size w w' := by
  have hbl := Cu.begN_le t.data.toList 0
  rw [len_toList] at hbl
  go_enter Tryz.func127, Tryz.ntmps127
  go_wp2
  go_loopw [3] (fun x wr => ∃ n : Nat, n ≤ Cu.begN t.data.toList 0 ∧ x = .int .i64 n ∧ Below w.heap.size w wr) (fun x _ => 201 - (intOf x).toNat)
  case atStart => exact ⟨0, by omega, rfl, Below.refl _ _⟩
  case round =>
    obtain ⟨n, hn, rfl, hbel⟩ := hrel
    by_cases hlt : n < t.size
    · have hfb : Hid (Cu.fullB (n + 1) (Lib.firstT (Cu.byt t.data.toList 0)) (Cu.byt t.data.toList 1) (Cu.byt t.data.toList 2) = decide (Cu.begN t.data.toList 0 ≤ n)) := hide (by
        have h := Cu.full_beg t.data.toList 0 n (by rw [len_toList]; omega) hn
        simpa using h)
      have hex : (t.extract 0 (n + 1)).size = n + 1 := by rw [ByteArray.size_extract]; omega
      have HEX := hide hex
      clear hex
      have hlist : Hid ((t.extract 0 (n + 1)).data.toList = t.data.toList.take (n + 1)) := hide (by rw [extract_list, List.drop_zero])
      go_wp2_with fail
      refine (fullRune_any (t.extract 0 (n + 1)) _ (tabs_below hT hbel) (by rw [unhide HEX]; omega) (by rw [unhide HEX]; omega)).mono ?_
      rintro e w1 ⟨rfl, hb1⟩
      rw [unhide HEX, unhide hlist, fullB_take, unhide hfb]
      have hbel1 := hide (hbel.trans (hb1.mono hbel.size))
      by_cases hdn : Cu.begN t.data.toList 0 ≤ n
      · have hd : decide (Cu.begN t.data.toList 0 ≤ n) = true := by simpa using hdn
        have hfin : Hid (n = Cu.begN t.data.toList 0) := hide (by omega)
        clear hdn
        go_wp2
        go_ret
        exact ⟨ret_int (by rw [← unhide hfin]), unhide hbel1⟩
      · have hd : decide (Cu.begN t.data.toList 0 ≤ n) = false := by simpa using hdn
        go_wp2
        go_roundw
        case rel => first | exact ⟨n + 1, by omega, by go_num, unhide hbel1⟩ | ((repeat apply Exists.intro); exact ⟨⟨n + 1, by omega, by go_num, unhide hbel1⟩, rfl⟩)
        case measure => simp [intOf]; omega
    · have hfin : Hid (n = Cu.begN t.data.toList 0) := hide (by
        by_cases h0 : 0 < t.size
        · have := hbl.2 h0; omega
        · have h1 : Cu.begN t.data.toList 0 = 0 := by unfold Cu.begN; rw [if_pos (by rw [len_toList]; exact h0)]
          omega)
      go_wp2
      go_ret
      exact ⟨ret_int (by rw [← unhide hfin]), hbel⟩
end Go.Proofs.YtkinfleecfddlaaGreatDoor
