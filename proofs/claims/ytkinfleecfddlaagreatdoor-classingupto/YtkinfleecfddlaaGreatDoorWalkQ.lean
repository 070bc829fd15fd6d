/- Walks: the program's item. -/
import Derived.Test.YtkinfleecfddlaaGreatDoorWalkP
namespace Go.Proofs.YtkinfleecfddlaaGreatDoor
open Go.RowKit

def dashB : ByteArray := ⟨#[45]⟩
theorem dash_all : ∀ n : Fin 256, decide (0 ≤ Lib.indexByte dashB.data.toList (UInt8.ofNat n.val)) = (n.val == 45) := by decide +kernel
theorem dash_tk (s : List UInt8) (i : Nat) : Cu.dash s i = decide (0 ≤ Cu.tk s dashB.data.toList i) := by
  unfold Cu.dash
  by_cases h : i < s.length
  · rw [Cu.tk_at h]; simp only [h, decide_true, Bool.true_and]; exact (dash_all ⟨Cu.byt s i, Cu.byt_lt' s i⟩).symm
  · rw [Cu.tk_end h]; simp [h]
theorem Rd.tabs {w w' : World} {R j : Nat} {s : ByteArray} (h : Rd w w' R s j) (hT : Tabs w) (hR : 2 < R) : Tabs w' := tabs_grown hT h.grown (by simp; omega) (by simp; omega)
theorem Blk.four {w : World} {b : Nat} {c0 c1 c2 c3 : Value} {t : TypeId} (h : Blk w b [c0, c1, c2, c3] t) :
    w.cell? ⟨b, 0, none⟩ = some c0 ∧ w.cell? ⟨b, 1, none⟩ = some c1 ∧ w.cell? ⟨b, 2, none⟩ = some c2 ∧ w.cell? ⟨b, 3, none⟩ = some c3 ∧ (∀ j, w.frozen? ⟨b, j, none⟩ = false) :=
  ⟨h.cell 0, h.cell 1, h.cell 2, h.cell 3, h.free⟩

theorem Rd.set4 {w w' : World} {R j b : Nat} {s : ByteArray} (h : Rd w w' R s j) (hb : w.heap.size ≤ b) (hne : b ≠ R) (x0 x1 x2 x3 : Value) :
    Rd w ((((w'.setCell ⟨b, 0, none⟩ x0).setCell ⟨b, 1, none⟩ x1).setCell ⟨b, 2, none⟩ x2).setCell ⟨b, 3, none⟩ x3) R s j :=
  (((h.setNew hb hne x0).setNew hb hne x1).setNew hb hne x2).setNew hb hne x3

set_option maxRecDepth 100000 in
set_option maxHeartbeats 1000000 in
theorem item_no1 (s : ByteArray) (i R : Nat) (k : Int) (w : World) (hs : s.size ≤ 200) (hi : i ≤ s.size) (hR : RdBlk w R s i) (hT : Tabs w) (hok : Cu.itemOk s.data.toList i = false) :
    Calls Tryz.prog 111 #[.pointer (some ⟨R, 0, none⟩), .int .i64 k] w fun e w' =>
      e = .returned (.tuple #[.agg #[.int .i32 0, .int .i32 0, .int .i64 0, .int .i64 0], faultV (Cu.itemEnd s.data.toList i)]) ∧ Rd w w' R s (Cu.itemEnd s.data.toList i) := by
  have hRlt := hR.lt
  obtain ⟨c0, c1, c2⟩ := hR.two
  have hne : R ≠ w.heap.size := by omega
  go_enter Tryz.func111, Tryz.ntmps111
  go_wp2_with fail
  refine (char_no s i R _ hs hi (hR.alloc _) (tabs_below hT ((Below.refl _ _).alloc (Nat.le_refl _) _)) hok).mono ?_
  rintro e w1 ⟨rfl, hr1⟩
  have hX := hr1.other (Blk.new w [.int .i32 0, .int .i32 0, .int .i64 0, .int .i64 0] 85) (by omega)
  obtain ⟨x0, x1, x2, x3, x4⟩ := hX.four
  have hXlt := hX.lt
  have HR := hide (hr1.of_alloc hRlt)
  unfold faultV
  go_wp2
  exact bodyPost_ret (v := .tuple #[.agg #[.int .i32 0, .int .i32 0, .int .i64 0, .int .i64 0], faultV (Cu.itemEnd s.data.toList i)]) (by simp [results, Tryz.results111, go_sem, faultV, *]) rfl ⟨rfl, (unhide HR).set4 (Nat.le_refl _) (by omega) _ _ _ _⟩

set_option maxRecDepth 100000 in
set_option maxHeartbeats 1000000 in
theorem item_yes (s : ByteArray) (i R : Nat) (k : Int) (w : World) (hs : s.size ≤ 200) (hi : i ≤ s.size) (hR : RdBlk w R s i) (hT : Tabs w) (hR2 : 2 < R) (hok : Cu.itemOk s.data.toList i = true) :
    Calls Tryz.prog 111 #[.pointer (some ⟨R, 0, none⟩), .int .i64 k] w fun e w' =>
      (Cu.dash s.data.toList (Cu.itemEnd s.data.toList i) = false ∧ e = .returned (.tuple #[.agg #[.int .i32 (Cu.itemCode s.data.toList i), .int .i32 (Cu.itemCode s.data.toList i), .int .i64 k, .int .i64 i], .nilIface]) ∧ Rd w w' R s (Cu.itemEnd s.data.toList i)) ∨
      (Cu.dash s.data.toList (Cu.itemEnd s.data.toList i) = true ∧ Cu.itemOk s.data.toList (Cu.itemEnd s.data.toList i + 1) = false ∧ e = .returned (.tuple #[.agg #[.int .i32 0, .int .i32 0, .int .i64 0, .int .i64 0], faultV (Cu.itemEnd s.data.toList (Cu.itemEnd s.data.toList i + 1))]) ∧ Rd w w' R s (Cu.itemEnd s.data.toList (Cu.itemEnd s.data.toList i + 1))) ∨
      (Cu.dash s.data.toList (Cu.itemEnd s.data.toList i) = true ∧ Cu.itemOk s.data.toList (Cu.itemEnd s.data.toList i + 1) = true ∧ e = .returned (.tuple #[.agg #[.int .i32 (Cu.itemCode s.data.toList i), .int .i32 (Cu.itemCode s.data.toList (Cu.itemEnd s.data.toList i + 1)), .int .i64 k, .int .i64 i], .nilIface]) ∧ Rd w w' R s (Cu.itemEnd s.data.toList (Cu.itemEnd s.data.toList i + 1))) := by
  have hRlt := hR.lt
  obtain ⟨c0, c1, c2⟩ := hR.two
  have hne : R ≠ w.heap.size := by omega
  have hie := Cu.itemEnd_le s.data.toList i (by rw [len_toList]; exact hi)
  rw [len_toList] at hie
  have hTa := hide (tabs_below hT ((Below.refl w.heap.size w).alloc (Nat.le_refl _) (.cells #[.int .i32 0, .int .i32 0, .int .i64 0, .int .i64 0] 85)))
  go_enter Tryz.func111, Tryz.ntmps111
  go_wp2_with fail
  refine (char_ok s i R _ hs hi (hR.alloc _) (unhide hTa) hok).mono ?_
  rintro e w1 ⟨rfl, hr1⟩
  have hX := hr1.other (Blk.new w [.int .i32 0, .int .i32 0, .int .i64 0, .int .i64 0] 85) (by omega)
  have hT1 := hide (hr1.tabs (unhide hTa) hR2)
  have HR := hide (hr1.of_alloc hRlt)
  clear c0 c1 c2
  go_wp2_with fail
  refine (take_any s dashB (Cu.itemEnd s.data.toList i) R _ hs hie.2 hr1.blk).mono ?_
  rintro e w2 ⟨rfl, hr2⟩
  have hX2 := hr2.other hX (by omega)
  have hT2 := hide (hr2.tabs (unhide hT1) hR2)
  have HR2 := hide ((unhide HR).trans hr2)
  cases hda : Cu.dash s.data.toList (Cu.itemEnd s.data.toList i) with
  | false =>
    have hd : ¬ 0 ≤ Cu.tk s.data.toList dashB.data.toList (Cu.itemEnd s.data.toList i) := by have h := dash_tk s.data.toList (Cu.itemEnd s.data.toList i); rw [hda] at h; simpa using h.symm
    have hend := hide (Cu.tk_no hd)
    obtain ⟨x0, x1, x2, x3, x4⟩ := hX2.four
    have hXlt := hX2.lt
    have HDA := hide hda
    clear hr1 hr2 hX hda
    go_wp2
    exact bodyPost_ret (v := .tuple #[.agg #[.int .i32 (Cu.itemCode s.data.toList i), .int .i32 (Cu.itemCode s.data.toList i), .int .i64 k, .int .i64 i], .nilIface]) (by simp [results, Tryz.results111, go_sem, *]) rfl (Or.inl ⟨unhide HDA, rfl, by have h := (unhide HR2).set4 (Nat.le_refl _) (fun e => hne e.symm) (.int .i32 (Cu.itemCode s.data.toList i)) (.int .i32 (Cu.itemCode s.data.toList i)) (.int .i64 k) (.int .i64 i); rw [unhide hend] at h; exact h⟩)
  | true =>
    have hd : 0 ≤ Cu.tk s.data.toList dashB.data.toList (Cu.itemEnd s.data.toList i) := by have h := dash_tk s.data.toList (Cu.itemEnd s.data.toList i); rw [hda] at h; simpa using h.symm
    have hend : Cu.tkEnd s.data.toList dashB.data.toList (Cu.itemEnd s.data.toList i) = Cu.itemEnd s.data.toList i + 1 := by unfold Cu.tkEnd; rw [if_pos hd]
    have hjl := ((Cu.tk_ge s.data.toList dashB.data.toList (Cu.itemEnd s.data.toList i)).2 hd).1
    rw [len_toList] at hjl
    rw [hend] at hr2 HR2
    have HDA := hide hda
    clear hda hend
    go_wp2_with fail
    cases hok2 : Cu.itemOk s.data.toList (Cu.itemEnd s.data.toList i + 1) with
    | false =>
      refine (char_no s (Cu.itemEnd s.data.toList i + 1) R _ hs (by omega) hr2.blk (unhide hT2) hok2).mono ?_
      rintro e w3 ⟨rfl, hr3⟩
      have hX3 := hr3.other hX2 (by omega)
      obtain ⟨x0, x1, x2, x3, x4⟩ := hX3.four
      have hXlt := hX3.lt
      have HR3 := hide ((unhide HR2).trans hr3)
      have HOK := hide hok2
      clear hr1 hr2 hr3 hX hX2 hok2
      unfold faultV
      go_wp2
      exact bodyPost_ret (v := .tuple #[.agg #[.int .i32 0, .int .i32 0, .int .i64 0, .int .i64 0], faultV (Cu.itemEnd s.data.toList (Cu.itemEnd s.data.toList i + 1))]) (by simp [results, Tryz.results111, go_sem, faultV, *]) rfl (Or.inr (Or.inl ⟨unhide HDA, unhide HOK, rfl, (unhide HR3).set4 (Nat.le_refl _) (fun e => hne e.symm) _ _ _ _⟩))
    | true =>
      refine (char_ok s (Cu.itemEnd s.data.toList i + 1) R _ hs (by omega) hr2.blk (unhide hT2) hok2).mono ?_
      rintro e w3 ⟨rfl, hr3⟩
      have hX3 := hr3.other hX2 (by omega)
      obtain ⟨x0, x1, x2, x3, x4⟩ := hX3.four
      have hXlt := hX3.lt
      have HR3 := hide ((unhide HR2).trans hr3)
      have HOK := hide hok2
      clear hr1 hr2 hr3 hX hX2 hok2
      go_wp2
      exact bodyPost_ret (v := .tuple #[.agg #[.int .i32 (Cu.itemCode s.data.toList i), .int .i32 (Cu.itemCode s.data.toList (Cu.itemEnd s.data.toList i + 1)), .int .i64 k, .int .i64 i], .nilIface]) (by simp [results, Tryz.results111, go_sem, *]) rfl (Or.inr (Or.inr ⟨unhide HDA, unhide HOK, rfl, (unhide HR3).set4 (Nat.le_refl _) (fun e => hne e.symm) _ _ _ _⟩))
end Go.Proofs.YtkinfleecfddlaaGreatDoor
