/- Walks: the program's character. -/
import Derived.Test.YtbppbejigedioabGreatDoorRdC
import Derived.Deep.RegionWith
namespace Go.Proofs.YtbppbejigedioabGreatDoor
open Go.RowKit

theorem get!_byt (t : ByteArray) (k : Nat) : (t.get! k).toNat = Cu.byt t.data.toList k := by
  unfold Cu.byt
  by_cases h : k < t.size
  · have e : t.get! k = t[k] := by
      cases t with
      | mk d => exact getElem!_pos d k h
    rw [e]; exact byt_eq t k h
  · rw [List.getD_eq_getElem?_getD, List.getElem?_eq_none (by rw [len_toList]; omega)]
    cases t with
    | mk d =>
      have : (ByteArray.mk d).get! k = default := getElem!_neg d k h
      rw [this]; rfl
theorem decGo (s : ByteArray) (i : Nat) (hi : i ≤ s.size) : Lib.decodeGo (s.extract i s.size) = if i < s.size then Cu.dec s.data.toList i else (65533, 0) := by
  have hsz : (s.extract i s.size).size = s.size - i := by rw [ByteArray.size_extract]; omega
  unfold Lib.decodeGo
  rw [hsz]
  by_cases h : i < s.size
  · rw [if_neg (by omega), if_pos h, Lib.decode_at, hsz]
    simp only [get!_byt, Lib.extract_to_end, drop_byt]
    unfold Cu.dec
    rw [len_toList]
    simp
  · rw [if_pos (by omega), if_neg h]

def strayB (c n : Int) : Bool := decide (c = 65533 ∧ n ≤ 1)

set_option maxRecDepth 100000 in
set_option maxHeartbeats 400000 in
theorem isStray_any (c n : Int) (w : World) (_h1 : 0 ≤ c) (_h2 : c ≤ 1114111) (_h3 : 0 ≤ n) (_h4 : n ≤ 4) :
    Calls Tryz.prog 132 #[.int .i32 c, .int .i64 n] w fun e w' => e = .returned (.bool (strayB c n)) ∧ w = w' := by
  go_enter Tryz.func132, Tryz.ntmps132
  go_wp2
  all_goals go_ret
  all_goals exact ⟨ret_bool (by unfold strayB; rw [Bool.eq_iff_iff]; simp_all), rfl⟩

theorem bar_all : ∀ n : Fin 256, decide (0 ≤ Lib.indexByte barB.data.toList (UInt8.ofNat n.val)) = Cu.barred n.val := by decide +kernel

theorem decodeN_valid (n b0 b1 b2 b3 : Nat) (h : 2 ≤ (Lib.decodeN n b0 b1 b2 b3).2) : 128 ≤ (Lib.decodeN n b0 b1 b2 b3).1 ∧ ((Lib.decodeN n b0 b1 b2 b3).1 < 55296 ∨ (57344 ≤ (Lib.decodeN n b0 b1 b2 b3).1 ∧ (Lib.decodeN n b0 b1 b2 b3).1 ≤ 1114111)) := by
  unfold Lib.decodeN at h ⊢
  repeat' split at h
  all_goals simp only at h
  all_goals first | omega | skip
  all_goals (repeat' split)
  all_goals simp_all
  all_goals omega

/-- What is at i: no character of an item for its being stray, or barred; or one. -/
theorem char_cases (s : ByteArray) (i : Nat) (hi : i ≤ s.size) :
    (Cu.itemOk s.data.toList i = false ∧ (Lib.decodeGo (s.extract i s.size)).1 = 65533 ∧ (Lib.decodeGo (s.extract i s.size)).2 ≤ 1) ∨
    (Cu.itemOk s.data.toList i = false ∧ (Lib.decodeGo (s.extract i s.size)).1 < 128 ∧ (Lib.decodeGo (s.extract i s.size)).2 = 1 ∧ Cu.barred (Lib.decodeGo (s.extract i s.size)).1 = true) ∨
    (Cu.itemOk s.data.toList i = true ∧ Lib.decodeGo (s.extract i s.size) = (Cu.itemCode s.data.toList i, Cu.itemEnd s.data.toList i - i) ∧ Cu.itemCode s.data.toList i < 128 ∧ Cu.barred (Cu.itemCode s.data.toList i) = false) ∨
    (Cu.itemOk s.data.toList i = true ∧ Lib.decodeGo (s.extract i s.size) = (Cu.itemCode s.data.toList i, Cu.itemEnd s.data.toList i - i) ∧ 128 ≤ Cu.itemCode s.data.toList i ∧ 2 ≤ Cu.itemEnd s.data.toList i - i ∧ Lib.validRune (Cu.itemCode s.data.toList i) = true) := by
  have hlen := len_toList s
  by_cases hlt : i < s.size
  · have hd := Cu.dec_well s.data.toList i (by omega)
    have hg := decGo s i hi
    rw [if_pos hlt] at hg
    rw [hg]
    have hw := Cu.well_le s.data.toList i
    have hwd : (Cu.well s.data.toList i).2 = (Cu.needs (Cu.byt s.data.toList i)).1 := by
      unfold Cu.well; split
      · rename_i h0; exact h0.symm
      · rfl
    by_cases hf : (Cu.well s.data.toList i).2 ≠ 0 ∧ (Cu.well s.data.toList i).1 = (Cu.well s.data.toList i).2
    · rw [if_pos hf] at hd
      have hok : Cu.itemOk s.data.toList i = !Cu.barred (Cu.byt s.data.toList i) := by
        unfold Cu.itemOk
        have h2 : (Cu.well s.data.toList i).2 ≤ (Cu.well s.data.toList i).1 := by omega
        simp [hlt, hf.1, h2]
      by_cases h1 : (Cu.well s.data.toList i).2 = 1
      · have hb : Cu.byt s.data.toList i < 128 := by
          have h2 : (Cu.needs (Cu.byt s.data.toList i)).1 = 1 := by omega
          apply Decidable.byContradiction
          intro hn
          rcases Cu.entry (Cu.byt s.data.toList i) (Cu.byt_lt' _ _) with ⟨e1, _⟩ | ⟨_, e2⟩ | ⟨_, e2, _⟩
          · omega
          · unfold Lib.firstT at e2
            rw [if_neg hn] at e2
            repeat' split at e2
            all_goals omega
          · omega
        rw [h1] at hd
        have hc : Cu.code s.data.toList i 1 = Cu.byt s.data.toList i := rfl
        cases hbar : Cu.barred (Cu.byt s.data.toList i) with
        | true =>
          right; left
          rw [hd, hc]
          exact ⟨by rw [hok, hbar]; rfl, hb, rfl, hbar⟩
        | false =>
          right; right; left
          have hok2 : Cu.itemOk s.data.toList i = true := by rw [hok, hbar]; rfl
          have e1 : Cu.itemCode s.data.toList i = Cu.byt s.data.toList i := by unfold Cu.itemCode; rw [if_pos hok2, h1]; rfl
          have e2 : Cu.itemEnd s.data.toList i = i + 1 := by unfold Cu.itemEnd; rw [if_pos ⟨by omega, hbar⟩, hf.2, h1]
          rw [hd, hc, e1, e2]
          exact ⟨hok2, by rw [Nat.add_sub_cancel_left], hb, hbar⟩
      · have h2 : 2 ≤ (Cu.well s.data.toList i).2 := by omega
        have hb : 128 ≤ Cu.byt s.data.toList i := by
          apply Decidable.byContradiction
          intro hn
          have := Cu.needs_a (c := Cu.byt s.data.toList i) (by omega)
          rw [this] at hwd
          omega
        have hbar : Cu.barred (Cu.byt s.data.toList i) = false := by unfold Cu.barred; simp; omega
        have hok2 : Cu.itemOk s.data.toList i = true := by rw [hok, hbar]; rfl
        have e1 : Cu.itemCode s.data.toList i = Cu.code s.data.toList i (Cu.well s.data.toList i).2 := by unfold Cu.itemCode; rw [if_pos hok2]
        have e2 : Cu.itemEnd s.data.toList i = i + (Cu.well s.data.toList i).2 := by unfold Cu.itemEnd; rw [if_pos ⟨by omega, hbar⟩, hf.2]
        have hv := decodeN_valid (s.data.toList.length - i) (Cu.byt s.data.toList i) (Cu.byt s.data.toList (i + 1)) (Cu.byt s.data.toList (i + 2)) (Cu.byt s.data.toList (i + 3)) (by show 2 ≤ (Cu.dec s.data.toList i).2; rw [hd]; exact h2)
        have hv' : 128 ≤ (Cu.dec s.data.toList i).1 ∧ ((Cu.dec s.data.toList i).1 < 55296 ∨ (57344 ≤ (Cu.dec s.data.toList i).1 ∧ (Cu.dec s.data.toList i).1 ≤ 1114111)) := hv
        rw [hd] at hv'
        simp only at hv'
        right; right; right
        rw [hd, e1, e2]
        refine ⟨hok2, by rw [Nat.add_sub_cancel_left], hv'.1, by omega, ?_⟩
        unfold Lib.validRune
        simp only [decide_eq_true_eq]
        omega
    · rw [if_neg hf] at hd
      left
      rw [hd]
      refine ⟨?_, rfl, Nat.le_refl _⟩
      unfold Cu.itemOk
      by_cases h0 : (Cu.well s.data.toList i).2 = 0
      · simp [h0]
      · have h2 : ¬ (Cu.well s.data.toList i).2 ≤ (Cu.well s.data.toList i).1 := by omega
        simp [h2]
  · left
    rw [decGo s i hi, if_neg hlt]
    refine ⟨?_, rfl, Nat.zero_le _⟩
    unfold Cu.itemOk
    simp [hlt]

theorem Rd.move {w w1 : World} {R : Nat} {s : ByteArray} {i : Nat} (h : Rd w w1 R s i) (j : Nat) (v : Int) (hv : v = j) : Rd w (w1.setCell ⟨R, 1, none⟩ (.int .i64 v)) R s j := by
  subst hv
  exact ⟨grown_setCell h.grown _, h.blk.setSame 1 _⟩
theorem Rd.below {w w1 w2 : World} {R : Nat} {s : ByteArray} {i : Nat} (h : Rd w w1 R s i) (hb : Below w1.heap.size w1 w2) : Rd w w2 R s i := ⟨grown_below h.grown hb, h.blk.below hb h.blk.lt⟩

set_option maxRecDepth 100000 in
set_option maxHeartbeats 1000000 in
theorem char_ok (s : ByteArray) (i R : Nat) (w : World) (hs : s.size ≤ 200) (hi : i ≤ s.size) (hR : RdBlk w R s i) (hT : Tabs w) (hok : Cu.itemOk s.data.toList i = true) :
    Calls Tryz.prog 160 #[.pointer (some ⟨R, 0, none⟩)] w fun e w' => e = .returned (.tuple #[.int .i32 (Cu.itemCode s.data.toList i), .nilIface]) ∧ Rd w w' R s (Cu.itemEnd s.data.toList i) := by
  have hie := Cu.itemEnd_le s.data.toList i (by rw [len_toList]; exact hi)
  rw [len_toList] at hie
  have hRlt := hR.lt
  obtain ⟨c0, c1, c2⟩ := hR.two
  have hi' : (i : Int) ≤ (s.size : Int) := by omega
  have hcl : Cu.itemCode s.data.toList i ≤ 1114111 := by
    rcases char_cases s i hi with ⟨h, _⟩ | ⟨h, _⟩ | ⟨_, _, h, _⟩ | ⟨_, _, _, _, h⟩
    · rw [hok] at h; cases h
    · rw [hok] at h; cases h
    · omega
    · unfold Lib.validRune at h; simp only [decide_eq_true_eq] at h; omega
  go_enter Tryz.func160, Tryz.ntmps160
  go_wp2
  go_quiet (fail)
  go_wp2_with fail
  refine (Tryz.utf8_DecodeRuneInString (s.extract i s.size) (w.drewN nq) (tabs_grown hT (grown_drewN w nq none) (by simp) (by simp))).mono ?_
  rintro e w1 ⟨rfl, hb1⟩
  have hR1 := (hR.drewN nq).below hb1 hRlt
  obtain ⟨d0, d1, d2⟩ := hR1.two
  have hrd := hide (show Rd w w1 R s i from ⟨grown_trans (grown_drewN w nq _) (grown_of_below hb1 _), hR1⟩)
  have hadd : Hid (((i : Int) + ((Cu.itemEnd s.data.toList i - i : Nat) : Int)) = (Cu.itemEnd s.data.toList i : Int)) := hide (by omega)
  rcases char_cases s i hi with ⟨h, _⟩ | ⟨h, _⟩ | ⟨_, e1, h2, h3⟩ | ⟨_, e1, h2, h3, h4⟩
  · rw [hok] at h; cases h
  · rw [hok] at h; cases h
  · have hst : Hid (strayB ((Cu.itemCode s.data.toList i : Nat) : Int) ((Cu.itemEnd s.data.toList i - i : Nat) : Int) = false) := hide (by unfold strayB; simp; omega)
    have hcon : Hid (∀ wx : World, Calls Tryz.prog 179 #[.string barB, .int .i32 (Cu.itemCode s.data.toList i)] wx fun e w' => e = .returned (.bool false) ∧ w' = wx) := hide (fun wx => by
      have h := Tryz.strings_ContainsRune_ascii barB (Cu.itemCode s.data.toList i) wx (by omega) (by omega)
      have e2 : ((Cu.itemCode s.data.toList i : Nat) : Int).toNat.toUInt8 = UInt8.ofNat (Cu.itemCode s.data.toList i) := by simp
      have e3 : decide (0 ≤ Lib.indexByte barB.data.toList (UInt8.ofNat (Cu.itemCode s.data.toList i))) = Cu.barred (Cu.itemCode s.data.toList i) := bar_all ⟨Cu.itemCode s.data.toList i, by omega⟩
      rw [e2, e3, h3] at h
      exact h)
    have hwid : Cu.itemEnd s.data.toList i - i ≤ 4 := by
      have h := Cu.well_le s.data.toList i
      unfold Cu.itemEnd
      split <;> omega
    rw [e1]
    simp only
    clear e1 c0 c1 c2
    go_wp2_with fail
    refine (isStray_any _ _ _ (by omega) (by omega) (by omega) (by omega)).mono ?_
    rintro e w2 ⟨rfl, rfl⟩
    rw [unhide hst]
    go_wp2_with fail
    refine (unhide hcon _).mono ?_
    rintro e w2 ⟨rfl, hw2⟩
    obtain rfl := hw2.symm
    go_wp2
    go_ret2
    exact ⟨rfl, (unhide hrd).move _ _ (unhide hadd)⟩
  · have hst : Hid (strayB ((Cu.itemCode s.data.toList i : Nat) : Int) ((Cu.itemEnd s.data.toList i - i : Nat) : Int) = false) := hide (by unfold strayB; simp; omega)
    have hwid : Cu.itemEnd s.data.toList i - i ≤ 4 := by
      have h := Cu.well_le s.data.toList i
      unfold Cu.itemEnd
      split <;> omega
    have H4 := hide h4
    rw [e1]
    simp only
    clear e1 c0 c1 c2 h4
    go_wp2_with fail
    refine (isStray_any _ _ _ (by omega) (by omega) (by omega) (by omega)).mono ?_
    rintro e w2 ⟨rfl, rfl⟩
    rw [unhide hst]
    go_wp2_with fail
    refine (contains_big _ _ (by omega) (by omega) (unhide H4)).mono ?_
    rintro e w2 ⟨rfl, hb2⟩
    have hrd2 := hide ((unhide hrd).below hb2)
    clear d0 d1 d2
    obtain ⟨d0, d1, d2⟩ := (unhide hrd2).blk.two
    go_wp2
    go_ret2
    exact ⟨rfl, (unhide hrd2).move _ _ (unhide hadd)⟩

set_option maxRecDepth 100000 in
set_option maxHeartbeats 1000000 in
theorem char_no (s : ByteArray) (i R : Nat) (w : World) (hs : s.size ≤ 200) (hi : i ≤ s.size) (hR : RdBlk w R s i) (hT : Tabs w) (hok : Cu.itemOk s.data.toList i = false) :
    Calls Tryz.prog 160 #[.pointer (some ⟨R, 0, none⟩)] w fun e w' => e = .returned (.tuple #[.int .i32 0, faultV (Cu.itemEnd s.data.toList i)]) ∧ Rd w w' R s (Cu.itemEnd s.data.toList i) := by
  have hie := Cu.itemEnd_le s.data.toList i (by rw [len_toList]; exact hi)
  rw [len_toList] at hie
  have hRlt := hR.lt
  obtain ⟨c0, c1, c2⟩ := hR.two
  have hi' : (i : Int) ≤ (s.size : Int) := by omega
  have hbl := Cu.begN_le s.data.toList i
  have hbeg : Hid (Cu.begN (s.extract i s.size).data.toList 0 = Cu.begN s.data.toList i) := hide (by rw [Lib.extract_to_end, begN_drop _ _ (by rw [len_toList]; exact hi)])
  have hadd : Hid (((i : Int) + ((Cu.begN s.data.toList i : Nat) : Int)) = (Cu.itemEnd s.data.toList i : Int)) := hide (by have := Cu.begN_bad hok; omega)
  have hesz : Hid ((s.extract i s.size).size ≤ 200) := hide (by rw [ByteArray.size_extract]; omega)
  go_enter Tryz.func160, Tryz.ntmps160
  go_wp2
  go_quiet (fail)
  go_wp2_with fail
  refine (Tryz.utf8_DecodeRuneInString (s.extract i s.size) (w.drewN nq) (tabs_grown hT (grown_drewN w nq none) (by simp) (by simp))).mono ?_
  rintro e w1 ⟨rfl, hb1⟩
  have hR1 := (hR.drewN nq).below hb1 hRlt
  have hT1 := hide (tabs_grown hT (grown_trans (grown_drewN w nq none) (grown_of_below hb1 none)) (by simp) (by simp))
  obtain ⟨d0, d1, d2⟩ := hR1.two
  have hrd := hide (show Rd w w1 R s i from ⟨grown_trans (grown_drewN w nq _) (grown_of_below hb1 _), hR1⟩)
  clear c0 c1 c2
  rcases char_cases s i hi with ⟨_, e1, e2⟩ | ⟨_, e1, e2, e3⟩ | ⟨h, _⟩ | ⟨h, _⟩
  · generalize Lib.decodeGo (s.extract i s.size) = dg at *
    obtain ⟨dc, dn⟩ := dg
    simp only at e1 e2
    subst e1
    refine Hid.out ?_
    simp only
    refine hide ?_
    have hst : Hid (strayB 65533 ((dn : Nat) : Int) = true) := hide (by unfold strayB; simp; omega)
    go_wp2_with fail
    refine (isStray_any _ _ _ (by omega) (by omega) (by omega) (by omega)).mono ?_
    rintro e w2 ⟨rfl, rfl⟩
    rw [unhide hst]
    go_wp2
    go_region_with (go_at_call 180; refine (begun_any (s.extract i s.size) _ (by exact unhide hT1) (unhide hesz)).mono ?_; rintro e w3 ⟨rfl, hb3⟩; rw [unhide hbeg]; have hrd3 := (unhide hrd).below (((Below.refl _ w1).drew).trans hb3); obtain ⟨x0, x1, x2⟩ := hrd3.blk.two)
    all_goals
      have hrd4 := hide (hrd3.move _ _ (unhide hadd))
      go_wp2_with fail
      refine (fault_any s (Cu.itemEnd s.data.toList i) R _ (unhide hrd4).blk).mono ?_
      rintro e w5 ⟨rfl, rfl⟩
      go_wp2
      go_ret2
      exact ⟨rfl, unhide hrd4⟩
  · generalize Lib.decodeGo (s.extract i s.size) = dg at *
    obtain ⟨dc, dn⟩ := dg
    simp only at e1 e2 e3
    subst e2
    refine Hid.out ?_
    simp only
    refine hide ?_
    have hst : Hid (strayB ((dc : Nat) : Int) 1 = false) := hide (by unfold strayB; simp; omega)
    have hcon : Hid (∀ wx : World, Calls Tryz.prog 179 #[.string barB, .int .i32 dc] wx fun e w' => e = .returned (.bool true) ∧ w' = wx) := hide (fun wx => by
      have h := Tryz.strings_ContainsRune_ascii barB dc wx (by omega) (by omega)
      have f2 : ((dc : Nat) : Int).toNat.toUInt8 = UInt8.ofNat dc := by simp
      have f3 : decide (0 ≤ Lib.indexByte barB.data.toList (UInt8.ofNat dc)) = Cu.barred dc := bar_all ⟨dc, by omega⟩
      rw [f2, f3, e3] at h
      exact h)
    clear e3
    go_wp2_with fail
    refine (isStray_any _ _ _ (by omega) (by omega) (by omega) (by omega)).mono ?_
    rintro e w2 ⟨rfl, rfl⟩
    rw [unhide hst]
    go_wp2_with fail
    refine (unhide hcon _).mono ?_
    rintro e w2 ⟨rfl, hw2⟩
    obtain rfl := hw2.symm
    go_wp2
    go_region_with (go_at_call 180; refine (begun_any (s.extract i s.size) _ (by exact unhide hT1) (unhide hesz)).mono ?_; rintro e w3 ⟨rfl, hb3⟩; rw [unhide hbeg]; have hrd3 := (unhide hrd).below (((Below.refl _ w1).drew).trans hb3); obtain ⟨x0, x1, x2⟩ := hrd3.blk.two)
    all_goals
      have hrd4 := hide (hrd3.move _ _ (unhide hadd))
      go_wp2_with fail
      refine (fault_any s (Cu.itemEnd s.data.toList i) R _ (unhide hrd4).blk).mono ?_
      rintro e w5 ⟨rfl, rfl⟩
      go_wp2
      go_ret2
      exact ⟨rfl, unhide hrd4⟩
  · rw [hok] at h; cases h
  · rw [hok] at h; cases h
end Go.Proofs.YtbppbejigedioabGreatDoor
/- Walks: the program's item. -/
namespace Go.Proofs.YtbppbejigedioabGreatDoor
open Go.RowKit

def dashB : ByteArray := ⟨#[45]⟩
theorem dash_all : ∀ n : Fin 256, decide (0 ≤ Lib.indexByte dashB.data.toList (UInt8.ofNat n.val)) = (n.val == 45) := by decide +kernel
theorem dash_tk (s : List UInt8) (i : Nat) : Cu.dash s i = decide (0 ≤ Cu.tk s dashB.data.toList i) := by
  unfold Cu.dash
  by_cases h : i < s.length
  · rw [Cu.tk_at h]; simp only [h, decide_true, Bool.true_and]; exact (dash_all ⟨Cu.byt s i, Cu.byt_lt' s i⟩).symm
  · rw [Cu.tk_end h]; simp [h]
theorem Rd.tabs {w w' : World} {R j : Nat} {s : ByteArray} (h : Rd w w' R s j) (hT : Tabs w) (hR : 4 < R) : Tabs w' := tabs_grown hT h.grown (by simp; omega) (by simp; omega)
theorem Blk.four {w : World} {b : Nat} {c0 c1 c2 c3 : Value} {t : TypeId} (h : Blk w b [c0, c1, c2, c3] t) :
    w.cell? ⟨b, 0, none⟩ = some c0 ∧ w.cell? ⟨b, 1, none⟩ = some c1 ∧ w.cell? ⟨b, 2, none⟩ = some c2 ∧ w.cell? ⟨b, 3, none⟩ = some c3 ∧ (∀ j, w.frozen? ⟨b, j, none⟩ = false) :=
  ⟨h.cell 0, h.cell 1, h.cell 2, h.cell 3, h.free⟩

theorem Rd.set4 {w w' : World} {R j b : Nat} {s : ByteArray} (h : Rd w w' R s j) (hb : w.heap.size ≤ b) (hne : b ≠ R) (x0 x1 x2 x3 : Value) :
    Rd w ((((w'.setCell ⟨b, 0, none⟩ x0).setCell ⟨b, 1, none⟩ x1).setCell ⟨b, 2, none⟩ x2).setCell ⟨b, 3, none⟩ x3) R s j :=
  (((h.setNew hb hne x0).setNew hb hne x1).setNew hb hne x2).setNew hb hne x3

set_option maxRecDepth 100000 in
set_option maxHeartbeats 1000000 in
theorem item_no1 (s : ByteArray) (i R : Nat) (k : Int) (w : World) (hs : s.size ≤ 200) (hi : i ≤ s.size) (hR : RdBlk w R s i) (hT : Tabs w) (hok : Cu.itemOk s.data.toList i = false) :
    Calls Tryz.prog 143 #[.pointer (some ⟨R, 0, none⟩), .int .i64 k] w fun e w' =>
      e = .returned (.tuple #[.agg #[.int .i32 0, .int .i32 0, .int .i64 0, .int .i64 0], faultV (Cu.itemEnd s.data.toList i)]) ∧ Rd w w' R s (Cu.itemEnd s.data.toList i) := by
  have hRlt := hR.lt
  obtain ⟨c0, c1, c2⟩ := hR.two
  have hne : R ≠ w.heap.size := by omega
  go_enter Tryz.func143, Tryz.ntmps143
  go_wp2_with fail
  refine (char_no s i R _ hs hi (hR.alloc _) (tabs_below hT ((Below.refl _ _).alloc (Nat.le_refl _) _)) hok).mono ?_
  rintro e w1 ⟨rfl, hr1⟩
  have hX := hr1.other (Blk.new w [.int .i32 0, .int .i32 0, .int .i64 0, .int .i64 0] 108) (by omega)
  obtain ⟨x0, x1, x2, x3, x4⟩ := hX.four
  have hXlt := hX.lt
  have HR := hide (hr1.of_alloc hRlt)
  unfold faultV
  go_wp2
  exact bodyPost_ret (v := .tuple #[.agg #[.int .i32 0, .int .i32 0, .int .i64 0, .int .i64 0], faultV (Cu.itemEnd s.data.toList i)]) (by simp [results, Tryz.results143, go_sem, faultV, *]) rfl ⟨rfl, (unhide HR).set4 (Nat.le_refl _) (by omega) _ _ _ _⟩

set_option maxRecDepth 100000 in
set_option maxHeartbeats 1000000 in
theorem item_yes (s : ByteArray) (i R : Nat) (k : Int) (w : World) (hs : s.size ≤ 200) (hi : i ≤ s.size) (hR : RdBlk w R s i) (hT : Tabs w) (hR2 : 4 < R) (hok : Cu.itemOk s.data.toList i = true) :
    Calls Tryz.prog 143 #[.pointer (some ⟨R, 0, none⟩), .int .i64 k] w fun e w' =>
      (Cu.dash s.data.toList (Cu.itemEnd s.data.toList i) = false ∧ e = .returned (.tuple #[.agg #[.int .i32 (Cu.itemCode s.data.toList i), .int .i32 (Cu.itemCode s.data.toList i), .int .i64 k, .int .i64 i], .nilIface]) ∧ Rd w w' R s (Cu.itemEnd s.data.toList i)) ∨
      (Cu.dash s.data.toList (Cu.itemEnd s.data.toList i) = true ∧ Cu.itemOk s.data.toList (Cu.itemEnd s.data.toList i + 1) = false ∧ e = .returned (.tuple #[.agg #[.int .i32 0, .int .i32 0, .int .i64 0, .int .i64 0], faultV (Cu.itemEnd s.data.toList (Cu.itemEnd s.data.toList i + 1))]) ∧ Rd w w' R s (Cu.itemEnd s.data.toList (Cu.itemEnd s.data.toList i + 1))) ∨
      (Cu.dash s.data.toList (Cu.itemEnd s.data.toList i) = true ∧ Cu.itemOk s.data.toList (Cu.itemEnd s.data.toList i + 1) = true ∧ e = .returned (.tuple #[.agg #[.int .i32 (Cu.itemCode s.data.toList i), .int .i32 (Cu.itemCode s.data.toList (Cu.itemEnd s.data.toList i + 1)), .int .i64 k, .int .i64 i], .nilIface]) ∧ Rd w w' R s (Cu.itemEnd s.data.toList (Cu.itemEnd s.data.toList i + 1))) := by
  have hRlt := hR.lt
  obtain ⟨c0, c1, c2⟩ := hR.two
  have hne : R ≠ w.heap.size := by omega
  have hie := Cu.itemEnd_le s.data.toList i (by rw [len_toList]; exact hi)
  rw [len_toList] at hie
  have hTa := hide (tabs_below hT ((Below.refl w.heap.size w).alloc (Nat.le_refl _) (.cells #[.int .i32 0, .int .i32 0, .int .i64 0, .int .i64 0] 108)))
  go_enter Tryz.func143, Tryz.ntmps143
  go_wp2_with fail
  refine (char_ok s i R _ hs hi (hR.alloc _) (unhide hTa) hok).mono ?_
  rintro e w1 ⟨rfl, hr1⟩
  have hX := hr1.other (Blk.new w [.int .i32 0, .int .i32 0, .int .i64 0, .int .i64 0] 108) (by omega)
  have hT1 := hide (hr1.tabs (unhide hTa) hR2)
  have HR := hide (hr1.of_alloc hRlt)
  clear c0 c1 c2
  go_wp2_with fail
  refine (take_any s dashB (Cu.itemEnd s.data.toList i) R _ hs hie.2 hr1.blk).mono ?_
  rintro e w2 ⟨rfl, hr2⟩
  have hX2 := hr2.other hX (by omega)
  have hT2 := hide (hr2.tabs (unhide hT1) hR2)
  have HR2 := hide ((unhide HR).trans hr2)
  cases hda : Cu.dash s.data.toList (Cu.itemEnd s.data.toList i) with
  | false =>
    have hd : ¬ 0 ≤ Cu.tk s.data.toList dashB.data.toList (Cu.itemEnd s.data.toList i) := by have h := dash_tk s.data.toList (Cu.itemEnd s.data.toList i); rw [hda] at h; simpa using h.symm
    have hend := hide (Cu.tk_no hd)
    obtain ⟨x0, x1, x2, x3, x4⟩ := hX2.four
    have hXlt := hX2.lt
    have HDA := hide hda
    clear hr1 hr2 hX hda
    go_wp2
    exact bodyPost_ret (v := .tuple #[.agg #[.int .i32 (Cu.itemCode s.data.toList i), .int .i32 (Cu.itemCode s.data.toList i), .int .i64 k, .int .i64 i], .nilIface]) (by simp [results, Tryz.results143, go_sem, *]) rfl (Or.inl ⟨unhide HDA, rfl, by have h := (unhide HR2).set4 (Nat.le_refl _) (fun e => hne e.symm) (.int .i32 (Cu.itemCode s.data.toList i)) (.int .i32 (Cu.itemCode s.data.toList i)) (.int .i64 k) (.int .i64 i); rw [unhide hend] at h; exact h⟩)
  | true =>
    have hd : 0 ≤ Cu.tk s.data.toList dashB.data.toList (Cu.itemEnd s.data.toList i) := by have h := dash_tk s.data.toList (Cu.itemEnd s.data.toList i); rw [hda] at h; simpa using h.symm
    have hend : Cu.tkEnd s.data.toList dashB.data.toList (Cu.itemEnd s.data.toList i) = Cu.itemEnd s.data.toList i + 1 := by unfold Cu.tkEnd; rw [if_pos hd]
    have hjl := ((Cu.tk_ge s.data.toList dashB.data.toList (Cu.itemEnd s.data.toList i)).2 hd).1
    rw [len_toList] at hjl
    rw [hend] at hr2 HR2
    have HDA := hide hda
    clear hda hend
    go_wp2_with fail
    cases hok2 : Cu.itemOk s.data.toList (Cu.itemEnd s.data.toList i + 1) with
    | false =>
      refine (char_no s (Cu.itemEnd s.data.toList i + 1) R _ hs (by omega) hr2.blk (unhide hT2) hok2).mono ?_
      rintro e w3 ⟨rfl, hr3⟩
      have hX3 := hr3.other hX2 (by omega)
      obtain ⟨x0, x1, x2, x3, x4⟩ := hX3.four
      have hXlt := hX3.lt
      have HR3 := hide ((unhide HR2).trans hr3)
      have HOK := hide hok2
      clear hr1 hr2 hr3 hX hX2 hok2
      unfold faultV
      go_wp2
      exact bodyPost_ret (v := .tuple #[.agg #[.int .i32 0, .int .i32 0, .int .i64 0, .int .i64 0], faultV (Cu.itemEnd s.data.toList (Cu.itemEnd s.data.toList i + 1))]) (by simp [results, Tryz.results143, go_sem, faultV, *]) rfl (Or.inr (Or.inl ⟨unhide HDA, unhide HOK, rfl, (unhide HR3).set4 (Nat.le_refl _) (fun e => hne e.symm) _ _ _ _⟩))
    | true =>
      refine (char_ok s (Cu.itemEnd s.data.toList i + 1) R _ hs (by omega) hr2.blk (unhide hT2) hok2).mono ?_
      rintro e w3 ⟨rfl, hr3⟩
      have hX3 := hr3.other hX2 (by omega)
      obtain ⟨x0, x1, x2, x3, x4⟩ := hX3.four
      have hXlt := hX3.lt
      have HR3 := hide ((unhide HR2).trans hr3)
      have HOK := hide hok2
      clear hr1 hr2 hr3 hX hX2 hok2
      go_wp2
      exact bodyPost_ret (v := .tuple #[.agg #[.int .i32 (Cu.itemCode s.data.toList i), .int .i32 (Cu.itemCode s.data.toList (Cu.itemEnd s.data.toList i + 1)), .int .i64 k, .int .i64 i], .nilIface]) (by simp [results, Tryz.results143, go_sem, *]) rfl (Or.inr (Or.inr ⟨unhide HDA, unhide HOK, rfl, (unhide HR3).set4 (Nat.le_refl _) (fun e => hne e.symm) _ _ _ _⟩))
end Go.Proofs.YtbppbejigedioabGreatDoor
