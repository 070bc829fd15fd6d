/- Walks: the reference's wrong. -/
import Derived.Test.YtbppbejigedioabGreatDoorWalkH
import Derived.BigQuiet
import Derived.Deep.QuietTactic
import Derived.Test.YtbppbejigedioabGreatDoorRefB
import Derived.Test.YtbppbejigedioabGreatDoorPlainA
namespace Go.Proofs.YtbppbejigedioabGreatDoor
open Go.RowKit

theorem itemsBad_step {l : List Cu.Ln} {n k : Nat} {items : List Cu.Item} {y : Cu.Item} (h : items[k]? = some y) : Cu.itemsBad l n k (items.drop k) = (match Cu.itemBad l n k y with | some e => some e | none => Cu.itemsBad l n (k + 1) (items.drop (k + 1))) := by
  have hk : k < items.length := (List.getElem?_eq_some_iff.1 h).1
  have hx : items[k] = y := (List.getElem?_eq_some_iff.1 h).2
  rw [← List.getElem_cons_drop hk, hx]
  rfl

theorem itemBad_tw {l : List Cu.Ln} {n k : Nat} {y : Cu.Item} (h : Cu.twice l n k = true) : Cu.itemBad l n k y = some (3, y.2.2) := by
  unfold Cu.itemBad; rw [if_pos h]
theorem itemBad_ord {l : List Cu.Ln} {n k : Nat} {y : Cu.Item} (h : Cu.twice l n k = false) (h2 : y.2.1 < y.1) : Cu.itemBad l n k y = some (4, y.2.2) := by
  unfold Cu.itemBad; rw [h]; simp [h2]
theorem itemBad_no {l : List Cu.Ln} {n k : Nat} {y : Cu.Item} (h : Cu.twice l n k = false) (h2 : ¬ y.2.1 < y.1) : Cu.itemBad l n k y = none := by
  unfold Cu.itemBad; rw [h]; simp [h2]

set_option maxRecDepth 100000 in
set_option maxHeartbeats 2000000 in
theorem wrong_any (L : List (Cu.Ln × Refs)) (a : Option Addr) (cap base : Nat) (n : Nat) (x : Cu.Ln) (r : Refs) (w : World) (ho : w.ownsRow base 162 6 (.slice a L.length cap) L.length (linesCells L)) (hlo : LinesOwn w base L) (hL : L.length ≤ 12)
    (hI : ∀ y ∈ L, y.1.items.length ≤ 200) (hn : L[n]? = some (x, r)) (hxl : x.left.length ≤ 4) (hxr : x.right.length ≤ 4) (hbl : ∀ y ∈ x.left, y.1 < 256) (hbr : ∀ y ∈ x.right, y.1 < 256) :
    Calls Tryz.prog 54 #[.slice a L.length cap, .int .i64 n] w fun e w' => e = .returned (.tuple #[.int .i64 (Cu.wrong (L.map Prod.fst) n x).1, .int .i64 (Cu.wrong (L.map Prod.fst) n x).2]) ∧ Below w.heap.size w w' := by
  have hnl : n < L.length := (List.getElem?_eq_some_iff.1 hn).1
  obtain ⟨g, x', r', rfl, e1, e2, e3, c0, c1, c2, c3, c4, c5⟩ := line_cells ho n hnl
  obtain ⟨rfl, rfl⟩ : x' = x ∧ r' = r := by rw [hn] at e1; simpa [eq_comm] using e1
  have hrow : ∀ wr, Below w.heap.size w wr → wr.ownsRow base 162 6 (.slice (some ⟨g, 0, none⟩) L.length cap) L.length (linesCells L) ∧ LinesOwn wr base L ∧ LnOwn wr base x' r' := fun wr hb => ⟨own_below ho hb, hlo.below hb, (hlo _ e3).below hb⟩
  have HROW := hide hrow
  have HI := hide hI
  have hIx : x'.items.length ≤ 200 := hI _ e3
  clear hrow ho hlo hI
  have hal := (Below.refl w.heap.size w).alloc (Nat.le_refl _) (.cells #[.int .u8 x'.name, .slice r'.aI x'.items.length r'.cI, .int .u8 x'.op, .slice r'.aL x'.left.length r'.cL, .slice r'.aR x'.right.length r'.cR, .int .i64 x'.at_] 162)
  have HAL := hide hal
  clear hal
  have HW : Hid (∀ b, ((x'.name != 0) && Cu.named (L.map Prod.fst) n x'.name) = b → Cu.wrong (L.map Prod.fst) n x' = if b = true then (3, x'.at_) else match Cu.itemsBad (L.map Prod.fst) n 0 x'.items with
    | some e => e
    | none => match Cu.unnamed (L.map Prod.fst) n x'.left with
      | some p => (5, p)
      | none => match Cu.unnamed (L.map Prod.fst) n x'.right with
        | some p => (5, p)
        | none => (0, 0)) := hide (fun b hb => by
      unfold Cu.wrong
      cases b with
      | true => rw [Bool.and_eq_true, bne_iff_ne] at hb; rw [if_pos hb]; rfl
      | false =>
        rw [if_neg (by rintro ⟨h1, h2⟩; rw [h2, bne_iff_ne.2 h1] at hb; cases hb)]; rfl)
  go_enter Tryz.func54, Tryz.ntmps54
  go_upto_region 2 with fail
  go_cut [23] (fun b wc => b = .bool ((x'.name != 0) && Cu.named (L.map Prod.fst) n x'.name) ∧ wc = w.alloc (.cells #[.int .u8 x'.name, .slice r'.aI x'.items.length r'.cI, .int .u8 x'.op, .slice r'.aL x'.left.length r'.cL, .slice r'.aR x'.right.length r'.cR, .int .i64 x'.at_] 162))
  case first =>
    by_cases hz : x'.name = 0
    · have hz2 : ((x'.name : Int) != 0) = false := by rw [hz]; rfl
      have hz3 : Hid ((x'.name != 0) = false) := hide (by rw [hz]; rfl)
      clear hz
      go_wp2
      go_meet
      case rel => exact ⟨by rw [unhide hz3]; rfl, rfl⟩
    · have hz2 : ((x'.name : Int) != 0) = true := by rw [bne_iff_ne]; omega
      have hz3 : Hid ((x'.name != 0) = true) := hide (by rw [bne_iff_ne]; exact hz)
      clear hz
      go_wp2_with (first | (go_at_call 92; refine (named_any L _ cap base _ _ _ ((unhide HROW) _ (unhide HAL)).1 (by omega) (by omega) hL).mono ?_; rintro e w' ⟨rfl, rfl⟩; rw [Int.toNat_natCast]))
      go_meet
      case rel => exact ⟨by rw [unhide hz3]; rfl, rfl⟩
  case rest =>
    obtain ⟨rfl, rfl⟩ := hcut
    have hBn := Blk.new w (lnCells x' r') 162
    cases hnb : ((x'.name != 0) && Cu.named (L.map Prod.fst) n x'.name) with
    | true =>
      have hr := hide ((unhide HW) true hnb)
      clear hnb
      go_wp2
      go_quiet (fail)
      go_wp2
      go_ret2
      exact ⟨ret_2int (by rw [unhide hr]; exact ⟨rfl, rfl⟩), below_drewN (unhide HAL) _⟩
    | false =>
      have hr := hide ((unhide HW) false hnb)
      clear hnb c0 c1 c2 c3 c4 c5
      go_wp2
      go_loopw [7] (fun v wr => ∃ k : Nat, k ≤ x'.items.length ∧ v = .int .i64 k ∧ Below w.heap.size w wr ∧ Blk wr w.heap.size (lnCells x' r') 162 ∧ Cu.itemsBad (L.map Prod.fst) n k (x'.items.drop k) = Cu.itemsBad (L.map Prod.fst) n 0 x'.items) (fun v _ => 201 - (intOf v).toNat)
      case atStart =>
        go_light
        exact ⟨0, by omega, rfl, unhide HAL, hBn, rfl⟩
      case round =>
        clear hBn
        obtain ⟨k, hk, rfl, hbel, hB, hib⟩ := hrel
        have HIB := hide hib
        clear hib
        obtain ⟨b0, b1, b2, b3, b4, b5, b6⟩ := Blk.six (by exact hB)
        have hBlt := hB.lt
        obtain ⟨ho1, hlo1, hln1⟩ := unhide HROW _ hbel
        have HO1 := hide ho1
        have HLO1 := hide hlo1
        have HLN1 := hide hln1
        clear ho1 hlo1 hln1
        by_cases hlt : k < x'.items.length
        · go_wp2_with fail
          refine (twice_any L _ cap base n k x' r' _ (unhide HO1) (unhide HLO1) hL (unhide HI) hn hlt).mono ?_
          rintro e w1 ⟨rfl, hb1⟩
          have hbel1 := hide (hbel.trans (hb1.mono hbel.size))
          have hB1 := hB.below hb1 hBlt
          obtain ⟨-, -, hln2⟩ := unhide HROW _ (unhide hbel1)
          obtain ⟨gi, y, hai, f1, d0, d1, d2⟩ := item_cells hln2.1 k hlt
          clear b0 b1 b2 b3 b4 b5 b6
          obtain ⟨b0, b1, b2, b3, b4, b5, b6⟩ := Blk.six (by exact hB1)
          rw [hai] at b1
          have hstep := hide (itemsBad_step (l := L.map Prod.fst) (n := n) f1)
          have HB1 := hide hB1
          clear hln2 hai f1 hB1
          cases htw : Cu.twice (L.map Prod.fst) n k with
          | true =>
            have hfin : Hid (Cu.wrong (L.map Prod.fst) n x' = (3, y.2.2)) := hide (by
              rw [unhide hr, ← unhide HIB, unhide hstep, itemBad_tw htw]; rfl)
            go_wp2
            go_quiet (fail)
            go_wp2
            go_ret2
            exact ⟨ret_2int (by rw [unhide hfin]; exact ⟨rfl, rfl⟩), below_drewN (unhide hbel1) _⟩
          | false =>
            by_cases hord : y.2.1 < y.1
            · have hfin : Hid (Cu.wrong (L.map Prod.fst) n x' = (4, y.2.2)) := hide (by
                rw [unhide hr, ← unhide HIB, unhide hstep, itemBad_ord htw hord]; rfl)
              go_wp2
              go_quiet (fail)
              go_wp2
              go_quiet (fail)
              go_wp2
              go_ret2
              exact ⟨ret_2int (by rw [unhide hfin]; exact ⟨rfl, rfl⟩), below_drewN (below_drewN (unhide hbel1) _) _⟩
            · have hfin : Hid (Cu.itemsBad (L.map Prod.fst) n (k + 1) (x'.items.drop (k + 1)) = Cu.itemsBad (L.map Prod.fst) n 0 x'.items) := hide (by
                rw [← unhide HIB, unhide hstep, itemBad_no htw hord])
              go_wp2
              go_quiet (fail)
              go_wp2
              go_roundw
              case rel => first | exact ⟨k + 1, by omega, by go_num, below_drewN (unhide hbel1) _, (unhide HB1).drewN _, unhide hfin⟩ | ((repeat apply Exists.intro); exact ⟨⟨k + 1, by omega, by go_num, below_drewN (unhide hbel1) _, (unhide HB1).drewN _, unhide hfin⟩, rfl⟩)
              case measure => simp [intOf]; omega
        · have hnone : Hid (Cu.itemsBad (L.map Prod.fst) n 0 x'.items = none) := hide (by
            rw [← unhide HIB, List.drop_eq_nil_of_le (by omega)]; rfl)
          cases hul : Cu.unnamed (L.map Prod.fst) n x'.left with
          | some p =>
            have hfin : Hid (Cu.wrong (L.map Prod.fst) n x' = (5, p)) := hide (by rw [unhide hr, unhide hnone, hul]; rfl)
            have HUL := hide (show placeOf (Cu.unnamed (L.map Prod.fst) n x'.left) = (p : Int) by rw [hul]; rfl)
            clear hul
            go_wp2_with (first | (go_at_call 94; refine (unnamed_any L _ cap base _ x'.left _ _ base _ (unhide HO1) (by omega) (by omega) hL (unhide HLN1).2.1 hxl hbl).mono ?_; rintro e w' ⟨rfl, rfl⟩; rw [Int.toNat_natCast, unhide HUL]))
            go_ret2
            exact ⟨ret_2int (by rw [unhide hfin]; exact ⟨rfl, rfl⟩), hbel⟩
          | none =>
            have HUL := hide (show placeOf (Cu.unnamed (L.map Prod.fst) n x'.left) = -1 by rw [hul]; rfl)
            cases hur : Cu.unnamed (L.map Prod.fst) n x'.right with
            | some p =>
              have hfin : Hid (Cu.wrong (L.map Prod.fst) n x' = (5, p)) := hide (by rw [unhide hr, unhide hnone, hul, hur]; rfl)
              have HUR := hide (show placeOf (Cu.unnamed (L.map Prod.fst) n x'.right) = (p : Int) by rw [hur]; rfl)
              clear hul hur
              go_wp2_with fail
              refine (unnamed_any L _ cap base _ x'.left _ _ base _ (unhide HO1) (by omega) (by omega) hL (unhide HLN1).2.1 hxl hbl).mono ?_
              rintro e w' ⟨rfl, rfl⟩
              rw [Int.toNat_natCast, unhide HUL]
              go_wp2_with fail
              refine (unnamed_any L _ cap base _ x'.right _ _ base _ (unhide HO1) (by omega) (by omega) hL (unhide HLN1).2.2 hxr hbr).mono ?_
              rintro e w' ⟨rfl, rfl⟩
              rw [Int.toNat_natCast, unhide HUR]
              go_wp2
              go_ret2
              exact ⟨ret_2int (by rw [unhide hfin]; exact ⟨rfl, rfl⟩), hbel⟩
            | none =>
              have hfin : Hid (Cu.wrong (L.map Prod.fst) n x' = (0, 0)) := hide (by rw [unhide hr, unhide hnone, hul, hur]; rfl)
              have HUR := hide (show placeOf (Cu.unnamed (L.map Prod.fst) n x'.right) = -1 by rw [hur]; rfl)
              clear hul hur
              go_wp2_with fail
              refine (unnamed_any L _ cap base _ x'.left _ _ base _ (unhide HO1) (by omega) (by omega) hL (unhide HLN1).2.1 hxl hbl).mono ?_
              rintro e w' ⟨rfl, rfl⟩
              rw [Int.toNat_natCast, unhide HUL]
              go_wp2_with fail
              refine (unnamed_any L _ cap base _ x'.right _ _ base _ (unhide HO1) (by omega) (by omega) hL (unhide HLN1).2.2 hxr hbr).mono ?_
              rintro e w' ⟨rfl, rfl⟩
              rw [Int.toNat_natCast, unhide HUR]
              go_wp2
              go_ret2
              exact ⟨ret_2int (by rw [unhide hfin]; exact ⟨rfl, rfl⟩), hbel⟩
end Go.Proofs.YtbppbejigedioabGreatDoor
/- Walks: the reference's Check. -/
namespace Go.Proofs.YtbppbejigedioabGreatDoor
open Go.RowKit

set_option maxRecDepth 100000 in
set_option maxHeartbeats 1000000 in
theorem refCheck_any (s : ByteArray) (w : World) (hs : s.size ≤ 9223372036854775807) :
    Calls Tryz.prog 30 #[.string s] w fun e w' => e = .returned (.tuple #[.int .i64 (Cu.check s.data.toList).1, .int .i64 (Cu.check s.data.toList).2]) ∧ Below w.heap.size w w' := by
  by_cases h2 : 200 < s.size
  · have hr : Hid (Cu.check s.data.toList = (1, 0)) := hide (by unfold Cu.check; rw [if_pos (by rw [len_toList]; exact h2)])
    go_enter Tryz.func30, Tryz.ntmps30
    go_wp2
    go_ret2
    exact ⟨ret_2int (by rw [unhide hr]; exact ⟨rfl, rfl⟩), Below.refl _ _⟩
  · have h3 : s.size ≤ 200 := by omega
    have HC : Hid (Cu.check s.data.toList = if (Cu.readGo s.data.toList 12 0 []).1 = false then (2, (Cu.readGo s.data.toList 12 0 []).2.1) else Cu.wrongs (Cu.readGo s.data.toList 12 0 []).2.2 0 (Cu.readGo s.data.toList 12 0 []).2.2) := hide (by unfold Cu.check; rw [if_neg (by rw [len_toList]; exact h2)])
    have HF := hide (Cu.readGo_fine s.data.toList 12 0 [] (fun x hx => by simp at hx))
    go_enter Tryz.func30, Tryz.ntmps30
    go_wp2_with fail
    refine (read_any s _ h3).mono ?_
    rintro e w1 (⟨p, hrd, rfl, hb1⟩ | ⟨p, cap, L, a, hrd, rfl, hown, hlo, hb1⟩)
    · have hr : Hid (Cu.check s.data.toList = (2, p)) := hide (by rw [unhide HC, hrd]; rfl)
      clear hrd
      go_wp2
      go_ret2
      exact ⟨ret_2int (by rw [unhide hr]; exact ⟨rfl, rfl⟩), hb1⟩
    · have hr : Hid (Cu.check s.data.toList = Cu.wrongs (L.map Prod.fst) 0 (L.map Prod.fst)) := hide (by rw [unhide HC, hrd]; rfl)
      have hf := unhide HF
      rw [hrd] at hf
      obtain ⟨hf1, hf2⟩ := hf
      have hL : L.length ≤ 12 := by simpa using hf2
      have HFI := hide hf1
      have HI : Hid (∀ y ∈ L, y.1.items.length ≤ 200) := hide (fun y hy => by
        have h := (hf1 y.1 (List.mem_map_of_mem hy)).1
        rw [len_toList] at h; omega)
      have HO := hide hown
      have HL := hide hlo
      clear hrd hown hlo hf1 hf2
      go_wp2
      go_loopw [7] (fun v wr => ∃ n : Nat, n ≤ L.length ∧ v = .int .i64 n ∧ Below w1.heap.size w1 wr ∧ Cu.wrongs (L.map Prod.fst) n ((L.map Prod.fst).drop n) = Cu.wrongs (L.map Prod.fst) 0 (L.map Prod.fst)) (fun v _ => 13 - (intOf v).toNat)
      case atStart => exact ⟨0, by omega, rfl, Below.refl _ _, rfl⟩
      case round =>
        obtain ⟨n, hn, rfl, hbel, hwr⟩ := hrel
        have HW := hide hwr
        clear hwr
        by_cases hlt : n < L.length
        · have e1 : L[n]? = some (L[n].1, L[n].2) := by simp [hlt]
          have e2 : (L.map Prod.fst)[n]? = some L[n].1 := by simp [hlt]
          have hfx := unhide HFI L[n].1 (List.mem_of_getElem? e2)
          have hst := hide (Cu.wrongs_step e2)
          generalize L[n].1 = x at *
          generalize L[n].2 = r at *
          go_wp2_with fail
          refine (wrong_any L _ cap w.heap.size n x r _ (own_below (unhide HO) hbel) ((unhide HL).below hbel) hL (unhide HI) e1 hfx.2.1 hfx.2.2.1 hfx.2.2.2.1 hfx.2.2.2.2).mono ?_
          rintro e w2 ⟨rfl, hb2⟩
          have hbel2 := hide (hbel.trans (hb2.mono hbel.size))
          clear e1 e2 hfx
          by_cases hz : (Cu.wrong (L.map Prod.fst) n x).1 = 0
          · have hz2 : (((Cu.wrong (L.map Prod.fst) n x).1 : Int) != 0) = false := by rw [hz]; rfl
            have hnext : Hid (Cu.wrongs (L.map Prod.fst) (n + 1) ((L.map Prod.fst).drop (n + 1)) = Cu.wrongs (L.map Prod.fst) 0 (L.map Prod.fst)) := hide (by
              rw [← unhide HW, unhide hst, if_neg (fun h => h hz)])
            clear hz
            go_wp2
            go_roundw
            case rel => first | exact ⟨n + 1, by omega, by go_num, unhide hbel2, unhide hnext⟩ | ((repeat apply Exists.intro); exact ⟨⟨n + 1, by omega, by go_num, unhide hbel2, unhide hnext⟩, rfl⟩)
            case measure => simp [intOf]; omega
          · have hz2 : (((Cu.wrong (L.map Prod.fst) n x).1 : Int) != 0) = true := by rw [bne_iff_ne]; omega
            have hfin : Hid (Cu.check s.data.toList = Cu.wrong (L.map Prod.fst) n x) := hide (by
              rw [unhide hr, ← unhide HW, unhide hst, if_pos hz])
            clear hz
            go_wp2
            go_ret2
            exact ⟨ret_2int (by rw [unhide hfin]; exact ⟨rfl, rfl⟩), hb1.trans ((unhide hbel2).mono hb1.size)⟩
        · have hfin : Hid (Cu.check s.data.toList = (0, 0)) := hide (by
            rw [unhide hr, ← unhide HW, List.drop_eq_nil_of_le (by simp; omega)]; rfl)
          go_wp2
          go_ret2
          exact ⟨ret_2int (by rw [unhide hfin]; exact ⟨rfl, rfl⟩), hb1.trans (hbel.mono hb1.size)⟩
end Go.Proofs.YtbppbejigedioabGreatDoor
