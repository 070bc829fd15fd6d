/- Walks: the reference's Check. -/
import Derived.Test.YtkinfleecfddlaaGreatDoorWalkF
import Derived.Test.YtkinfleecfddlaaGreatDoorWalkI
import Derived.Test.YtkinfleecfddlaaGreatDoorPlainA
namespace Go.Proofs.YtkinfleecfddlaaGreatDoor
open Go.RowKit

set_option maxRecDepth 100000 in
set_option maxHeartbeats 1000000 in
theorem refCheck_any (s : ByteArray) (w : World) (hs : s.size ≤ 9223372036854775807) :
    Calls Tryz.prog 12 #[.string s] w fun e w' => e = .returned (.tuple #[.int .i64 (Cu.check s.data.toList).1, .int .i64 (Cu.check s.data.toList).2]) ∧ Below w.heap.size w w' := by
  by_cases h2 : 200 < s.size
  · have hr : Hid (Cu.check s.data.toList = (1, 0)) := hide (by unfold Cu.check; rw [if_pos (by rw [len_toList]; exact h2)])
    go_enter Tryz.func12, Tryz.ntmps12
    go_wp2
    go_ret2
    exact ⟨ret_2int (by rw [unhide hr]; exact ⟨rfl, rfl⟩), Below.refl _ _⟩
  · have h3 : s.size ≤ 200 := by omega
    have HC : Hid (Cu.check s.data.toList = if (Cu.readGo s.data.toList 12 0 []).1 = false then (2, (Cu.readGo s.data.toList 12 0 []).2.1) else Cu.wrongs (Cu.readGo s.data.toList 12 0 []).2.2 0 (Cu.readGo s.data.toList 12 0 []).2.2) := hide (by unfold Cu.check; rw [if_neg (by rw [len_toList]; exact h2)])
    have HF := hide (Cu.readGo_fine s.data.toList 12 0 [] (fun x hx => by simp at hx))
    go_enter Tryz.func12, Tryz.ntmps12
    go_wp2_with fail
    refine (read_any s _ h3).mono ?_
    rintro e w1 (⟨p, hrd, rfl, hb1⟩ | ⟨p, cap, L, a, hrd, rfl, hown, hlo, hb1⟩)
    · have hr : Hid (Cu.check s.data.toList = (2, p)) := hide (by rw [unhide HC, hrd]; rfl)
      clear hrd
      go_wp2
      go_ret2
      exact ⟨ret_2int (by rw [unhide hr]; exact ⟨rfl, rfl⟩), hb1⟩
    · have hr : Hid (Cu.check s.data.toList = Cu.wrongs (L.map Prod.fst) 0 (L.map Prod.fst)) := hide (by rw [unhide HC, hrd]; rfl)
      have hf := unhide HF
      rw [hrd] at hf
      obtain ⟨hf1, hf2⟩ := hf
      have hL : L.length ≤ 12 := by simpa using hf2
      have HFI := hide hf1
      have HI : Hid (∀ y ∈ L, y.1.items.length ≤ 200) := hide (fun y hy => by
        have h := (hf1 y.1 (List.mem_map_of_mem hy)).1
        rw [len_toList] at h; omega)
      have HO := hide hown
      have HL := hide hlo
      clear hrd hown hlo hf1 hf2
      go_wp2
      go_loopw [7] (fun v wr => ∃ n : Nat, n ≤ L.length ∧ v = .int .i64 n ∧ Below w1.heap.size w1 wr ∧ Cu.wrongs (L.map Prod.fst) n ((L.map Prod.fst).drop n) = Cu.wrongs (L.map Prod.fst) 0 (L.map Prod.fst)) (fun v _ => 13 - (intOf v).toNat)
      case atStart => exact ⟨0, by omega, rfl, Below.refl _ _, rfl⟩
      case round =>
        obtain ⟨n, hn, rfl, hbel, hwr⟩ := hrel
        have HW := hide hwr
        clear hwr
        by_cases hlt : n < L.length
        · have e1 : L[n]? = some (L[n].1, L[n].2) := by simp [hlt]
          have e2 : (L.map Prod.fst)[n]? = some L[n].1 := by simp [hlt]
          have hfx := unhide HFI L[n].1 (List.mem_of_getElem? e2)
          have hst := hide (Cu.wrongs_step e2)
          generalize L[n].1 = x at *
          generalize L[n].2 = r at *
          go_wp2_with fail
          refine (wrong_any L _ cap w.heap.size n x r _ (own_below (unhide HO) hbel) ((unhide HL).below hbel) hL (unhide HI) e1 hfx.2.1 hfx.2.2.1 hfx.2.2.2.1 hfx.2.2.2.2).mono ?_
          rintro e w2 ⟨rfl, hb2⟩
          have hbel2 := hide (hbel.trans (hb2.mono hbel.size))
          clear e1 e2 hfx
          by_cases hz : (Cu.wrong (L.map Prod.fst) n x).1 = 0
          · have hz2 : (((Cu.wrong (L.map Prod.fst) n x).1 : Int) != 0) = false := by rw [hz]; rfl
            have hnext : Hid (Cu.wrongs (L.map Prod.fst) (n + 1) ((L.map Prod.fst).drop (n + 1)) = Cu.wrongs (L.map Prod.fst) 0 (L.map Prod.fst)) := hide (by
              rw [← unhide HW, unhide hst, if_neg (fun h => h hz)])
            clear hz
            go_wp2
            go_roundw
            case rel => first | exact ⟨n + 1, by omega, by go_num, unhide hbel2, unhide hnext⟩ | ((repeat apply Exists.intro); exact ⟨⟨n + 1, by omega, by go_num, unhide hbel2, unhide hnext⟩, rfl⟩)
            case measure => simp [intOf]; omega
          · have hz2 : (((Cu.wrong (L.map Prod.fst) n x).1 : Int) != 0) = true := by rw [bne_iff_ne]; omega
            have hfin : Hid (Cu.check s.data.toList = Cu.wrong (L.map Prod.fst) n x) := hide (by
              rw [unhide hr, ← unhide HW, unhide hst, if_pos hz])
            clear hz
            go_wp2
            go_ret2
            exact ⟨ret_2int (by rw [unhide hfin]; exact ⟨rfl, rfl⟩), hb1.trans ((unhide hbel2).mono hb1.size)⟩
        · have hfin : Hid (Cu.check s.data.toList = (0, 0)) := hide (by
            rw [unhide hr, ← unhide HW, List.drop_eq_nil_of_le (by simp; omega)]; rfl)
          go_wp2
          go_ret2
          exact ⟨ret_2int (by rw [unhide hfin]; exact ⟨rfl, rfl⟩), hb1.trans (hbel.mono hb1.size)⟩
end Go.Proofs.YtkinfleecfddlaaGreatDoor
