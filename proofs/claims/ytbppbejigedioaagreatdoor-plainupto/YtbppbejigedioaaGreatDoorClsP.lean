/- The program's Classes. -/
import Derived.Test.YtbppbejigedioaaGreatDoorClsH
namespace Go.Proofs.YtbppbejigedioaaGreatDoor
open Go.RowKit

set_option maxRecDepth 100000 in
set_option maxHeartbeats 2000000 in
theorem pclasses_any (f t : ByteArray) (w : World) (hf : f.size ≤ 9223372036854775807) (ht : t.size ≤ 1048576) (hT : Tabs w) (hw2 : 4 < w.heap.size) (hg : ErrT w) :
    Calls Tryz.prog 18 #[.string f, .string t] w fun e w' => e = .returned (.tuple #[.string (clsOut f.data.toList t.data.toList).1, .int .i64 (clsOut f.data.toList t.data.toList).2.1, .int .i64 (clsOut f.data.toList t.data.toList).2.2]) ∧ Below w.heap.size w w' := by
  go_enter Tryz.func18, Tryz.ntmps18
  go_wp2_with fail
  refine (readBook_full f _ hf hT hw2).mono ?_
  rintro e w1 (⟨c, p, hc, hc0, rfl, hb⟩ | ⟨B, hc, rfl, hbook, hb⟩)
  · have hg1 : ErrT w1 := by unfold ErrT; rw [cell_below hb (by show 0 < w.heap.size; omega)]; exact hg
    have hout : Hid (clsOut f.data.toList t.data.toList = (⟨#[]⟩, c, p)) := hide (by unfold clsOut; rw [hc, if_neg hc0])
    have HB := hide hb
    have HG := hide hg1
    clear hc hb hg1 hg hT
    unfold brokenV
    go_wp2_with fail
    refine (told_hit (c : Int) (p : Int) w1 (unhide HG)).mono ?_
    rintro e w2 ⟨rfl, hb2⟩
    have HB2 := hide (below_two hb2 (unhide HB))
    clear hb2
    go_wp2
    go_ret3
    exact ⟨by rw [unhide hout]; rfl, unhide HB2⟩
  · obtain ⟨p, lns, L, nm, its, hrd, hL, hperm, hri, htd, hlen, hBk, hPL, hBb⟩ := hbook
    have hout : Hid (clsOut f.data.toList t.data.toList = (clsB lns (Cu.chars t.data.toList), 0, 0)) := hide (by unfold clsOut; rw [hc, if_pos rfl, hrd])
    have hsz : f.size ≤ 200 := (check_ok (show (Cu.check f.data.toList).1 = 0 by rw [hc])).1
    have hr12 : (rulesOf L).length ≤ 12 := Nat.le_trans (List.length_filter_le _ _) (lines_ok hsz hrd hL).2
    have HLT := hide (book_letter hrd hperm htd)
    have HY := hide (show Syms its from fun c => (book_letter hrd hperm htd c).2)
    have HSEP := hide (sep_of hperm hri htd)
    have hT1 := tabs_below hT hb
    have HB := hide hb
    have HBK := hide hBk
    have HT1 := hide hT1
    clear hc hb hg hT hrd hL hperm hri htd hBk hPL hT1
    go_wp2_with fail
    refine (split_any t B nm its _ _ ht (unhide HBK) hlen (unhide HSEP) (unhide HT1) (unhide HY) hr12).mono ?_
    rintro e w2 ⟨a, cap, rfl, hO, hb2⟩
    have hcl := chars_len t
    generalize hcs : Cu.chars t.data.toList = cs at hO hcl hout ⊢
    have HO := hide hO
    have HB2 := hide (below_two hb2 (unhide HB))
    have hs2 := (unhide HB2).size
    obtain ⟨us0, hus0, hmk⟩ := make_bytes w2 cs.length (by omega)
    clear hO hb2 hcs
    go_wp2
    go_loopw [39] (fun v wr => LtRel its cs w w2.heap.size v wr ∧ wr.ownsRow w1.heap.size 73 3 (.slice a cs.length cap) cs.length (spCells its (rulesOf L) cs [])) (fun v _ => 1048578 - (intOf v).toNat)
    case atStart =>
      go_light
      exact ⟨⟨0, us0, Nat.zero_le _, rfl, Blk.new w2 us0 5, hus0, (unhide HB2).alloc hs2 _, fun k x hk => by omega⟩, own_below (unhide HO) ((Below.refl _ _).alloc (Nat.le_refl _) _)⟩
    case round =>
      obtain ⟨⟨n, us, hn, rfl, hBu, hul, hb, hk⟩, hor⟩ := hrel
      have HK := hide hk
      have HOR := hide hor
      have HBU := hide hBu
      have hBlt := hBu.lt
      clear hk hor hBu
      by_cases hlt : n < cs.length
      · obtain ⟨g, x, rfl, hx, hgl, c0, c1, c2⟩ := sp_cells (unhide HOR) n hlt
        generalize stN (rulesOf L) (symOf its x.2.2).toNat (symB its (cs.drop (n + 1) ++ [])) = st at c2
        obtain ⟨hl1, hl2, hl3⟩ := unhide HLT x.2.2
        obtain ⟨k, hkk⟩ : ∃ k : Nat, symOf its x.2.2 = (k : Int) := ⟨(symOf its x.2.2).toNat, by omega⟩
        have hk26 : k < 28 := by omega
        have HX := hide hx
        have HKK := hide hkk
        rw [hkk] at c1
        obtain ⟨u, hu⟩ : ∃ u, us[n]? = some u := ⟨us[n], by simp [hul, hlt]⟩
        have hcu : wr.cell? ⟨w2.heap.size, n, none⟩ = some u := by rw [(unhide HBU).cell n, hu]
        have hfu : wr.frozen? ⟨w2.heap.size, n, none⟩ = false := (unhide HBU).free n
        have hbe : (⟨#[65, 66, 67, 68, 69, 70, 71, 72, 73, 74, 75, 76, 77, 78, 79, 80, 81, 82, 83, 84, 85, 86, 87, 88, 89, 90, 95, 46]⟩ : ByteArray)[k].toNat = letter k := byt_eq signB k hk26
        have hne1 : w2.heap.size ≠ wr.heap.size := by omega
        have hfin : Hid (LtRel its cs w w2.heap.size (.int .i64 ((n : Int) + 1)) ((wr.setCell ⟨w2.heap.size, n, none⟩ (.int .u8 (letter k))).alloc (.cells #[.int .i64 x.1, .int .i64 k, .int .u16 st] 73)) ∧
            ((wr.setCell ⟨w2.heap.size, n, none⟩ (.int .u8 (letter k))).alloc (.cells #[.int .i64 x.1, .int .i64 k, .int .u16 st] 73)).ownsRow w1.heap.size 73 3 (.slice (some ⟨g, 0, none⟩) cs.length cap) cs.length (spCells its (rulesOf L) cs [])) := hide (by
          refine ⟨?_, (own_set_ne (unhide HOR) _ _ ((unhide HBU).ne_row (unhide HOR) (by decide))).alloc _⟩
          have h := lt_step (its := its) (unhide HX) (unhide HBU) hul hb hs2 (unhide HK)
          rw [unhide HKK] at h
          exact h.alloc _)
        clear hl1 hl2 hl3 hx hkk hu
        go_wp2
        go_roundw
        case rel => first | exact unhide hfin | ((repeat apply Exists.intro); exact ⟨unhide hfin, rfl⟩)
        case measure => simp [intOf]; omega
      · have hnn : n = cs.length := by omega
        have hconv := conv_letters (lns := lns) (unhide HBU) (fun k x hk hx => unhide HK k x (by omega) hx) (fun c => (unhide HLT c).1)
        go_wp2
        go_ret3
        exact ⟨by rw [unhide hout]; rfl, hb⟩
end Go.Proofs.YtbppbejigedioaaGreatDoor
