/- The program's Classes; the law Classing. -/
import Derived.Test.YtoolbbhbknaidaaGreatDoorClsY
import Derived.Test.YtoolbbhbknaidaaGreatDoorBookG
import Derived.Laws.OwnMore
namespace Go.Proofs.YtoolbbhbknaidaaGreatDoor
open Go.RowKit

theorem spCells_get (its : List KItem) (rs : List PLn) (l r : List Cu.Chr) (i j : Nat) (hi : i < l.length) (hj : j < 3) : (spCells its rs l r)[i * 3 + j]? = (chv its rs l[i] (l.drop (i + 1) ++ r))[j]? := by
  induction l generalizing i with
  | nil => simp at hi
  | cons y l ih =>
    cases i with
    | zero => simp only [spCells, Nat.zero_mul, Nat.zero_add]; rw [List.getElem?_append_left (by unfold chv; simp; omega)]; rfl
    | succ i =>
      simp only [spCells]
      rw [List.getElem?_append_right (by unfold chv; simp; omega), show (i + 1) * 3 + j - (chv its rs y (l ++ r)).length = i * 3 + j by unfold chv; simp; omega, ih i (by simpa using hi)]
      rfl
theorem sp_cells {w : World} {base cap : Nat} {its : List KItem} {rs : List PLn} {l r : List Cu.Chr} {a : Option Addr} (ho : w.ownsRow base 73 3 (.slice a l.length cap) l.length (spCells its rs l r)) (i : Nat) (hi : i < l.length) :
    ∃ (g : Nat) (x : Cu.Chr), a = some ⟨g, 0, none⟩ ∧ l[i]? = some x ∧ g < w.heap.size ∧ w.cell? ⟨g, i * 3, none⟩ = some (.int .i64 x.1) ∧ w.cell? ⟨g, i * 3 + 1, none⟩ = some (.int .i64 (symOf its x.2.2)) ∧ w.cell? ⟨g, i * 3 + 2, none⟩ = some (.int .u16 (stN rs (symOf its x.2.2).toNat (symB its (l.drop (i + 1) ++ r)))) := by
  rcases ho.2 with ⟨_, h2⟩ | ⟨g, cap', cur, hv, _, hh, h3, h4, _⟩
  · omega
  · simp only [Value.slice.injEq, true_and] at hv
    obtain ⟨rfl, rfl⟩ := hv
    have hc : ∀ j, j < 3 → w.cell? ⟨g, i * 3 + j, none⟩ = (chv its rs l[i] (l.drop (i + 1) ++ r))[j]? := fun j hj => by
      rw [ho.cellAt (i * 3 + j) (by omega), spCells_get its rs l r i j hi hj]
    exact ⟨g, l[i], rfl, by simp [hi], (Array.getElem?_eq_some_iff.1 hh).1, hc 0 (by omega), hc 1 (by omega), hc 2 (by omega)⟩

/-- The letters so far. -/
def LtRel (its : List KItem) (cs : List Cu.Chr) (w : World) (b : Nat) (v : Value) (wr : World) : Prop :=
  ∃ (n : Nat) (us : List Value), n ≤ cs.length ∧ v = .int .i64 n ∧ Blk wr b us 5 ∧ us.length = cs.length ∧ Below w.heap.size w wr ∧ ∀ k x, k < n → cs[k]? = some x → us[k]? = some (.int .u8 (letter (symOf its x.2.2)))
theorem lt_step {its : List KItem} {cs : List Cu.Chr} {w W : World} {b n : Nat} {x : Cu.Chr} {us : List Value} (hx : cs[n]? = some x) (hB : Blk W b us 5) (hul : us.length = cs.length) (hb : Below w.heap.size w W) (hwb : w.heap.size ≤ b)
    (hk : ∀ k x, k < n → cs[k]? = some x → us[k]? = some (.int .u8 (letter (symOf its x.2.2)))) : LtRel its cs w b (.int .i64 ((n : Int) + 1)) (W.setCell ⟨b, n, none⟩ (.int .u8 (letter (symOf its x.2.2)))) := by
  have hn : n < cs.length := (List.getElem?_eq_some_iff.1 hx).1
  refine ⟨n + 1, us.set n (.int .u8 (letter (symOf its x.2.2))), by omega, by go_num, hB.setSame n _, by simp [hul], hb.setCell hwb _, ?_⟩
  intro k y hk2 hy
  by_cases hkn : k = n
  · subst hkn
    rw [hx] at hy
    simp at hy
    subst hy
    rw [List.getElem?_set_self (by omega)]
  · rw [List.getElem?_set_ne (by omega)]
    exact hk k y (by omega) hy
theorem LtRel.alloc {its : List KItem} {cs : List Cu.Chr} {w wr : World} {b : Nat} {v : Value} (h : LtRel its cs w b v wr) (o : Obj) : LtRel its cs w b v (wr.alloc o) := by
  obtain ⟨n, us, h1, h2, h3, h4, h5, h6⟩ := h
  exact ⟨n, us, h1, h2, h3.alloc o, h4, h5.alloc h5.size o, h6⟩
theorem conv_letters {its : List KItem} {cs : List Cu.Chr} {lns : List Cu.Ln} {w : World} {b : Nat} {us : List Value} (hB : Blk w b us 5) (hk : ∀ k x, k < cs.length → cs[k]? = some x → us[k]? = some (.int .u8 (letter (symOf its x.2.2)))) (hl : ∀ c, letter (symOf its c) = Cu.classOf lns c) :
    Sem.run Tryz.prog (convert 69 9 (.slice (some ⟨b, 0, none⟩) cs.length cs.length)) w = .ok (.string (clsB lns cs)) w := by
  have h := run_convert_bytes_arg (P := Tryz.prog) w 69 5 Tryz.underlying69 Tryz.underlying5 b 0 cs.length cs.length (cs.map fun x => (Cu.classOf lns x.2.2 : Int)) (by simp) (fun i hi => by
    rw [Nat.zero_add, hB.cell i]
    have hx : cs[i]? = some cs[i] := by simp [hi]
    rw [hk i cs[i] hi hx, hl]
    simp [List.getD, hi]) 9 Tryz.underlying9
  have e1 : strOfNums (cs.map fun x => (Cu.classOf lns x.2.2 : Int)) = clsB lns cs := by
    apply ByteArray.ext
    apply Array.toList_inj.1
    unfold clsB clsL strOfNums
    simp
  rw [e1] at h
  exact h
theorem letter_lt (k : Int) : letter k < 256 := by unfold letter; exact Cu.byt_lt' _ _
theorem Tryz.info5 : (Tryz.prog.info? 5).map (fun i => (i.zero, i.size, i.bytes)) = some (some (.int .u8 0), 1, 1) := by kernel_rfl
/-- make of n bytes. -/
theorem make_bytes (W : World) (n : Nat) (hn : n ≤ 1048576) : ∃ us : List Value, us.length = n ∧ Sem.run Tryz.prog (Instr.makeSlice 69 (.int .i64 n) (.int .i64 n)) W = .ok (.slice (some ⟨W.heap.size, 0, none⟩) n n) (W.alloc (.cells us.toArray 5)) := by
  obtain ⟨i0, ki, kz0, kz1, kz2⟩ := info_parts Tryz.info5
  have h := run_make (P := Tryz.prog) W 69 5 i0 (.int .u8 0) Tryz.underlying69 ki kz0 .i64 .i64 n n (by omega) (Int.le_refl _) (by rw [kz2]; omega) (by omega)
  refine ⟨(madeCells (Value.int .u8 0).cells (n * 1)).toList, by simp [size_madeCells], ?_⟩
  rw [kz1] at h
  simpa using h

set_option maxRecDepth 100000 in
set_option maxHeartbeats 2000000 in
theorem pclasses_any (f t : ByteArray) (w : World) (hf : f.size ≤ 9223372036854775807) (ht : t.size ≤ 1048576) (hT : Tabs w) (hw2 : 4 < w.heap.size) (hg : ErrT w) :
    Calls Tryz.prog 18 #[.string f, .string t] w fun e w' => e = .returned (.tuple #[.string (clsOut f.data.toList t.data.toList).1, .int .i64 (clsOut f.data.toList t.data.toList).2.1, .int .i64 (clsOut f.data.toList t.data.toList).2.2]) ∧ Below w.heap.size w w' := by
  go_enter Tryz.func18, Tryz.ntmps18
  go_wp2_with fail
  refine (readBook_full f _ hf hT hw2).mono ?_
  rintro e w1 (⟨c, p, hc, hc0, rfl, hb⟩ | ⟨B, hc, rfl, hbook, hb⟩)
  · have hg1 : ErrT w1 := by unfold ErrT; rw [cell_below hb (by show 0 < w.heap.size; omega)]; exact hg
    have hout : Hid (clsOut f.data.toList t.data.toList = (⟨#[]⟩, c, p)) := hide (by unfold clsOut; rw [hc, if_neg hc0])
    have HB := hide hb
    have HG := hide hg1
    clear hc hb hg1 hg hT
    unfold brokenV
    go_wp2_with fail
    refine (told_hit (c : Int) (p : Int) w1 (unhide HG)).mono ?_
    rintro e w2 ⟨rfl, hb2⟩
    have HB2 := hide (below_two hb2 (unhide HB))
    clear hb2
    go_wp2
    go_ret3
    exact ⟨by rw [unhide hout]; rfl, unhide HB2⟩
  · obtain ⟨p, lns, L, nm, its, hrd, hL, hperm, hri, htd, hlen, hBk, hPL, hBb⟩ := hbook
    have hout : Hid (clsOut f.data.toList t.data.toList = (clsB lns (Cu.chars t.data.toList), 0, 0)) := hide (by unfold clsOut; rw [hc, if_pos rfl, hrd])
    have hsz : f.size ≤ 200 := (check_ok (show (Cu.check f.data.toList).1 = 0 by rw [hc])).1
    have hr12 : (rulesOf L).length ≤ 12 := Nat.le_trans (List.length_filter_le _ _) (lines_ok hsz hrd hL).2
    have HLT := hide (book_letter hrd hperm htd)
    have HY := hide (show Syms its from fun c => (book_letter hrd hperm htd c).2)
    have HSEP := hide (sep_of hperm hri htd)
    have hT1 := tabs_below hT hb
    have HB := hide hb
    have HBK := hide hBk
    have HT1 := hide hT1
    clear hc hb hg hT hrd hL hperm hri htd hBk hPL hT1
    go_wp2_with fail
    refine (split_any t B nm its _ _ ht (unhide HBK) hlen (unhide HSEP) (unhide HT1) (unhide HY) hr12).mono ?_
    rintro e w2 ⟨a, cap, rfl, hO, hb2⟩
    have hcl := chars_len t
    generalize hcs : Cu.chars t.data.toList = cs at hO hcl hout ⊢
    have HO := hide hO
    have HB2 := hide (below_two hb2 (unhide HB))
    have hs2 := (unhide HB2).size
    obtain ⟨us0, hus0, hmk⟩ := make_bytes w2 cs.length (by omega)
    clear hO hb2 hcs
    go_wp2
    go_loopw [39] (fun v wr => LtRel its cs w w2.heap.size v wr ∧ wr.ownsRow w1.heap.size 73 3 (.slice a cs.length cap) cs.length (spCells its (rulesOf L) cs [])) (fun v _ => 1048578 - (intOf v).toNat)
    case atStart =>
      go_light
      exact ⟨⟨0, us0, Nat.zero_le _, rfl, Blk.new w2 us0 5, hus0, (unhide HB2).alloc hs2 _, fun k x hk => by omega⟩, own_below (unhide HO) ((Below.refl _ _).alloc (Nat.le_refl _) _)⟩
    case round =>
      obtain ⟨⟨n, us, hn, rfl, hBu, hul, hb, hk⟩, hor⟩ := hrel
      have HK := hide hk
      have HOR := hide hor
      have HBU := hide hBu
      have hBlt := hBu.lt
      clear hk hor hBu
      by_cases hlt : n < cs.length
      · obtain ⟨g, x, rfl, hx, hgl, c0, c1, c2⟩ := sp_cells (unhide HOR) n hlt
        generalize stN (rulesOf L) (symOf its x.2.2).toNat (symB its (cs.drop (n + 1) ++ [])) = st at c2
        obtain ⟨hl1, hl2, hl3⟩ := unhide HLT x.2.2
        obtain ⟨k, hkk⟩ : ∃ k : Nat, symOf its x.2.2 = (k : Int) := ⟨(symOf its x.2.2).toNat, by omega⟩
        have hk26 : k < 28 := by omega
        have HX := hide hx
        have HKK := hide hkk
        rw [hkk] at c1
        obtain ⟨u, hu⟩ : ∃ u, us[n]? = some u := ⟨us[n], by simp [hul, hlt]⟩
        have hcu : wr.cell? ⟨w2.heap.size, n, none⟩ = some u := by rw [(unhide HBU).cell n, hu]
        have hfu : wr.frozen? ⟨w2.heap.size, n, none⟩ = false := (unhide HBU).free n
        have hbe : (⟨#[65, 66, 67, 68, 69, 70, 71, 72, 73, 74, 75, 76, 77, 78, 79, 80, 81, 82, 83, 84, 85, 86, 87, 88, 89, 90, 95, 46]⟩ : ByteArray)[k].toNat = letter k := byt_eq signB k hk26
        have hne1 : w2.heap.size ≠ wr.heap.size := by omega
        have hfin : Hid (LtRel its cs w w2.heap.size (.int .i64 ((n : Int) + 1)) ((wr.setCell ⟨w2.heap.size, n, none⟩ (.int .u8 (letter k))).alloc (.cells #[.int .i64 x.1, .int .i64 k, .int .u16 st] 73)) ∧
            ((wr.setCell ⟨w2.heap.size, n, none⟩ (.int .u8 (letter k))).alloc (.cells #[.int .i64 x.1, .int .i64 k, .int .u16 st] 73)).ownsRow w1.heap.size 73 3 (.slice (some ⟨g, 0, none⟩) cs.length cap) cs.length (spCells its (rulesOf L) cs [])) := hide (by
          refine ⟨?_, (own_set_ne (unhide HOR) _ _ ((unhide HBU).ne_row (unhide HOR) (by decide))).alloc _⟩
          have h := lt_step (its := its) (unhide HX) (unhide HBU) hul hb hs2 (unhide HK)
          rw [unhide HKK] at h
          exact h.alloc _)
        clear hl1 hl2 hl3 hx hkk hu
        go_wp2
        go_roundw
        case rel => first | exact unhide hfin | ((repeat apply Exists.intro); exact ⟨unhide hfin, rfl⟩)
        case measure => simp [intOf]; omega
      · have hnn : n = cs.length := by omega
        have hconv := conv_letters (lns := lns) (unhide HBU) (fun k x hk hx => unhide HK k x (by omega) hx) (fun c => (unhide HLT c).1)
        go_wp2
        go_ret3
        exact ⟨by rw [unhide hout]; rfl, hb⟩
end Go.Proofs.YtoolbbhbknaidaaGreatDoor
