/- The program's split of a text. -/
import Derived.Test.YtkinfleecfddlaaGreatDoorClsE
import Derived.Laws.MakeOwn
namespace Go.Proofs.YtkinfleecfddlaaGreatDoor
open Go.RowKit

set_option maxRecDepth 100000 in
set_option maxHeartbeats 400000 in
theorem stray_any (c n : Int) (w : World) : Calls Tryz.prog 48 #[.int .i32 c, .int .i64 n] w fun e w' => e = .returned (.bool (strayB c n)) ∧ w = w' := by
  go_enter Tryz.func48, Tryz.ntmps48
  go_wp2
  all_goals go_ret
  all_goals exact ⟨ret_bool (by unfold strayB; rw [Bool.eq_iff_iff]; simp_all), rfl⟩

theorem needs_one {c : Nat} (h : (Cu.needs c).1 = 1) : c < 128 := by
  unfold Cu.needs at h
  repeat' split at h
  all_goals first | omega | (simp at h)
theorem dec_bad {s : ByteArray} {i : Nat} (hi : i < s.size) (hb : Cu.bad s.data.toList i = true) : Lib.decodeGo (s.extract i s.size) = (65533, 1) := by
  rw [decGo s i (by omega), if_pos hi, Cu.dec_well _ _ (by rw [len_toList]; exact hi), if_neg]
  unfold Cu.bad at hb
  simp only [decide_eq_true_eq] at hb
  have := Cu.well_le s.data.toList i
  omega
theorem dec_good {s : ByteArray} {i : Nat} (hi : i < s.size) (hb : Cu.bad s.data.toList i = false) :
    Lib.decodeGo (s.extract i s.size) = (Cu.code s.data.toList i (Cu.well s.data.toList i).2, (Cu.well s.data.toList i).2) ∧ strayB (Cu.code s.data.toList i (Cu.well s.data.toList i).2 : Nat) ((Cu.well s.data.toList i).2 : Nat) = false := by
  unfold Cu.bad at hb
  simp only [decide_eq_false_iff_not] at hb
  have hw := Cu.well_le s.data.toList i
  refine ⟨?_, ?_⟩
  · rw [decGo s i (by omega), if_pos hi, Cu.dec_well _ _ (by rw [len_toList]; exact hi), if_pos (by omega)]
  · unfold strayB
    rw [decide_eq_false_iff_not]
    rintro ⟨h1, h2⟩
    have hn : (Cu.well s.data.toList i).2 = 1 := by omega
    rw [hn] at h1
    have hc : Cu.code s.data.toList i 1 = Cu.byt s.data.toList i := rfl
    rw [hc] at h1
    have hne : (Cu.needs (Cu.byt s.data.toList i)).1 = 1 := by
      have : (Cu.well s.data.toList i).2 = (Cu.needs (Cu.byt s.data.toList i)).1 := by
        unfold Cu.well; split
        · rename_i h0; exact h0.symm
        · rfl
      omega
    have := needs_one hne
    omega
theorem symOf_bad (its : List KItem) : symOf its (-1) = 26 := by
  unfold symOf
  have : its.find? (fun o => Cu.hit (-1) o.2) = none := by
    rw [List.find?_eq_none]
    intro y _
    unfold Cu.hit
    simp only [decide_eq_true_eq]
    omega
  rw [this]; rfl

def spCells (its : List KItem) : List Cu.Chr → List Value
  | [] => []
  | x :: r => [.int .i64 x.1, .int .i64 (symOf its x.2.2)] ++ spCells its r
theorem spCells_snoc (its : List KItem) (l : List Cu.Chr) (x : Cu.Chr) : spCells its (l ++ [x]) = spCells its l ++ [.int .i64 x.1, .int .i64 (symOf its x.2.2)] := by
  induction l with
  | nil => rfl
  | cons y l ih => simp [spCells, ih]
theorem Tryz.info62 : (Tryz.prog.info? 62).map (fun i => (i.zero, i.size, i.bytes)) = some (some (.agg #[.int .i64 0, .int .i64 0]), 2, 16) := by kernel_rfl

def SplitRel (s : ByteArray) (its : List KItem) (w : World) (v x : Value) (wr : World) : Prop :=
  ∃ (i f cap : Nat) (l : List Cu.Chr) (a : Option Addr), i ≤ s.size ∧ s.size ≤ i + f ∧ x = .int .i64 i ∧ v = .slice a l.length cap ∧ l.length ≤ i ∧ wr.ownsRow w.heap.size 62 2 (.slice a l.length cap) l.length (spCells its l) ∧ Below w.heap.size w wr ∧
    l ++ Cu.charsGo s.data.toList f i = Cu.chars s.data.toList
def SplitRes (s : ByteArray) (its : List KItem) (w : World) (e : Ending) (w' : World) : Prop :=
  ∃ (a : Option Addr) (cap : Nat), e = .returned (.slice a (Cu.chars s.data.toList).length cap) ∧ w'.ownsRow w.heap.size 62 2 (.slice a (Cu.chars s.data.toList).length cap) (Cu.chars s.data.toList).length (spCells its (Cu.chars s.data.toList)) ∧ Below w.heap.size w w'
theorem split_done {s : ByteArray} {its : List KItem} {i f cap cap' : Nat} {l : List Cu.Chr} {a a' : Option Addr} {w w1 W w2 : World} {n : Int} (hi : i < s.size) (hf : s.size ≤ i + (f + 1)) (hl : l.length ≤ i) (hb : Below w.heap.size w w1) (hW : Below w1.heap.size w1 W) (hO : w1.ownsRow w.heap.size 62 2 (.slice a l.length cap) l.length (spCells its l))
    (ho : w2.ownsRow w.heap.size 62 2 (.slice a' (l.length + 1) cap') (l.length + 1) (spCells its l ++ [.int .i64 i, .int .i64 (symOf its (Cu.chCode s.data.toList i))])) (hg : W.grownBy w2 (Value.slice a l.length cap).ownBlock)
    (hgo : l ++ Cu.charsGo s.data.toList (f + 1) i = Cu.chars s.data.toList) (hn : n = (Cu.chN s.data.toList i : Nat)) : SplitRel s its w (.slice a' (l.length + 1) cap') (.int .i64 ((i : Int) + n)) w2 := by
  subst hn
  have hlen : (l ++ [(i, Cu.chN s.data.toList i, Cu.chCode s.data.toList i)]).length = l.length + 1 := by simp
  have hn := Cu.chN_pos s.data.toList i
  rw [len_toList] at hn
  refine ⟨i + Cu.chN s.data.toList i, f, cap', l ++ [(i, Cu.chN s.data.toList i, Cu.chCode s.data.toList i)], a', hn.2.2 hi, by omega, by go_num, by rw [hlen], by rw [hlen]; omega, ?_, ?_, ?_⟩
  · rw [hlen, spCells_snoc]; exact ho
  · have h1 := hb.size
    exact (hb.trans (hW.mono h1)).grown hg (by have := hW.size; omega) (fun k hk => (hO.lt k hk).1)
  · rw [← hgo, Cu.charsGo_step (by rw [len_toList]; exact hi)]; simp

set_option maxRecDepth 100000 in
set_option maxHeartbeats 2000000 in
theorem split_any (s : ByteArray) (B : Nat) (nm : Nat → Bool) (its : List KItem) (rs : List PLn) (w : World) (hs : s.size ≤ 1048576) (hB : BookAt w B nm its rs) (hlen : its.length ≤ 2400) (hS : Sep its) (hT : Tabs w) :
    Calls Tryz.prog 28 #[.pointer (some ⟨B, 0, none⟩), .string s] w fun e w' => SplitRes s its w e w' := by
  obtain ⟨i0, ki, kz0, kz1, kz2⟩ := info_parts Tryz.info62
  have hTB : Hid (∀ wr, Below w.heap.size w wr → Tabs wr ∧ BookAt wr B nm its rs) := hide (fun wr hb => ⟨tabs_grown hT (grown_of_below hb none) (by simp) (by simp), hB.below hb⟩)
  have HS := hide hS
  clear hT hB hS
  go_enter Tryz.func28, Tryz.ntmps28
  go_wp2_with fail
  refine (Tryz.utf8_RuneCountInString s _ (by omega)).mono ?_
  rintro e W ⟨rfl, pos, rfl⟩
  have hrc := Lib.runeCount_le s
  have hbi : Below w.heap.size w (w.iter s pos) := (Below.refl _ _).alloc (Nat.le_refl _) _
  generalize hWi : w.iter s pos = W at hbi ⊢
  generalize Lib.runeCount s = rc at hrc ⊢
  obtain ⟨wm, hmk, hom, hgm⟩ := run_make_own (P := Tryz.prog) W w.heap.size 58 62 i0 (.agg #[.int .i64 0, .int .i64 0]) 2 Tryz.underlying58 ki kz0 kz1 .i64 .i64 rc (by rw [kz2]; omega) (by unfold maxLen; omega) hbi.size
  have hbm : Below w.heap.size w wm := hbi.grown hgm hbi.size (fun k hk => by cases hk)
  have HOM := hide hom
  have HBM := hide hbm
  clear hom hgm hbm hWi hbi
  go_wp2
  go_loopw [5, 6] (fun v x wr => SplitRel s its w v x wr) (fun _ x _ => s.size + 1 - (intOf x).toNat)
  case atStart =>
    go_light
    exact ⟨0, s.size, rc, [], some ⟨W.heap.size, 0, none⟩, Nat.zero_le _, by omega, rfl, rfl, Nat.le_refl _, unhide HOM, unhide HBM, by unfold Cu.chars; rw [len_toList]; rfl⟩
  case round =>
    obtain ⟨i, f, cap, l, a, hi, hf, rfl, rfl, hl, hown, hb, hgo⟩ := hrel
    have HO := hide hown
    have HG := hide hgo
    have HB := hide hb
    have hbs := hb.size
    clear hown hgo hb
    by_cases hlt : i < s.size
    · obtain ⟨g, rfl⟩ : ∃ g, f = g + 1 := ⟨f - 1, by omega⟩
      have hn := Cu.chN_pos s.data.toList i
      rw [len_toList] at hn
      have hn3 := hn.2.2 hlt
      have hn1 := hn.1
      clear hn
      have hcap : (l.length + 1) * 16 ≤ 140737488355328 := by omega
      have hmax : l.length + 1 ≤ maxLen := by unfold maxLen; omega
      have hTr := (unhide hTB wr (unhide HB)).1
      cases hbad : Cu.bad s.data.toList i with
      | true =>
        have hdec := dec_bad hlt hbad
        have hcode : Hid (Cu.chCode s.data.toList i = -1) := hide (by unfold Cu.chCode; rw [if_pos hbad])
        have hchn : Hid ((1 : Int) = (Cu.chN s.data.toList i : Nat)) := hide (by unfold Cu.chN; rw [if_pos hbad]; rfl)
        have hch1 : Cu.chN s.data.toList i = 1 := by unfold Cu.chN; rw [if_pos hbad]
        clear hbad
        go_wp2_with fail
        refine (Tryz.utf8_DecodeRuneInString _ _ hTr).mono ?_
        rintro e w1 ⟨rfl, hb1⟩
        rw [hdec]
        have hO1 := hide (own_below (unhide HO) hb1)
        have hB1 := hide (below_two hb1 (unhide HB))
        have hs1 := hb1.size
        have hst : strayB 65533 1 = true := rfl
        clear hb1 hdec hTr
        go_wp2_with fail
        refine (stray_any _ _ _).mono ?_
        rintro e w1' ⟨rfl, rfl⟩
        rw [hst]
        go_wp2_with (at_builtin; refine wpList_append_own _ rfl (.tmp 31) (.tmp 35) 58 rfl w.heap.size 62 i0 (.agg #[.int .i64 0, .int .i64 0]) 2 16 Tryz.underlying58 ki kz0 kz1 kz2 rfl (by decide) (.slice a l.length cap) l.length (spCells its l) rfl ((unhide hO1).alloc _) ⟨w1.heap.size, 0, none⟩ 1 1 [.int .i64 i, .int .i64 26] rfl rfl (news_new _ _ rfl _ _) (one2 _ _) hmax hcap (by simp; omega) ?_; intro v' w2 hown' hgrow _; refine Hid.out ?_)
        refine hide ?_
        obtain ⟨a', cap', hv'⟩ := own_form hown'
        subst hv'
        have hrel2 := hide (split_done (its := its) hlt hf hl (unhide hB1) ((Below.refl _ _).alloc (Nat.le_refl _) _) (unhide hO1) (by rw [unhide hcode, symOf_bad]; exact hown') hgrow (unhide HG) (unhide hchn))
        clear hown' hgrow
        go_wp2
        go_roundw
        case rel => first | exact unhide hrel2 | ((repeat apply Exists.intro); exact ⟨unhide hrel2, rfl⟩)
        case measure => simp [intOf]; omega
      | false =>
        obtain ⟨hdec, hst⟩ := dec_good hlt hbad
        have hcode : Hid (Cu.chCode s.data.toList i = (Cu.code s.data.toList i (Cu.well s.data.toList i).2 : Nat)) := hide (by unfold Cu.chCode; rw [if_neg (by rw [hbad]; decide)])
        have hchn : Hid (((Cu.well s.data.toList i).2 : Int) = (Cu.chN s.data.toList i : Nat)) := hide (by unfold Cu.chN; rw [if_neg (by rw [hbad]; decide)])
        have hch1 : Cu.chN s.data.toList i = (Cu.well s.data.toList i).2 := by unfold Cu.chN; rw [if_neg (by rw [hbad]; decide)]
        clear hbad
        generalize hcd : Cu.code s.data.toList i (Cu.well s.data.toList i).2 = cd at hdec hst hcode
        clear hcd
        go_wp2_with fail
        refine (Tryz.utf8_DecodeRuneInString _ _ hTr).mono ?_
        rintro e w1 ⟨rfl, hb1⟩
        rw [hdec]
        have hO1 := hide (own_below (unhide HO) hb1)
        have hB1 := hide (below_two hb1 (unhide HB))
        have hs1 := hb1.size
        clear hb1 hdec hTr
        go_wp2_with fail
        refine (stray_any _ _ _).mono ?_
        rintro e w1' ⟨rfl, rfl⟩
        rw [hst]
        go_wp2_with fail
        refine (symbol_any B cd nm its rs _ (unhide hTB w1 (unhide hB1)).2 hlen (unhide HS)).mono ?_
        rintro e w3 ⟨rfl, hb3⟩
        have hO3 := hide (own_below (unhide hO1) hb3)
        have hB3 := hide (below_two hb3 (unhide hB1))
        have hs3 := hb3.size
        clear hb3
        go_wp2_with (at_builtin; refine wpList_append_own _ rfl (.tmp 31) (.tmp 35) 58 rfl w.heap.size 62 i0 (.agg #[.int .i64 0, .int .i64 0]) 2 16 Tryz.underlying58 ki kz0 kz1 kz2 rfl (by decide) (.slice a l.length cap) l.length (spCells its l) rfl ((unhide hO3).alloc _) ⟨w3.heap.size, 0, none⟩ 1 1 [.int .i64 i, .int .i64 (symOf its cd)] rfl rfl (news_new _ _ rfl _ _) (one2 _ _) hmax hcap (by simp; omega) ?_; intro v' w2 hown' hgrow _; refine Hid.out ?_)
        refine hide ?_
        obtain ⟨a', cap', hv'⟩ := own_form hown'
        subst hv'
        have hrel2 := hide (split_done (its := its) hlt hf hl (unhide hB3) ((Below.refl _ _).alloc (Nat.le_refl _) _) (unhide hO3) (by rw [unhide hcode]; exact hown') hgrow (unhide HG) (unhide hchn))
        clear hown' hgrow
        go_wp2
        go_roundw
        case rel => first | exact unhide hrel2 | ((repeat apply Exists.intro); exact ⟨unhide hrel2, rfl⟩)
        case measure => simp [intOf]; omega
    · have hr : Hid (SplitRes s its w (.returned (.slice a l.length cap)) wr) := hide (by
        have e1 : l = Cu.chars s.data.toList := by rw [← unhide HG, Cu.charsGo_end (by rw [len_toList]; omega), List.append_nil]
        rw [e1] at HO ⊢
        exact ⟨a, cap, rfl, unhide HO, unhide HB⟩)
      go_wp2
      go_ret
      exact unhide hr
end Go.Proofs.YtkinfleecfddlaaGreatDoor
