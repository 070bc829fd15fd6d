/- The program's Cut. -/
import Derived.Test.YtkinfleecfddlaaGreatDoorMacV
import Derived.Test.YtkinfleecfddlaaGreatDoorMacF
namespace Go.Proofs.YtkinfleecfddlaaGreatDoor
open Go.RowKit Go.Maps

theorem off_lt {rs : List PLn} {t m : Nat} {x : PLn} (hx : rs[t]? = some x) (hm : m < x.1.left.length) : off rs t + m < off rs rs.length := by
  have h1 := off_succ hx
  have h2 := off_mono rs (show t + 1 ≤ rs.length from (List.getElem?_eq_some_iff.1 hx).1)
  omega
theorem macOk {lns : List Cu.Ln} {rs : List PLn} (h : RulesOk lns rs) : MacOk (newP rs) := by
  obtain ⟨f1, f2, f3, f4⟩ := newP_facts rs h.l4 h.n12
  obtain ⟨n1, n2, n3, n4, n5, n6⟩ := newOk_any rs h.how
  have h12 := h.n12
  have hlen : (newP rs).2.1.1.length ≤ 64 := by omega
  refine ⟨f3, f1.1, f1.2, hlen, by omega, ?_, ?_⟩
  · intro x hx
    obtain ⟨t, ht⟩ := List.getElem?_of_mem hx
    have htl : t < rs.length := by rw [← n6]; exact (List.getElem?_eq_some_iff.1 ht).1
    obtain ⟨la, e1, e2⟩ := n5 t rs[t] (by simp [htl])
    rw [ht] at e1
    simp only [Option.some.injEq] at e1
    subst e1
    apply Nat.lt_pow_two_of_testBit (n := 64)
    intro j hj
    cases hb : la.testBit j with
    | false => rfl
    | true =>
      obtain ⟨m, g1, g2, _⟩ := (e2 j).1 hb
      have := off_lt (show rs[t]? = some rs[t] by simp [htl]) g1
      omega
  · intro k j hj
    obtain ⟨t, x, m, y, g1, g2, g3, _⟩ := (n4 k j).1 hj
    have := off_lt g1 (List.getElem?_eq_some_iff.1 g2).1
    omega
theorem rights_at {lns : List Cu.Ln} {L : List PLn} {w : World} {base : Nat} (h : RulesOk lns (rulesOf L)) (h4 : ∀ x ∈ rulesOf L, x.1.right.length ≤ 4) (ho : PLinesOwn w base L) : RightsAt w (newP (rulesOf L)).2.2 := by
  obtain ⟨n1, n2, n3, n4, n5, n6⟩ := newOk_any (rulesOf L) h.how
  intro x hx
  obtain ⟨t, ht⟩ := List.getElem?_of_mem hx
  have htl : t < (rulesOf L).length := by rw [← n6]; exact (List.getElem?_eq_some_iff.1 ht).1
  obtain ⟨la, e1, _⟩ := n5 t (rulesOf L)[t] (by simp [htl])
  rw [ht] at e1
  simp only [Option.some.injEq] at e1
  subst e1
  have hmem : (rulesOf L)[t] ∈ rulesOf L := List.getElem_mem _
  have h0 : (rulesOf L)[t].1.op ≠ 0 := by
    have := (List.mem_filter.1 hmem).2
    simpa using this
  have := ho _ (List.mem_filter.1 hmem).1
  unfold PLnOwn at this
  rw [if_neg h0] at this
  exact ⟨base, this, h4 _ hmem⟩
/-- The machine as it is made has one state, that no text comes to. -/
theorem run_start {w : World} {M mb : Nat} {p : Nat × Ms × List Sd} (hS : SdAt w M p (.map (some mb)) (.slice (some ⟨mb + 1, 0, none⟩) 1 1)) (hm : w.heap[mb]? = some (.map #[] 0)) (hB : Blk w (mb + 1) state0 183) (hM : mb < M) : RunAt w M mb p [(0, 0, fun _ => 0)] := by
  obtain ⟨a, c, h1, h2⟩ := hS
  refine ⟨a, some ⟨mb + 1, 0, none⟩, c, 1, .map [], h1, h2, ?_, ?_, ?_, hM⟩
  · exact ⟨rfl, Or.inr ⟨mb + 1, 1, state0.toArray, rfl, by omega, hB, Nat.le_refl _, by decide, rfl, rfl⟩⟩
  · exact ⟨#[], 0, hm, ⟨by simp, Go.MapKept.stamped_empty 0, by simp⟩, Nat.zero_le _, rfl⟩
  · intro m hm
    refine ⟨?_, fun _ => rfl⟩
    intro i s h1 h2
    rw [List.getElem?_eq_none (by simpa using h1)] at h2
    cases h2
theorem good_start (p : Nat × Ms × List Sd) : Good p [(0, 0, fun _ => 0)] := by
  refine ⟨Nat.le_refl _, ?_, ?_⟩
  · intro i s h1 h2
    rw [List.getElem?_eq_none (by simpa using h1)] at h2
    cases h2
  · intro i s k h1 h2
    rw [List.getElem?_eq_none (by simpa using h1)] at h2
    cases h2
theorem chars_first {s : List UInt8} {x : Cu.Chr} (h : (Cu.chars s)[0]? = some x) : x.1 = 0 := by
  unfold Cu.chars at h
  cases hn : s.length with
  | zero => rw [hn] at h; simp [Cu.charsGo] at h
  | succ n =>
    rw [hn, Cu.charsGo, if_pos (by omega)] at h
    simp only [List.getElem?_cons_zero, Option.some.injEq] at h
    subst h
    rfl
theorem chars_none {s : List UInt8} : (Cu.chars s).length = 0 ↔ s.length = 0 := by
  unfold Cu.chars
  cases hn : s.length with
  | zero => simp [Cu.charsGo]
  | succ n => rw [Cu.charsGo, if_pos (by omega)]; simp
/-- The symbols of a text's characters. -/
def symsOf (its : List KItem) (cs : List Cu.Chr) : List Nat := cs.map fun x => (symOf its x.2.2).toNat
theorem symsOf_get {its : List KItem} {cs : List Cu.Chr} {lns : List Cu.Ln} (hl : ∀ c, letter (symOf its c) = Cu.classOf lns c ∧ 0 ≤ symOf its c ∧ symOf its c ≤ 26) {i : Nat} {x : Cu.Chr} (hx : cs[i]? = some x) : ∃ k, (symsOf its cs)[i]? = some k ∧ symOf its x.2.2 = (k : Int) ∧ k < 27 := by
  obtain ⟨h1, h2, h3⟩ := hl x.2.2
  refine ⟨(symOf its x.2.2).toNat, ?_, by omega, by omega⟩
  unfold symsOf
  rw [List.getElem?_map, hx]
  rfl
theorem agree_of {its : List KItem} {cs : List Cu.Chr} {lns : List Cu.Ln} (hl : ∀ c, letter (symOf its c) = Cu.classOf lns c ∧ 0 ≤ symOf its c ∧ symOf its c ≤ 26) : Agree (symsOf its cs) (Cu.clsAt lns cs) := by
  refine ⟨by unfold symsOf Cu.clsAt; simp, ?_⟩
  intro i k c h1 h2
  have hi : i < cs.length := by have := (List.getElem?_eq_some_iff.1 h1).1; unfold symsOf at this; simpa using this
  obtain ⟨k', e1, e2, e3⟩ := symsOf_get (lns := lns) hl (show cs[i]? = some cs[i] by simp [hi])
  rw [h1] at e1
  simp only [Option.some.injEq] at e1
  subst e1
  refine ⟨by omega, ?_⟩
  unfold Cu.clsAt at h2
  rw [List.getElem?_map, show cs[i]? = some cs[i] by simp [hi]] at h2
  simp only [Option.map_some, Option.some.injEq] at h2
  subst h2
  obtain ⟨g1, _, _⟩ := hl cs[i].2.2
  rw [← e2, g1]
  have := letter_lt (symOf its cs[i].2.2)
  rw [g1] at this
  simp only [UInt8.toNat_ofNat']
  omega
theorem runOk {its : List KItem} {lns : List Cu.Ln} {rs : List PLn} {t : List UInt8} (hr : RulesOk lns rs) (hl : ∀ c, letter (symOf its c) = Cu.classOf lns c ∧ 0 ≤ symOf its c ∧ symOf its c ≤ 26) :
    RunOk (newP rs) its (Cu.chars t) (symsOf its (Cu.chars t)) (fun n => runM rs ((symsOf its (Cu.chars t)).take n)) lns := by
  refine ⟨by unfold symsOf; simp, fun i x hx => symsOf_get hl hx, rfl, ?_, ?_, fun x hx => chars_first hx⟩
  · intro n k hk
    rw [List.take_add_one, hk]
    unfold runM
    rw [List.foldl_append]
    rfl
  · intro n hn _
    rw [cut_place hr (agree_of hl) n]
    unfold Cu.cutAt
    have : (n == 0) = false := by simpa using (by omega : n ≠ 0)
    rw [this]
    rfl
theorem mOut_eq (lns : List Cu.Ln) (t : ByteArray) : mOut lns (Cu.chars t.data.toList) t.size = Cu.cutsR lns t.data.toList := by
  unfold mOut Cu.cutsR
  by_cases h : (Cu.chars t.data.toList).length = 0
  · have h2 := chars_none.1 h
    rw [if_pos h, if_neg (by omega), h]
    rfl
  · have h2 : ¬ t.data.toList.length = 0 := fun e => h (chars_none.2 e)
    rw [if_neg h, if_pos (by omega), len_toList]

set_option maxRecDepth 100000 in
set_option maxHeartbeats 2000000 in
theorem pcut_any (f t : ByteArray) (w : World) (hf : f.size ≤ 9223372036854775807) (ht : t.size ≤ 1048576) (hT : Tabs w) (hw3 : 3 < w.heap.size) (hg : ErrT w) (hz : Tz w) :
    Calls Tryz.prog 16 #[.string f, .string t] w fun e w' => CutRes f t w e w' := by
  go_enter Tryz.func16, Tryz.ntmps16
  go_wp2_with fail
  refine (readBook_full f _ hf hT (by omega)).mono ?_
  rintro e w1 (⟨c, p, hc, hc0, rfl, hb⟩ | ⟨B, hc, rfl, hbook, hb⟩)
  · have hg1 : ErrT w1 := by unfold ErrT; rw [cell_below hb (by show 0 < w.heap.size; omega)]; exact hg
    have HB := hide hb
    have HG := hide hg1
    have hout : Hid (∀ w', Below w.heap.size w w' → CutRes f t w (.returned (.tuple #[.slice none 0 0, .int .i64 (c : Int), .int .i64 (p : Int)])) w') := hide (fun w' hw' => Or.inl ⟨by rw [hc]; exact hc0, by rw [hc], hw'⟩)
    clear hc hb hg1 hg hT hz hc0
    unfold brokenV
    go_wp2_with fail
    refine (told_hit (c : Int) (p : Int) w1 (unhide HG)).mono ?_
    rintro e w2 ⟨rfl, hb2⟩
    have HB2 := hide (unhide hout w2 (below_two hb2 (unhide HB)))
    clear hb2
    go_wp2
    go_ret3
    exact unhide HB2
  · have hsz : f.size ≤ 200 := (check_ok (show (Cu.check f.data.toList).1 = 0 by rw [hc])).1
    obtain ⟨p, lns, L, nm, its, hrd, hL, hperm, hri, htd, hlen, hBk, hPL, hBb⟩ := hbook
    have hrules := rules_ok hsz hrd hL
    have hR4 : ∀ x ∈ rulesOf L, x.1.right.length ≤ 4 := fun x hx => ((lines_ok hsz hrd hL).1 x (List.mem_filter.1 hx).1).2.2.2.2
    have HRT := hide (rights_at hrules hR4 hPL)
    have HOK := hide (macOk hrules)
    have HRUN := hide (runOk (t := t.data.toList) hrules (book_letter hrd hperm htd))
    have HSEP := hide (sep_of hperm hri htd)
    have hT1 := tabs_below hT hb
    have hz1 := hz.below hb hw3
    obtain ⟨ai, ar, ci, cr, hB1, hB2, hB3⟩ := id hBk
    have hbc : w1.cell? ⟨B, 27, none⟩ = some (.slice ar (rulesOf L).length cr) := hB1.cell 27
    have hnew := newMachine_any (rulesOf L) ar cr B w1 hB3 hrules.n12 hrules.l4
    have hs1 := hb.size
    have HC := hide hc
    have HRD := hide hrd
    have HB := hide hb
    have HBK := hide hBk
    have HT1 := hide hT1
    have HZ1 := hide hz1
    have HNEW := hide hnew
    clear hc hb hg hT hz hrd hL hperm hri htd hBk hPL hT1 hz1 hnew hB1 hB2 hB3 hrules hR4
    go_wp2_with fail
    refine (unhide HNEW).mono ?_
    rintro e w2 ⟨rfl, hsd, hmp, hst, hb2⟩
    have HRA := hide (run_start hsd hmp hst (by omega))
    have HB2 := hide hb2
    have hs2 := hb2.size
    clear hsd hmp hst hb2
    go_wp2_with fail
    refine (split_any t B nm its _ _ ht ((unhide HBK).below (unhide HB2)) hlen (unhide HSEP) (tabs_below (unhide HT1) (unhide HB2))).mono ?_
    rintro e w3 ⟨a, cap, rfl, hO, hb3⟩
    have hcl := chars_len t
    have HO := hide hO
    have HB3 := hide hb3
    have hs3 := hb3.size
    clear hO hb3
    go_wp2_with fail
    refine (mcuts_any (w1.heap.size + 2) w1.heap.size _ _ its _ _ _ lns a cap _ t.size w3 ((unhide HRA).below (unhide HB3)) (good_start _) (Nat.le_refl _) (unhide HOK) (((unhide HZ1).below (unhide HB2) (by omega)).below (unhide HB3) (by omega)) (by omega) (unhide HO) (unhide HRUN) (((unhide HRT).below (unhide HB2)).below (unhide HB3)) (by omega)).mono ?_
    rintro e w4 ⟨a4, c4, rfl, ho4, hf4⟩
    have hfin : Hid (CutRes f t w (.returned (.tuple #[.slice a4 (mOut lns (Cu.chars t.data.toList) t.size).length c4, .int .i64 0, .int .i64 0])) w4) := hide (by
      rw [mOut_eq] at ho4 ⊢
      have e1 : (Cu.readGo f.data.toList 12 0 []).2.2 = lns := by rw [unhide HRD]
      refine Or.inr ⟨by rw [unhide HC], a4, c4, by rw [e1], by rw [e1]; exact own_base ho4 (by omega), ?_⟩
      exact ((unhide HB).trans ((unhide HB2).mono hs1)).trans (((unhide HB3).mono (by omega)).trans (hf4.1.mono hs1)))
    clear ho4 hf4
    go_wp2
    go_ret3
    exact unhide hfin
end Go.Proofs.YtkinfleecfddlaaGreatDoor
