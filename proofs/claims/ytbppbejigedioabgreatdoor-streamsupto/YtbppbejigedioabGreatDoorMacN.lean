/- The program's Cut. -/
import Derived.Test.YtbppbejigedioabGreatDoorMacV
import Derived.Test.YtbppbejigedioabGreatDoorMacF
namespace Go.Proofs.YtbppbejigedioabGreatDoor
open Go.RowKit Go.Maps

theorem off_lt {rs : List PLn} {t m : Nat} {x : PLn} (hx : rs[t]? = some x) (hm : m < x.1.left.length) : off rs t + m < off rs rs.length := by
  have h1 := off_succ hx
  have h2 := off_mono rs (show t + 1 ≤ rs.length from (List.getElem?_eq_some_iff.1 hx).1)
  omega
theorem macOk {lns : List Cu.Ln} {rs : List PLn} (h : RulesOk lns rs) : MacOk (newP rs) := by
  obtain ⟨f1, f2, f3, f4⟩ := newP_facts rs h.l4 h.n12
  obtain ⟨n1, n2, n3, n4, n5, n6⟩ := newOk_any rs h.how
  have h12 := h.n12
  have hlen : (newP rs).2.1.1.length ≤ 64 := by omega
  refine ⟨f3, f1.1, f1.2, hlen, by omega, ?_, ?_⟩
  · intro x hx
    obtain ⟨t, ht⟩ := List.getElem?_of_mem hx
    have htl : t < rs.length := by rw [← n6]; exact (List.getElem?_eq_some_iff.1 ht).1
    obtain ⟨la, e1, e2⟩ := n5 t rs[t] (by simp [htl])
    rw [ht] at e1
    simp only [Option.some.injEq] at e1
    subst e1
    apply Nat.lt_pow_two_of_testBit (n := 64)
    intro j hj
    cases hb : la.testBit j with
    | false => rfl
    | true =>
      obtain ⟨m, g1, g2, _⟩ := (e2 j).1 hb
      have := off_lt (show rs[t]? = some rs[t] by simp [htl]) g1
      omega
  · intro k j hj
    obtain ⟨t, x, m, y, g1, g2, g3, _⟩ := (n4 k j).1 hj
    have := off_lt g1 (List.getElem?_eq_some_iff.1 g2).1
    omega
/-- The machine as it is made has one state, that no text comes to. -/
theorem run_start {w : World} {M mb : Nat} {p : Nat × Ms × List Sd} (hS : SdAt w M p (.map (some mb)) (.slice (some ⟨mb + 1, 0, none⟩) 1 1)) (hm : w.heap[mb]? = some (.map #[] 0)) (hB : Blk w (mb + 1) state0 262) (hM : mb < M) : RunAt w M mb p [(0, 0, fun _ => 0)] := by
  obtain ⟨a, c, h1, h2⟩ := hS
  refine ⟨a, some ⟨mb + 1, 0, none⟩, c, 1, .map [], h1, h2, ?_, ?_, ?_, hM⟩
  · exact ⟨rfl, Or.inr ⟨mb + 1, 1, state0.toArray, rfl, by omega, hB, Nat.le_refl _, by decide, rfl, rfl⟩⟩
  · exact ⟨#[], 0, hm, ⟨by simp, Go.MapKept.stamped_empty 0, by simp⟩, Nat.zero_le _, rfl⟩
  · intro m hm
    refine ⟨?_, fun _ => rfl⟩
    intro i s h1 h2
    rw [List.getElem?_eq_none (by simpa using h1)] at h2
    cases h2
theorem good_start (p : Nat × Ms × List Sd) : Good p [(0, 0, fun _ => 0)] := by
  refine ⟨Nat.le_refl _, ?_, ?_⟩
  · intro i s h1 h2
    rw [List.getElem?_eq_none (by simpa using h1)] at h2
    cases h2
  · intro i s k h1 h2
    rw [List.getElem?_eq_none (by simpa using h1)] at h2
    cases h2
theorem chars_first {s : List UInt8} {x : Cu.Chr} (h : (Cu.chars s)[0]? = some x) : x.1 = 0 := by
  unfold Cu.chars at h
  cases hn : s.length with
  | zero => rw [hn] at h; simp [Cu.charsGo] at h
  | succ n =>
    rw [hn, Cu.charsGo, if_pos (by omega)] at h
    simp only [List.getElem?_cons_zero, Option.some.injEq] at h
    subst h
    rfl
theorem charsGo_pos (s : List UInt8) (f i n : Nat) (x : Cu.Chr) (h : (Cu.charsGo s f i)[n]? = some x) : i ≤ x.1 ∧ (x.1 = i → n = 0) := by
  induction f generalizing i n with
  | zero => simp [Cu.charsGo] at h
  | succ f ih =>
    rw [Cu.charsGo] at h
    split at h
    · have hp := (Cu.chN_pos s i).1
      cases n with
      | zero =>
        simp only [List.getElem?_cons_zero, Option.some.injEq] at h
        subst h
        exact ⟨Nat.le_refl _, fun _ => rfl⟩
      | succ n =>
        simp only [List.getElem?_cons_succ] at h
        have := (ih (i + Cu.chN s i) n h).1
        exact ⟨by omega, fun e => by omega⟩
    · simp at h
theorem chars_pos {s : List UInt8} {n : Nat} {x : Cu.Chr} (h : (Cu.chars s)[n]? = some x) : x.1 = 0 ↔ n = 0 := by
  constructor
  · intro e
    exact (charsGo_pos s _ 0 n x h).2 e
  · intro e
    subst e
    exact chars_first h
theorem chars_none {s : List UInt8} : (Cu.chars s).length = 0 ↔ s.length = 0 := by
  unfold Cu.chars
  cases hn : s.length with
  | zero => simp [Cu.charsGo]
  | succ n => rw [Cu.charsGo, if_pos (by omega)]; simp
/-- The symbols of a text's characters. -/
def symsOf (its : List KItem) (cs : List Cu.Chr) : List Nat := cs.map fun x => (symOf its x.2.2).toNat
theorem symsOf_get {its : List KItem} {cs : List Cu.Chr} {lns : List Cu.Ln} (hl : ∀ c, letter (symOf its c) = Cu.classOf lns c ∧ 0 ≤ symOf its c ∧ symOf its c ≤ 26) {i : Nat} {x : Cu.Chr} (hx : cs[i]? = some x) : ∃ k, (symsOf its cs)[i]? = some k ∧ symOf its x.2.2 = (k : Int) ∧ k < 27 := by
  obtain ⟨h1, h2, h3⟩ := hl x.2.2
  refine ⟨(symOf its x.2.2).toNat, ?_, by omega, by omega⟩
  unfold symsOf
  rw [List.getElem?_map, hx]
  rfl
theorem agree_of {its : List KItem} {cs : List Cu.Chr} {lns : List Cu.Ln} (hl : ∀ c, letter (symOf its c) = Cu.classOf lns c ∧ 0 ≤ symOf its c ∧ symOf its c ≤ 26) : Agree (symsOf its cs) (Cu.clsAt lns cs) := by
  refine ⟨by unfold symsOf Cu.clsAt; simp, ?_⟩
  intro i k c h1 h2
  have hi : i < cs.length := by have := (List.getElem?_eq_some_iff.1 h1).1; unfold symsOf at this; simpa using this
  obtain ⟨k', e1, e2, e3⟩ := symsOf_get (lns := lns) hl (show cs[i]? = some cs[i] by simp [hi])
  rw [h1] at e1
  simp only [Option.some.injEq] at e1
  subst e1
  refine ⟨by omega, ?_⟩
  unfold Cu.clsAt at h2
  rw [List.getElem?_map, show cs[i]? = some cs[i] by simp [hi]] at h2
  simp only [Option.map_some, Option.some.injEq] at h2
  subst h2
  obtain ⟨g1, _, _⟩ := hl cs[i].2.2
  rw [← e2, g1]
  have := letter_lt (symOf its cs[i].2.2)
  rw [g1] at this
  simp only [UInt8.toNat_ofNat']
  omega
theorem symB_syms {its : List KItem} (hY : Syms its) (cs : List Cu.Chr) : symB its cs = symN (symsOf its cs) ∧ ∀ b ∈ symsOf its cs, b < 27 := by
  refine ⟨by cases cs <;> rfl, ?_⟩
  intro b hb
  unfold symsOf at hb
  obtain ⟨x, _, rfl⟩ := List.mem_map.1 hb
  have := hY x.2.2
  omega
theorem runOk {its : List KItem} {lns : List Cu.Ln} {rs : List PLn} {t : List UInt8} (hr : RulesOk lns rs) (hl : ∀ c, letter (symOf its c) = Cu.classOf lns c ∧ 0 ≤ symOf its c ∧ symOf its c ≤ 26) :
    RunOk (newP rs) its rs (Cu.chars t) (symsOf its (Cu.chars t)) (fun n => runM rs ((symsOf its (Cu.chars t)).take n)) lns := by
  have hY : Syms its := fun c => (hl c).2
  refine ⟨by unfold symsOf; simp, fun i x hx => symsOf_get hl hx, rfl, ?_, ?_, fun n x hx => chars_pos hx, hr.n12⟩
  · intro n k hk
    rw [List.take_add_one, hk]
    unfold runM
    rw [List.foldl_append]
    rfl
  · intro n x hn hx
    obtain ⟨k, e1, e2, e3⟩ := symsOf_get hl hx
    have hnl : n < (symsOf its (Cu.chars t)).length := (List.getElem?_eq_some_iff.1 e1).1
    have hd : (symsOf its (Cu.chars t)).drop n = k :: symsOf its ((Cu.chars t).drop (n + 1)) := by
      rw [← List.getElem_cons_drop hnl, (List.getElem?_eq_some_iff.1 e1).2]
      unfold symsOf
      rw [List.map_drop]
    obtain ⟨g1, g2⟩ := symB_syms hY ((Cu.chars t).drop (n + 1))
    have hk : (symOf its x.2.2).toNat = k := by rw [e2]; simp
    rw [hk, g1, cutsN_P hr _ k _ e3 g2, ← hd, cut_place hr (agree_of hl) n]
    unfold Cu.cutAt
    have : (n == 0) = false := by simpa using (by omega : n ≠ 0)
    rw [this]
    rfl
theorem mOut_eq (lns : List Cu.Ln) (t : ByteArray) : mOut lns (Cu.chars t.data.toList) t.size = Cu.cutsR lns t.data.toList := by
  unfold mOut Cu.cutsR
  by_cases h : t.size = 0
  · have h2 : t.data.toList.length = 0 := by rw [len_toList]; exact h
    rw [if_pos h, if_neg (by omega), chars_none.2 h2]
    rfl
  · have h2 : ¬ t.data.toList.length = 0 := by rw [len_toList]; exact h
    rw [if_neg h, if_pos (by omega), len_toList]

set_option maxRecDepth 100000 in
set_option maxHeartbeats 2000000 in
theorem pcut_any (f t : ByteArray) (w : World) (hf : f.size ≤ 9223372036854775807) (ht : t.size ≤ 1048576) (hT : Tabs w) (hw3 : 4 < w.heap.size) (hg : ErrT w) (hz : Tz w) :
    Calls Tryz.prog 29 #[.string f, .string t] w fun e w' => CutRes f t w e w' := by
  go_enter Tryz.func29, Tryz.ntmps29
  go_wp2_with fail
  refine (readBook_full f _ hf hT (by omega)).mono ?_
  rintro e w1 (⟨c, p, hc, hc0, rfl, hb⟩ | ⟨B, hc, rfl, hbook, hb⟩)
  · have hg1 : ErrT w1 := by unfold ErrT; rw [cell_below hb (by show 0 < w.heap.size; omega)]; exact hg
    have HB := hide hb
    have HG := hide hg1
    have hout : Hid (∀ w', Below w.heap.size w w' → CutRes f t w (.returned (.tuple #[.slice none 0 0, .int .i64 (c : Int), .int .i64 (p : Int)])) w') := hide (fun w' hw' => Or.inl ⟨by rw [hc]; exact hc0, by rw [hc], hw'⟩)
    clear hc hb hg1 hg hT hz hc0
    unfold brokenV
    go_wp2_with fail
    refine (told_hit (c : Int) (p : Int) w1 (unhide HG)).mono ?_
    rintro e w2 ⟨rfl, hb2⟩
    have HB2 := hide (unhide hout w2 (below_two hb2 (unhide HB)))
    clear hb2
    go_wp2
    go_ret3
    exact unhide HB2
  · have hsz : f.size ≤ 200 := (check_ok (show (Cu.check f.data.toList).1 = 0 by rw [hc])).1
    obtain ⟨p, lns, L, nm, its, hrd, hL, hperm, hri, htd, hlen, hBk, hPL, hBb⟩ := hbook
    have hrules := rules_ok hsz hrd hL
    have HOK := hide (macOk hrules)
    have HRUN := hide (runOk (t := t.data.toList) hrules (book_letter hrd hperm htd))
    have HSEP := hide (sep_of hperm hri htd)
    have HY := hide (show Syms its from fun c => (book_letter hrd hperm htd c).2)
    have hr12 := hrules.n12
    have hT1 := tabs_below hT hb
    have hz1 := hz.below hb hw3
    obtain ⟨ai, ar, ci, cr, hB1, hB2, hB3⟩ := id hBk
    have hbc0 := hB1
    have hs1 := hb.size
    have hBlt := hB1.lt
    have HC := hide hc
    have HRD := hide hrd
    have HB := hide hb
    have HBK := hide hBk
    have HT1 := hide hT1
    have HZ1 := hide hz1
    have HNEW := hide (fun (W : World) (hW : Below w1.heap.size w1 W) => newMachine_any (rulesOf L) ar cr B W (own_below hB3 hW) hrules.n12 hrules.l4)
    have HBC := hide (fun (W : World) (hW : Below w1.heap.size w1 W) => (hbc0.below hW hBlt).cell 27)
    clear hc hb hg hT hz hrd hL hperm hri htd hBk hPL hT1 hz1 hB1 hB2 hB3 hrules hbc0
    go_wp2_with fail
    refine (split_any t B nm its _ _ ht (unhide HBK) hlen (unhide HSEP) (unhide HT1) (unhide HY) hr12).mono ?_
    rintro e w2 ⟨a, cap, rfl, hO, hb2⟩
    have hcl := chars_len t
    have HO := hide hO
    have HB2 := hide hb2
    have hs2 := hb2.size
    have hb27 : (w2.alloc (.cells #[.slice a (Cu.chars t.data.toList).length cap] 133)).cell? ⟨B, 27, none⟩ = some (.slice ar (rulesOf L).length cr) := unhide HBC _ (hb2.alloc hs2 _)
    have HB3 := hide (hb2.alloc hs2 (.cells #[.slice a (Cu.chars t.data.toList).length cap] 133))
    have hBn : B ≠ w2.heap.size := by omega
    have hsz3 : (w2.alloc (.cells #[.slice a (Cu.chars t.data.toList).length cap] 133)).heap.size = w2.heap.size + 1 := by simp
    have hnew2 := unhide HNEW _ (unhide HB3)
    rw [hsz3] at hnew2
    clear hO hb2
    go_wp2_with fail
    refine hnew2.mono ?_
    rintro e w3 ⟨rfl, hsd, hmp, hst, hb3'⟩
    have hb3 : Below (w2.alloc (.cells #[.slice a (Cu.chars t.data.toList).length cap] 133)).heap.size (w2.alloc (.cells #[.slice a (Cu.chars t.data.toList).length cap] 133)) w3 := by rw [hsz3]; exact hb3'
    have HRA := hide (run_start hsd hmp hst (by omega))
    have HPO := hide (own_below (show (w2.alloc (.cells #[.slice a (Cu.chars t.data.toList).length cap] 133)).ownsRow w2.heap.size 133 1 (.slice (some ⟨w2.heap.size, 0, none⟩) 1 1) 1 [.slice a (Cu.chars t.data.toList).length cap] from World.ownsRow_lit w2 #[.slice a (Cu.chars t.data.toList).length cap] 1 (Nat.le_refl _) (by decide) rfl) hb3)
    have HPA : Hid (PartsAt w3 w1.heap.size its (rulesOf L) [Cu.chars t.data.toList] [.slice a (Cu.chars t.data.toList).length cap]) := hide ⟨⟨a, cap, rfl, own_below ((unhide HO).alloc _) hb3⟩, trivial⟩
    have HB4 := hide (below_two hb3 (unhide HB3))
    have HZ3 := hide ((unhide HZ1).below (below_two hb3 (unhide HB3)) (by omega))
    have hcuts := mcuts_any (w2.heap.size + 1 + 2) (w2.heap.size + 1) (newP (rulesOf L)) [(0, 0, fun _ => 0)] its (rulesOf L) [Cu.chars t.data.toList] [.slice a (Cu.chars t.data.toList).length cap] (Cu.chars t.data.toList) _ _ lns (some ⟨w2.heap.size, 0, none⟩) 1 w1.heap.size w2.heap.size t.size w3 (unhide HRA) (good_start _) (Nat.le_refl _) (unhide HOK) (unhide HZ3) (by omega) (unhide HPO) (unhide HPA) (by simp) (unhide HRUN) (by omega) (by simp)
    have HCU := hide hcuts
    clear hsd hmp hst hb3 hb3' hcuts
    go_wp2_with fail
    refine (unhide HCU).mono ?_
    rintro e w4 ⟨a4, c4, rfl, ho4, hf4⟩
    have hfin : Hid (CutRes f t w (.returned (.tuple #[.slice a4 (mOut lns (Cu.chars t.data.toList) t.size).length c4, .int .i64 0, .int .i64 0])) w4) := hide (by
      have hs4 := (unhide HB4).size
      rw [mOut_eq] at ho4 ⊢
      have e1 : (Cu.readGo f.data.toList 12 0 []).2.2 = lns := by rw [unhide HRD]
      refine Or.inr ⟨by rw [unhide HC], a4, c4, by rw [e1], by rw [e1]; exact own_base ho4 (by omega), ?_⟩
      exact ((unhide HB).trans ((unhide HB4).mono hs1)).trans (hf4.1.mono (by omega)))
    clear ho4 hf4
    go_wp2
    go_ret3
    exact unhide hfin
end Go.Proofs.YtbppbejigedioabGreatDoor
