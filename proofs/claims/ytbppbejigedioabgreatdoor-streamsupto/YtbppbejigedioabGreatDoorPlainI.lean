/- The machine's cuts are the document's. -/
import Derived.Test.YtbppbejigedioabGreatDoorPlainX
import Derived.Test.YtbppbejigedioabGreatDoorMacG
import Derived.Test.YtbppbejigedioabGreatDoorCutY
import Derived.Test.YtbppbejigedioabGreatDoorClsY
namespace Go.Proofs.YtbppbejigedioabGreatDoor
open Go.RowKit

theorem leftGo_how (s : List UInt8) (k i : Nat) (l : List Cu.Atom) (h : ∀ x ∈ l, Cu.HowOk x) : ∀ x ∈ (Cu.leftGo s k i l).2, Cu.HowOk x := by
  induction k generalizing i l with
  | zero => exact h
  | succ k ih =>
    rw [Cu.leftGo]
    split
    · split
      · rename_i hh
        refine ih _ _ ?_
        intro x hx
        rcases List.mem_append.1 hx with h1 | h1
        · exact h x h1
        · simp at h1
          subst h1
          unfold Cu.how at hh
          simp only [Bool.and_eq_true] at hh
          have h2 := hh.2
          unfold Cu.isHow at h2
          simp only [decide_eq_true_eq] at h2
          show Cu.byt s (i + 1) = 32 ∨ Cu.byt s (i + 1) = 63 ∨ Cu.byt s (i + 1) = 42 ∨ Cu.byt s (i + 1) = 43
          omega
      · refine ih _ _ ?_
        intro x hx
        rcases List.mem_append.1 hx with h1 | h1
        · exact h x h1
        · simp at h1; subst h1; exact Or.inl rfl
    · exact h
theorem lineAt_how (s : List UInt8) (i : Nat) : ∀ x ∈ (Cu.lineAt s i).2.2.left, Cu.HowOk x := by
  unfold Cu.lineAt
  split
  · intro x hx; simp at hx
  · split
    · unfold Cu.ruleAt
      split
      · exact leftGo_how s 4 i [] (fun x hx => by simp at hx)
      · exact leftGo_how s 4 i [] (fun x hx => by simp at hx)
    · intro x hx; simp at hx
theorem readGo_how (s : List UInt8) (k i : Nat) (l : List Cu.Ln) (h : ∀ x ∈ l, ∀ y ∈ x.left, Cu.HowOk y) : ∀ x ∈ (Cu.readGo s k i l).2.2, ∀ y ∈ x.left, Cu.HowOk y := by
  induction k generalizing i l with
  | zero => exact h
  | succ k ih =>
    have h2 : ∀ x ∈ l ++ [(Cu.lineAt s i).2.2], ∀ y ∈ x.left, Cu.HowOk y := by
      intro x hx
      rcases List.mem_append.1 hx with h1 | h1
      · exact h x h1
      · simp at h1; subst h1; exact lineAt_how s i
    rw [Cu.readGo]
    split
    · intro x hx; simp at hx
    · split
      · exact h2
      · split
        · intro x hx; simp at hx
        · exact ih _ _ h2

theorem lineAt_r2 (s : List UInt8) (i : Nat) : (Cu.lineAt s i).2.2.right.length ≤ 2 := by
  unfold Cu.lineAt
  split
  · exact Nat.zero_le _
  · split
    · unfold Cu.ruleAt
      split
      · have h2 := Cu.rightGo_len s 2 ((Cu.leftGo s 4 i []).1 + 1) []
        simp only [List.length_nil] at h2
        show (Cu.rightGo s 2 ((Cu.leftGo s 4 i []).1 + 1) []).2.length ≤ 2
        omega
      · exact Nat.zero_le _
    · exact Nat.zero_le _
theorem readGo_r2 (s : List UInt8) (k i : Nat) (l : List Cu.Ln) (h : ∀ x ∈ l, x.right.length ≤ 2) : ∀ x ∈ (Cu.readGo s k i l).2.2, x.right.length ≤ 2 := by
  induction k generalizing i l with
  | zero => exact h
  | succ k ih =>
    have h2 : ∀ x ∈ l ++ [(Cu.lineAt s i).2.2], x.right.length ≤ 2 := by
      intro x hx
      rcases List.mem_append.1 hx with h1 | h1
      · exact h x h1
      · simp at h1; subst h1; exact lineAt_r2 s i
    rw [Cu.readGo]
    split
    · intro x hx; simp at hx
    · split
      · exact h2
      · split
        · intro x hx; simp at hx
        · exact ih _ _ h2

theorem stand_all : ∀ n : Fin 256, ∀ s : Fin 27, Cu.isSign n.val = true → standB (Cu.sk n.val) (s.val : Int) = Cu.isB (letter (s.val : Int)) n.val := by decide +kernel
theorem stand_is {sg sym : Nat} (h : Cu.isSign sg = true) (hs : sym ≤ 26) : standB (Cu.sk sg) (sym : Int) = Cu.isB (letter (sym : Int)) sg :=
  stand_all ⟨sg, by unfold Cu.isSign at h; simp at h; omega⟩ ⟨sym, by omega⟩ h

/-- The set behind some symbols. -/
def runM (rs : List PLn) (syms : List Nat) : Nat := syms.foldl (stepNat rs) 0
/-- The symbols and the classes of the same characters. -/
def Agree (syms : List Nat) (cl : List UInt8) : Prop := syms.length = cl.length ∧ ∀ (i k : Nat) (c : UInt8), syms[i]? = some k → cl[i]? = some c → k ≤ 26 ∧ c.toNat = letter (k : Int)
theorem run_met {rs : List PLn} {syms : List Nat} {cl : List UInt8} (hh : ∀ x ∈ rs, ∀ y ∈ x.1.left, Cu.HowOk y) (hs : ∀ x ∈ rs, ∀ y ∈ x.1.left, Cu.isSign y.1 = true) (ha : Agree syms cl) : MetIs rs (runM rs syms) cl.reverse := by
  generalize hm : syms.length = m
  induction m generalizing syms cl with
  | zero =>
    have e1 : syms = [] := List.eq_nil_of_length_eq_zero hm
    have e2 : cl = [] := List.eq_nil_of_length_eq_zero (by rw [← ha.1]; exact hm)
    subst e1 e2
    exact metIs_nil rs
  | succ m ih =>
    rcases List.eq_nil_or_concat syms with rfl | ⟨s', k, rfl⟩
    · simp at hm
    · rcases List.eq_nil_or_concat cl with rfl | ⟨c', c, rfl⟩
      · have := ha.1; simp at this
      · rw [List.concat_eq_append] at hm ha ⊢
        rw [List.concat_eq_append] at ha ⊢
        have hl : s'.length = c'.length := by have := ha.1; simpa using this
        have ha' : Agree s' c' := ⟨hl, fun i k' c0 h1 h2 => ha.2 i k' c0 (by rw [List.getElem?_append_left (List.getElem?_eq_some_iff.1 h1).1]; exact h1) (by rw [List.getElem?_append_left (List.getElem?_eq_some_iff.1 h2).1]; exact h2)⟩
        obtain ⟨hk, hc⟩ := ha.2 s'.length k c (by simp) (by rw [hl]; simp)
        have := ih ha' (by simpa using hm)
        rw [List.reverse_append, List.reverse_singleton, List.singleton_append]
        have e : runM rs (s' ++ [k]) = stepNat rs (runM rs s') k := by unfold runM; rw [List.foldl_append]; rfl
        rw [e]
        refine met_step_ok hh this ?_
        intro x hx y hy
        rw [stand_is (hs x hx y hy) hk, hc]

/-- Is there a cut behind the set m, ahead of the symbols bs? -/
def cutsAtP (sides : List Sd) (m : Nat) (bs : List Int) : Bool :=
  ((sides.find? fun x => (x.2.1 || !(m &&& x.1 == 0)) && standL x.2.2.1.right bs).map fun x => x.2.2.1.op == 124).getD true
theorem standL_behind {l : List Cu.Atom} {syms : List Nat} {cl : List UInt8} (hl : ∀ y ∈ l, Cu.isSign y.1 = true) (ha : Agree syms cl) : standL l (syms.map fun k : Nat => (k : Int)) = Cu.behindP l cl := by
  induction l generalizing syms cl with
  | nil => rfl
  | cons x l ih =>
    cases syms with
    | nil =>
      have : cl = [] := List.eq_nil_of_length_eq_zero (by rw [← ha.1]; rfl)
      subst this
      rfl
    | cons k s =>
      cases cl with
      | nil => have := ha.1; simp at this
      | cons c cl =>
        obtain ⟨hk, hc⟩ := ha.2 0 k c rfl rfl
        have ha' : Agree s cl := ⟨by have := ha.1; simpa using this, fun i k' c' h1 h2 => ha.2 (i + 1) k' c' (by simpa using h1) (by simpa using h2)⟩
        simp only [List.map_cons, standL, Cu.behindP]
        rw [stand_is (hl x (by simp)) hk, hc, ih (fun y hy => hl y (by simp [hy])) ha']
theorem partedP_rules (ls : List Cu.Ln) (a b : List UInt8) : Cu.partedP ls a b = ((ls.find? fun x => !(x.op == 0) && (Cu.aheadP x.left x.left.length a && Cu.behindP x.right b)).map fun x => x.op == 124).getD true := by
  induction ls with
  | nil => rfl
  | cons x ls ih =>
    rw [Cu.partedP, List.find?_cons]
    by_cases h : x.op ≠ 0 ∧ Cu.aheadP x.left x.left.length a = true ∧ Cu.behindP x.right b = true
    · rw [if_pos h]
      have : (!(x.op == 0) && (Cu.aheadP x.left x.left.length a && Cu.behindP x.right b)) = true := by simp [h.1, h.2.1, h.2.2]
      rw [this]; rfl
    · rw [if_neg h, ih]
      have : (!(x.op == 0) && (Cu.aheadP x.left x.left.length a && Cu.behindP x.right b)) = false := by
        cases h1 : (x.op == 0) with
        | true => rfl
        | false =>
          cases h2 : Cu.aheadP x.left x.left.length a with
          | false => rfl
          | true =>
            cases h3 : Cu.behindP x.right b with
            | false => rfl
            | true => exact absurd ⟨by simpa using h1, h2, h3⟩ h
      rw [this]

theorem find_same {α β : Type} {p : α → Bool} {q : β → Bool} {f : α → Bool} {g : β → Bool} {l : List α} {m : List β} (hlen : l.length = m.length) (h : ∀ (i : Nat) (a : α) (b : β), l[i]? = some a → m[i]? = some b → p a = q b ∧ f a = g b) : (l.find? p).map f = (m.find? q).map g := by
  induction l generalizing m with
  | nil =>
    have : m = [] := List.eq_nil_of_length_eq_zero (by rw [← hlen]; rfl)
    subst this
    rfl
  | cons a l ih =>
    cases m with
    | nil => simp at hlen
    | cons b m =>
      obtain ⟨h1, h2⟩ := h 0 a b rfl rfl
      rw [List.find?_cons, List.find?_cons, h1]
      cases q b with
      | true => simp [h2]
      | false => exact ih (by simpa using hlen) (fun i a' b' h1 h2 => h (i + 1) a' b' (by simpa using h1) (by simpa using h2))
theorem rules_lines {L : List PLn} {lns : List Cu.Ln} (hL : L.map Prod.fst = lns.filter isLn) : (rulesOf L).map Prod.fst = lns.filter fun x => !(x.op == 0) := by
  have e1 : (rulesOf L).map Prod.fst = (L.map Prod.fst).filter fun x => !(x.op == 0) := by
    unfold rulesOf
    rw [List.filter_map]
    rfl
  rw [e1, hL, List.filter_filter]
  apply List.filter_congr
  intro x _
  unfold isLn
  cases (x.op == 0) <;> cases (x.name == 0) <;> rfl
/-- What is known of the rules of a file that is well. -/
structure RulesOk (lns : List Cu.Ln) (rs : List PLn) : Prop where
  eq : rs.map Prod.fst = lns.filter fun x => !(x.op == 0)
  how : ∀ x ∈ rs, ∀ y ∈ x.1.left, Cu.HowOk y
  sgn : ∀ x ∈ rs, ∀ y ∈ x.1.left, Cu.isSign y.1 = true
  sgr : ∀ x ∈ rs, ∀ y ∈ x.1.right, Cu.isSign y.1 = true
  l4 : ∀ x ∈ rs, x.1.left.length ≤ 4
  n12 : rs.length ≤ 12
  r2 : ∀ x ∈ rs, x.1.right.length ≤ 2
theorem rules_ok {s : ByteArray} {p : Nat} {lns : List Cu.Ln} {L : List PLn} (hs : s.size ≤ 200) (hg : Cu.readGo s.data.toList 12 0 [] = (true, p, lns)) (hL : L.map Prod.fst = lns.filter isLn) : RulesOk lns (rulesOf L) := by
  have hH := readGo_how s.data.toList 12 0 [] (fun x hx => by simp at hx)
  rw [hg] at hH
  have h2R := readGo_r2 s.data.toList 12 0 [] (fun x hx => by simp at hx)
  rw [hg] at h2R
  obtain ⟨hok, h12⟩ := lines_ok hs hg hL
  have hmem : ∀ x ∈ rulesOf L, x ∈ L ∧ x.1.op ≠ 0 ∧ x.1 ∈ lns := fun x hx => by
    unfold rulesOf at hx
    obtain ⟨h1, h2⟩ := List.mem_filter.1 hx
    have h3 : x.1 ∈ lns.filter isLn := by rw [← hL]; exact List.mem_map.2 ⟨x, h1, rfl⟩
    exact ⟨h1, by simpa using h2, (List.mem_filter.1 h3).1⟩
  refine ⟨rules_lines hL, fun x hx => hH x.1 (hmem x hx).2.2, ?_, ?_, fun x hx => (hok x (hmem x hx).1).2.2.2.1, ?_, fun x hx => h2R x.1 (hmem x hx).2.2⟩
  · intro x hx y hy
    exact (((hok x (hmem x hx).1).1).2 (hmem x hx).2.1).2.2 y (by simp [hy])
  · intro x hx y hy
    exact (((hok x (hmem x hx).1).1).2 (hmem x hx).2.1).2.2 y (by simp [hy])
  · unfold rulesOf
    exact Nat.le_trans (List.length_filter_le _ _) h12
theorem agree_take {syms : List Nat} {cl : List UInt8} (h : Agree syms cl) (i : Nat) : Agree (syms.take i) (cl.take i) := by
  refine ⟨by rw [List.length_take, List.length_take, h.1], ?_⟩
  intro j k c h1 h2
  have hj : j < i := by have := (List.getElem?_eq_some_iff.1 h1).1; rw [List.length_take] at this; omega
  rw [List.getElem?_take_of_lt hj] at h1 h2
  exact h.2 j k c h1 h2
theorem agree_drop {syms : List Nat} {cl : List UInt8} (h : Agree syms cl) (i : Nat) : Agree (syms.drop i) (cl.drop i) := by
  refine ⟨by rw [List.length_drop, List.length_drop, h.1], ?_⟩
  intro j k c h1 h2
  rw [List.getElem?_drop] at h1 h2
  exact h.2 _ k c h1 h2
/-- The machine's answer at a place is the document's. -/
theorem cut_place {lns : List Cu.Ln} {rs : List PLn} {syms : List Nat} {cl : List UInt8} (hr : RulesOk lns rs) (ha : Agree syms cl) (i : Nat) :
    cutsAtP (newP rs).2.2 (runM rs (syms.take i)) ((syms.drop i).map fun k : Nat => (k : Int)) = Cu.partedP lns (cl.take i) (cl.drop i) := by
  have hm := run_met hr.how hr.sgn (agree_take ha i)
  rw [partedP_rules]
  unfold cutsAtP
  congr 1
  have e1 : (lns.find? fun x => !(x.op == 0) && (Cu.aheadP x.left x.left.length (cl.take i) && Cu.behindP x.right (cl.drop i))) = (rs.map Prod.fst).find? fun x => Cu.aheadP x.left x.left.length (cl.take i) && Cu.behindP x.right (cl.drop i) := by
    rw [hr.eq, List.find?_filter]
    congr 1
    funext a
    rw [Bool.eq_iff_iff]
    simp
  rw [e1, List.find?_map, Option.map_map]
  obtain ⟨n1, n2, n3, n4, n5, n6⟩ := newOk_any rs hr.how
  refine find_same (by rw [n6]) ?_
  intro t a b h1 h2
  obtain ⟨la, hla, hf⟩ := side_fits hr.how hm h2
  rw [hla] at h1
  simp only [Option.some.injEq] at h1
  subst h1
  refine ⟨?_, rfl⟩
  have hb : standL b.1.right ((syms.drop i).map fun k : Nat => (k : Int)) = Cu.behindP b.1.right (cl.drop i) := standL_behind (hr.sgr b (List.mem_of_getElem? h2)) (agree_drop ha i)
  have hA : Cu.aheadP b.1.left b.1.left.length (cl.take i) = Cu.aheadR b.1.left.reverse (cl.take i).reverse := by unfold Cu.aheadP; rw [List.take_length]
  show ((b.1.left.all Cu.nul || !(runM rs (syms.take i) &&& la == 0)) && standL b.1.right _) = (Cu.aheadP b.1.left b.1.left.length (cl.take i) && Cu.behindP b.1.right (cl.drop i))
  rw [hb, hA]
  congr 1
  rw [Bool.eq_iff_iff, Bool.or_eq_true, ← hf]
  simp
end Go.Proofs.YtbppbejigedioabGreatDoor
