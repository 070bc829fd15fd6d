/- The plain law: what the book finds, line by line, is what the document asks. -/
import Derived.Test.YtbppbejigedioabGreatDoorBookD
namespace Go.Proofs.YtbppbejigedioabGreatDoor
/-- What a line is made of. -/
def Shape (x : Cu.Ln) : Prop :=
  (x.op = 0 → x.left = [] ∧ x.right = [] ∧ (Cu.isName x.name = true ∨ (x.name = 0 ∧ x.items = []))) ∧
  (x.op ≠ 0 → x.name = 0 ∧ x.items = [] ∧ ∀ a ∈ x.left ++ x.right, Cu.isSign a.1 = true)
def Signy (l : List Cu.Atom) : Prop := ∀ a ∈ l, Cu.isSign a.1 = true
theorem signy_snoc {l : List Cu.Atom} {x : Cu.Atom} (h : Signy l) (hx : Cu.isSign x.1 = true) : Signy (l ++ [x]) := by
  intro y hy
  rcases List.mem_append.1 hy with h1 | h1
  · exact h y h1
  · simp at h1; subst h1; exact hx
theorem sgn_isSign {s : List UInt8} {i : Nat} (h : Cu.sgn s i = true) : Cu.isSign (Cu.byt s i) = true := by
  unfold Cu.sgn at h
  simp only [Bool.and_eq_true] at h
  exact h.2
theorem leftGo_signy (s : List UInt8) (k i : Nat) (l : List Cu.Atom) (h : Signy l) : Signy (Cu.leftGo s k i l).2 := by
  induction k generalizing i l with
  | zero => exact h
  | succ k ih =>
    rw [Cu.leftGo]
    split
    · rename_i hs
      split
      · exact ih _ _ (signy_snoc h (sgn_isSign hs))
      · exact ih _ _ (signy_snoc h (sgn_isSign hs))
    · exact h
theorem rightGo_signy (s : List UInt8) (k i : Nat) (l : List Cu.Atom) (h : Signy l) : Signy (Cu.rightGo s k i l).2 := by
  induction k generalizing i l with
  | zero => exact h
  | succ k ih =>
    rw [Cu.rightGo]
    split
    · rename_i hs
      exact ih _ _ (signy_snoc h (sgn_isSign hs))
    · exact h
theorem signy_nil : Signy [] := fun y hy => by simp at hy
theorem lineAt_shape (s : List UInt8) (i : Nat) (hok : (Cu.lineAt s i).1 = true) : Shape (Cu.lineAt s i).2.2 := by
  unfold Cu.lineAt at hok ⊢
  split
  · rename_i hc
    exact ⟨fun _ => ⟨rfl, rfl, Or.inl (Cu.isClass_true hc).2.1⟩, fun h => absurd rfl h⟩
  · rename_i hc
    rw [if_neg hc] at hok
    split
    · rename_i hm
      rw [if_pos hm] at hok
      unfold Cu.ruleAt at hok ⊢
      split
      · rename_i hmid
        refine ⟨fun h0 => ?_, fun _ => ⟨rfl, rfl, ?_⟩⟩
        · exfalso
          unfold Cu.mid at hmid
          simp only at h0
          rw [h0] at hmid
          simp at hmid
        · intro a ha
          rcases List.mem_append.1 ha with h1 | h1
          · exact leftGo_signy s 4 i [] signy_nil a h1
          · exact rightGo_signy s 2 _ [] signy_nil a h1
      · rename_i hmid
        rw [if_neg hmid] at hok
        cases hok
    · exact ⟨fun _ => ⟨rfl, rfl, Or.inr ⟨rfl, rfl⟩⟩, fun h => absurd rfl h⟩
theorem readGo_shape (s : List UInt8) (k i : Nat) (l : List Cu.Ln) (h : ∀ x ∈ l, Shape x) : ∀ x ∈ (Cu.readGo s k i l).2.2, Shape x := by
  induction k generalizing i l with
  | zero => exact h
  | succ k ih =>
    rw [Cu.readGo]
    split
    · intro x hx; simp at hx
    · rename_i hok
      have hok' : (Cu.lineAt s i).1 = true := by cases hq : (Cu.lineAt s i).1 <;> simp_all
      have hf := lineAt_shape s i hok'
      have h2 : ∀ x ∈ l ++ [(Cu.lineAt s i).2.2], Shape x := by
        intro x hx
        rcases List.mem_append.1 hx with h1 | h1
        · exact h x h1
        · simp at h1; subst h1; exact hf
      split
      · exact h2
      · split
        · intro x hx; simp at hx
        · exact ih _ _ h2

theorem sk_name : ∀ n : Fin 256, Cu.isName n.val = true → Cu.sk n.val = (n.val : Int) - 65 := by decide +kernel
theorem sk_sign : ∀ n : Fin 256, Cu.isSign n.val = true → 0 ≤ Cu.sk n.val ∧ decide (Cu.sk n.val < 26) = Cu.isName n.val := by decide +kernel
theorem name_lt {c : Nat} (h : Cu.isName c = true) : c < 256 := by unfold Cu.isName at h; simp at h; omega
theorem name_sk {c : Nat} (h : Cu.isName c = true) : Cu.sk c = (c : Int) - 65 ∧ 65 ≤ c ∧ c ≤ 90 := by
  refine ⟨sk_name ⟨c, name_lt h⟩ h, ?_⟩
  unfold Cu.isName at h; simp at h; exact h
theorem sign_sk {c : Nat} (h : Cu.isSign c = true) : 0 ≤ Cu.sk c ∧ decide (Cu.sk c < 26) = Cu.isName c :=
  sk_sign ⟨c, by unfold Cu.isSign at h; simp at h; omega⟩ h

/-- One line into the book: the first fault, the names, the items. -/
def addLine (nm : Nat → Bool) (its : List KItem) (x : Cu.Ln) : Option (Nat × Nat) × (Nat → Bool) × List KItem :=
  if x.op = 0 then
    (if nm (Cu.sk x.name).toNat = true then (some (3, x.at_), nm, its)
     else ((addItems (Cu.sk x.name) its x.items).1, nameIt nm (Cu.sk x.name).toNat, (addItems (Cu.sk x.name) its x.items).2))
  else ((unnamedIn nm (x.left ++ x.right)).map (fun p => (5, p.2.2)), nm, its)
def addAll (nm : Nat → Bool) (its : List KItem) : List Cu.Ln → Option (Nat × Nat)
  | [] => none
  | x :: r => match (addLine nm its x).1 with
    | some e => some e
    | none => addAll (addLine nm its x).2.1 (addLine nm its x).2.2 r

def Inv (l : List Cu.Ln) (n : Nat) (nm : Nat → Bool) (its : List KItem) : Prop :=
  (∀ c, Cu.isName c = true → nm (Cu.sk c).toNat = Cu.named l n c) ∧ its.map Prod.snd = (l.take n).flatMap (fun x => x.items) ∧ ∀ y ∈ its, y.2.1 ≤ y.2.2.1

theorem meet_pmet {y o : Cu.Item} (h1 : ¬ y.2.1 < y.1) (h2 : o.1 ≤ o.2.1) : Cu.meet o y = pmet y o := by
  unfold Cu.meet pmet
  rw [← Bool.decide_and, decide_eq_decide]
  omega
theorem meet_bad {y o : Cu.Item} (h1 : y.2.1 < y.1) : Cu.meet o y = false := by
  unfold Cu.meet
  rw [decide_eq_false_iff_not]
  omega

theorem any_same {α : Type} {p q : α → Bool} {l : List α} (h : ∀ x ∈ l, p x = q x) : l.any p = l.any q := by
  induction l with
  | nil => rfl
  | cons y l ih => rw [List.any_cons, List.any_cons, h y (by simp), ih (fun x hx => h x (by simp [hx]))]
theorem itemsBad_add (l : List Cu.Ln) (n : Nat) (x : Cu.Ln) (hx : l[n]? = some x) (c : Int) (r : List Cu.Item) (k : Nat) (its : List KItem) (hr : x.items.drop k = r) (hI : its.map Prod.snd = Cu.ahead l n k) (ho : ∀ y ∈ its, y.2.1 ≤ y.2.2.1) :
    Cu.itemsBad l n k r = (addItems c its r).1 ∧ ((addItems c its r).1 = none → (addItems c its r).2.map Prod.snd = (l.take n).flatMap (fun x => x.items) ++ x.items ∧ ∀ y ∈ (addItems c its r).2, y.2.1 ≤ y.2.2.1) := by
  induction r generalizing k its with
  | nil =>
    refine ⟨rfl, fun _ => ⟨?_, ho⟩⟩
    show its.map Prod.snd = _
    rw [hI]
    unfold Cu.ahead
    rw [hx]
    have : x.items.length ≤ k := List.drop_eq_nil_iff.1 hr
    simp [List.take_of_length_le this]
  | cons y r ih =>
    have hk : k < x.items.length := by
      rcases Nat.lt_or_ge k x.items.length with h | h
      · exact h
      · rw [List.drop_eq_nil_of_le h] at hr; cases hr
    have hy : x.items[k]? = some y := by
      have h := congrArg (fun q => q[0]?) hr
      simpa using h
    have hr' : x.items.drop (k + 1) = r := by
      rw [← List.tail_drop, hr]; rfl
    have htw : Cu.twice l n k = (its.map Prod.snd).any fun o => Cu.meet o y := by
      unfold Cu.twice
      rw [← hI, hx]
      simp [hy]
    by_cases h1 : y.2.1 < y.1
    · have e1 : Cu.twice l n k = false := by
        rw [htw, List.any_eq_false]
        intro o _
        rw [meet_bad h1]; decide
      have e2 : Cu.itemBad l n k y = some (4, y.2.2) := by unfold Cu.itemBad; rw [e1, if_neg (by decide), if_pos h1]
      rw [Cu.itemsBad, e2, addItems, if_pos h1]
      exact ⟨rfl, fun h => by cases h⟩
    · have e1 : Cu.twice l n k = (its.any fun o => pmet y o.2) := by
        rw [htw, List.any_map]
        exact any_same fun o hmem => meet_pmet h1 (ho o hmem)
      by_cases h2 : (its.any fun o => pmet y o.2) = true
      · have e2 : Cu.itemBad l n k y = some (3, y.2.2) := by unfold Cu.itemBad; rw [e1, if_pos h2]
        rw [Cu.itemsBad, e2, addItems, if_neg h1, if_pos h2]
        exact ⟨rfl, fun h => by cases h⟩
      · have e2 : Cu.itemBad l n k y = none := by unfold Cu.itemBad; rw [e1, if_neg h2, if_neg h1]
        rw [Cu.itemsBad, e2, addItems, if_neg h1, if_neg h2]
        refine ih (k + 1) (its ++ [(c, y)]) hr' ?_ ?_
        · rw [List.map_append, hI]
          unfold Cu.ahead
          rw [hx]
          simp [List.take_add_one, hy]
        · intro z hz
          rcases List.mem_append.1 hz with h | h
          · exact ho z h
          · simp at h; subst h; show y.1 ≤ y.2.1; omega

theorem unnamed_eq {l : List Cu.Ln} {n : Nat} {nm : Nat → Bool} (hN : ∀ c, Cu.isName c = true → nm (Cu.sk c).toNat = Cu.named l n c) {a : List Cu.Atom} (ha : Signy a) : Cu.unnamed l n a = (unnamedIn nm a).map fun p => p.2.2 := by
  unfold Cu.unnamed unnamedIn
  congr 1
  induction a with
  | nil => rfl
  | cons y a ih =>
    have e : (Cu.isName y.1 && !Cu.named l n y.1) = unn nm y := by
      unfold unn
      rw [(sign_sk (ha y (by simp))).2]
      cases h : Cu.isName y.1 with
      | false => rfl
      | true => rw [hN y.1 h]
    rw [List.find?_cons, List.find?_cons, e, ih (fun z hz => ha z (by simp [hz]))]
theorem unnamedIn_append (nm : Nat → Bool) (a b : List Cu.Atom) : unnamedIn nm (a ++ b) = (unnamedIn nm a).or (unnamedIn nm b) := by
  unfold unnamedIn; rw [List.find?_append]

theorem addItems_code (c : Int) (its : List KItem) (r : List Cu.Item) (e : Nat × Nat) (h : (addItems c its r).1 = some e) : e.1 ≠ 0 := by
  induction r generalizing its with
  | nil => cases h
  | cons y r ih =>
    rw [addItems] at h
    split at h
    · simp at h; subst h; exact (by simp : (4 : Nat) ≠ 0)
    · split at h
      · simp at h; subst h; exact (by simp : (3 : Nat) ≠ 0)
      · exact ih _ h

theorem take_succ_flat {l : List Cu.Ln} {n : Nat} {x : Cu.Ln} (hx : l[n]? = some x) : (l.take (n + 1)).flatMap (fun x => x.items) = (l.take n).flatMap (fun x => x.items) ++ x.items := by
  rw [List.take_add_one, hx]; simp

/-- One line: what the document finds, and what the book finds. -/
theorem line_law (l : List Cu.Ln) (n : Nat) (x : Cu.Ln) (hx : l[n]? = some x) (hs : Shape x) (hl : isLn x = true) (nm : Nat → Bool) (its : List KItem) (hI : Inv l n nm its) :
    (∃ e, (addLine nm its x).1 = some e ∧ Cu.wrong l n x = e ∧ e.1 ≠ 0) ∨ ((addLine nm its x).1 = none ∧ Cu.wrong l n x = (0, 0) ∧ Inv l (n + 1) (addLine nm its x).2.1 (addLine nm its x).2.2) := by
  obtain ⟨hN, hM, hO⟩ := hI
  by_cases h0 : x.op = 0
  · obtain ⟨hl1, hl2, hnm⟩ := hs.1 h0
    have hname : Cu.isName x.name = true := by
      rcases hnm with h | ⟨h, _⟩
      · exact h
      · unfold isLn at hl; rw [h, h0] at hl; cases hl
    obtain ⟨hk1, hk2, hk3⟩ := name_sk hname
    have hne : x.name ≠ 0 := by omega
    have e1 := hN x.name hname
    unfold addLine Cu.wrong
    rw [if_pos h0, e1]
    by_cases ht : Cu.named l n x.name = true
    · left
      rw [if_pos ht, if_pos ⟨hne, ht⟩]
      exact ⟨_, rfl, rfl, by simp⟩
    · rw [if_neg ht, if_neg (fun h => ht h.2)]
      obtain ⟨hb1, hb2⟩ := itemsBad_add l n x hx (Cu.sk x.name) x.items 0 its rfl (by rw [hM]; unfold Cu.ahead; simp) hO
      rw [hb1]
      cases ha : (addItems (Cu.sk x.name) its x.items).1 with
      | some e => left; exact ⟨e, rfl, rfl, addItems_code _ _ _ e ha⟩
      | none =>
        right
        obtain ⟨hc1, hc2⟩ := hb2 ha
        have e0 : ∀ q, q = ([] : List Cu.Atom) → Cu.unnamed l n q = none := by intro q hq; subst hq; rfl
        refine ⟨rfl, by simp only [e0 _ hl1, e0 _ hl2], ?_, ?_, hc2⟩
        · intro c hc
          obtain ⟨g1, g2, g3⟩ := name_sk hc
          rw [Cu.named_succ hx]
          show (if (Cu.sk c).toNat = (Cu.sk x.name).toNat then true else nm (Cu.sk c).toNat) = _
          rw [hN c hc]
          by_cases hcx : x.name = c
          · rw [if_pos (by rw [hcx])]; simp [hcx]
          · rw [if_neg (by omega)]
            have : (x.name == c) = false := by rw [beq_eq_false_iff_ne]; exact hcx
            rw [this, Bool.or_false]
        · rw [take_succ_flat hx]; exact hc1
  · obtain ⟨hn0, hit, hsg⟩ := hs.2 h0
    have hsl : Signy x.left := fun a ha => hsg a (by simp [ha])
    have hsr : Signy x.right := fun a ha => hsg a (by simp [ha])
    unfold addLine Cu.wrong
    rw [if_neg h0, if_neg (fun h => h.1 hn0), hit]
    simp only [Cu.itemsBad]
    rw [unnamed_eq hN hsl, unnamed_eq hN hsr, unnamedIn_append]
    have hstep : Inv l (n + 1) nm its := by
      refine ⟨?_, ?_, hO⟩
      · intro c hc
        have hck := name_sk hc
        rw [Cu.named_succ hx, hN c hc, hn0]
        have : ((0 : Nat) == c) = false := by rw [beq_eq_false_iff_ne]; omega
        rw [this, Bool.or_false]
      · rw [take_succ_flat hx, hit, List.append_nil]; exact hM
    cases hu : unnamedIn nm x.left with
    | some p => left; exact ⟨_, rfl, rfl, by simp⟩
    | none =>
      cases hv : unnamedIn nm x.right with
      | some p => left; exact ⟨_, rfl, rfl, by simp⟩
      | none => right; exact ⟨rfl, rfl, hstep⟩
/-- A line that is empty. -/
theorem empty_law (l : List Cu.Ln) (n : Nat) (x : Cu.Ln) (hx : l[n]? = some x) (hs : Shape x) (hl : isLn x = false) (nm : Nat → Bool) (its : List KItem) (hI : Inv l n nm its) : Cu.wrong l n x = (0, 0) ∧ Inv l (n + 1) nm its := by
  obtain ⟨hN, hM, hO⟩ := hI
  have h01 : x.name = 0 ∧ x.op = 0 := by unfold isLn at hl; simpa using hl
  obtain ⟨hl1, hl2, hnm⟩ := hs.1 h01.2
  have hit : x.items = [] := by
    rcases hnm with h | h
    · rw [h01.1] at h; cases h
    · exact h.2
  refine ⟨?_, ?_, ?_, hO⟩
  · unfold Cu.wrong
    rw [if_neg (fun h => h.1 h01.1), hit, hl1, hl2]
    rfl
  · intro c hc
    have hck := name_sk hc
    rw [Cu.named_succ hx, hN c hc, h01.1]
    have : ((0 : Nat) == c) = false := by rw [beq_eq_false_iff_ne]; omega
    rw [this, Bool.or_false]
  · rw [take_succ_flat hx, hit, List.append_nil]; exact hM

theorem all_law (l : List Cu.Ln) (hS : ∀ x ∈ l, Shape x) (m n : Nat) (hm : l.length ≤ n + m) (nm : Nat → Bool) (its : List KItem) (hI : Inv l n nm its) :
    Cu.wrongs l n (l.drop n) = (addAll nm its ((l.drop n).filter isLn)).getD (0, 0) := by
  induction m generalizing n nm its with
  | zero => rw [List.drop_eq_nil_of_le (by omega)]; rfl
  | succ m ih =>
    by_cases hn : n < l.length
    · have hx : l[n]? = some l[n] := by simp [hn]
      have hs := hS l[n] (List.getElem_mem hn)
      rw [Cu.wrongs_step hx, ← List.getElem_cons_drop hn, List.filter_cons]
      cases hl : isLn l[n] with
      | true =>
        rw [if_pos rfl, addAll]
        rcases line_law l n l[n] hx hs hl nm its hI with ⟨e, h1, h2, h3⟩ | ⟨h1, h2, h3⟩
        · rw [h1, h2, if_pos h3]; rfl
        · rw [h1, h2, if_neg (by decide)]
          exact ih (n + 1) (by omega) _ _ h3
      | false =>
        rw [if_neg (show ¬ (false = true) by decide)]
        obtain ⟨h2, h3⟩ := empty_law l n l[n] hx hs hl nm its hI
        rw [h2, if_neg (by decide)]
        exact ih (n + 1) (by omega) _ _ h3
    · rw [List.drop_eq_nil_of_le (by omega)]; rfl
/-- The document's check, by the book. -/
theorem check_law (l : List Cu.Ln) (hS : ∀ x ∈ l, Shape x) : Cu.wrongs l 0 l = (addAll (fun _ => false) [] (l.filter isLn)).getD (0, 0) := by
  have h := all_law l hS l.length 0 (by omega) (fun _ => false) [] ⟨fun c _ => by simp [Cu.named], by simp, fun y hy => by simp at hy⟩
  simpa using h

/-- Each item the right way round, no two share a character. -/
def Tidy (its : List KItem) : Prop := (∀ y ∈ its, y.2.1 ≤ y.2.2.1) ∧ its.Pairwise (fun o y => pmet y.2 o.2 = false)
/-- The items of all lines, each with its class. -/
def kits (ls : List Cu.Ln) : List KItem := ls.flatMap fun x => x.items.map fun y => (Cu.sk x.name, y)
theorem tidy_nil : Tidy [] := ⟨fun y hy => by simp at hy, List.Pairwise.nil⟩
theorem tidy_snoc {its : List KItem} {k : Int} {y : Cu.Item} (h : Tidy its) (h1 : ¬ y.2.1 < y.1) (h2 : ¬ (its.any fun o => pmet y o.2) = true) : Tidy (its ++ [(k, y)]) := by
  refine ⟨?_, ?_⟩
  · intro z hz
    rcases List.mem_append.1 hz with h3 | h3
    · exact h.1 z h3
    · simp at h3; subst h3; show y.1 ≤ y.2.1; omega
  · rw [List.pairwise_append]
    refine ⟨h.2, List.pairwise_singleton _ _, ?_⟩
    intro o ho z hz
    simp at hz
    subst hz
    cases hp : pmet y o.2 with
    | false => rfl
    | true => exact absurd (List.any_eq_true.2 ⟨o, ho, hp⟩) h2
theorem addItems_tidy (k : Int) (l : List Cu.Item) (its : List KItem) (h : Tidy its) (h1 : (addItems k its l).1 = none) : Tidy (addItems k its l).2 ∧ (addItems k its l).2 = its ++ l.map (fun y => (k, y)) := by
  induction l generalizing its with
  | nil => exact ⟨h, by simp [addItems]⟩
  | cons y l ih =>
    rw [addItems] at h1 ⊢
    split at h1
    · cases h1
    · rename_i h2
      split at h1
      · cases h1
      · rename_i h3
        rw [if_neg h2, if_neg h3]
        obtain ⟨h4, h5⟩ := ih (its ++ [(k, y)]) (tidy_snoc h h2 h3) h1
        exact ⟨h4, by rw [h5]; simp⟩
theorem addLine_tidy (nm : Nat → Bool) (its : List KItem) (x : Cu.Ln) (hs : Shape x) (h : Tidy its) (h1 : (addLine nm its x).1 = none) : Tidy (addLine nm its x).2.2 ∧ (addLine nm its x).2.2 = its ++ x.items.map (fun y => (Cu.sk x.name, y)) := by
  unfold addLine at h1 ⊢
  by_cases h0 : x.op = 0
  · rw [if_pos h0] at h1 ⊢
    split at h1
    · cases h1
    · rename_i h2
      rw [if_neg h2]
      exact addItems_tidy _ _ _ h h1
  · rw [if_neg h0]
    refine ⟨h, ?_⟩
    rw [(hs.2 h0).2.1]
    simp
theorem kits_take_succ {ls : List Cu.Ln} {n : Nat} {x : Cu.Ln} (h : ls[n]? = some x) : kits (ls.take (n + 1)) = kits (ls.take n) ++ x.items.map (fun y => (Cu.sk x.name, y)) := by
  unfold kits; rw [List.take_add_one, h]; simp
theorem kits_filter {ls : List Cu.Ln} (hS : ∀ x ∈ ls, Shape x) : kits (ls.filter isLn) = kits ls := by
  induction ls with
  | nil => rfl
  | cons x ls ih =>
    have ih2 := ih (fun y hy => hS y (by simp [hy]))
    unfold kits at ih2 ⊢
    rw [List.filter_cons]
    cases hl : isLn x with
    | true => rw [if_pos rfl]; simp only [List.flatMap_cons]; rw [ih2]
    | false =>
      rw [if_neg (by decide), ih2, List.flatMap_cons]
      have h01 : x.name = 0 ∧ x.op = 0 := by unfold isLn at hl; simpa using hl
      have hit : x.items = [] := by
        rcases ((hS x (by simp)).1 h01.2).2.2 with h | h
        · rw [h01.1] at h; cases h
        · exact h.2
      rw [hit]; simp
end Go.Proofs.YtbppbejigedioabGreatDoor
/- Walks: add. -/
namespace Go.Proofs.YtbppbejigedioabGreatDoor
open Go.RowKit

theorem as_class_class (v : Value) (w : World) : (Instr.typeAssert (.iface 173 v) 104 173 true).run Tryz.prog w = .ok (.tuple #[v, .bool true]) w := by kernel_rfl
theorem as_rule_class (v : Value) (w : World) : (Instr.typeAssert (.iface 126 v) 104 173 true).run Tryz.prog w = .ok (.tuple #[.agg #[.int .i64 0, .int .i64 0, .slice none 0 0], .bool false]) w := by kernel_rfl
theorem as_rule_rule (v : Value) (w : World) : (Instr.typeAssert (.iface 126 v) 104 126 true).run Tryz.prog w = .ok (.tuple #[v, .bool true]) w := by kernel_rfl

/-- The rules behind a line. -/
def addRs (rs : List PLn) (x : PLn) : List PLn := if x.1.op = 0 then rs else rs ++ [x]
/-- What add answers. -/
def Added (w : World) (B : Nat) (nm : Nat → Bool) (its : List KItem) (rs : List PLn) (x : PLn) (e : Ending) (w' : World) : Prop :=
  (∃ c p : Nat, (addLine nm its x.1).1 = some (c, p) ∧ e = .returned (brokenV c p) ∧ Below B w w') ∨
  ((addLine nm its x.1).1 = none ∧ e = .returned .nilIface ∧ BookAt w' B (addLine nm its x.1).2.1 (addLine nm its x.1).2.2 (addRs rs x) ∧ Below B w w')

theorem added_class {w w' : World} {B k : Nat} {nm : Nat → Bool} {its : List KItem} {rs : List PLn} {x : PLn} {e : Ending} (h0 : x.1.op = 0) (hk : Cu.sk x.1.name = (k : Int)) (h : ClassAdded w B nm its rs k x.1.at_ x.1.items e w') : Added w B nm its rs x e w' := by
  have hkt : (Cu.sk x.1.name).toNat = k := by rw [hk]; simp
  unfold Added addLine addRs
  rw [if_pos h0, if_pos h0, hkt, hk]
  rcases h with ⟨hn, rfl, hb⟩ | ⟨c, p, its', hn, ha, rfl, hb⟩ | ⟨its', hn, ha, rfl, hB, hb⟩
  · left; rw [if_pos hn]; exact ⟨3, _, rfl, rfl, hb⟩
  · left; rw [if_neg (by rw [hn]; decide), ha]; exact ⟨c, p, rfl, rfl, hb⟩
  · right; rw [if_neg (by rw [hn]; decide), ha]; exact ⟨rfl, rfl, hB, hb⟩
theorem added_rule {w w' : World} {B : Nat} {nm : Nat → Bool} {its : List KItem} {rs : List PLn} {x : PLn} {e : Ending} (h0 : x.1.op ≠ 0) (h : RuleAdded w B nm its rs x e w') : Added w B nm its rs x e w' := by
  unfold Added addLine addRs
  rw [if_neg h0, if_neg h0]
  rcases h with ⟨p, hu, rfl, hb⟩ | ⟨hu, rfl, hB, hb⟩
  · left; rw [hu]; exact ⟨5, p.2.2, rfl, rfl, hb⟩
  · right; rw [hu]; exact ⟨rfl, rfl, hB, hb⟩
theorem added_form {w w' : World} {B : Nat} {nm : Nat → Bool} {its : List KItem} {rs : List PLn} {x : PLn} {e : Ending} (h : Added w B nm its rs x e w') : ∃ v, e = .returned v := by
  rcases h with ⟨c, p, _, rfl, _⟩ | ⟨_, rfl, _⟩ <;> exact ⟨_, rfl⟩

theorem added_from {w W w' : World} {B : Nat} {nm : Nat → Bool} {its : List KItem} {rs : List PLn} {x : PLn} {e : Ending} (hb : Below w.heap.size w W) (hB : B ≤ w.heap.size) (h : Added W B nm its rs x e w') : Added w B nm its rs x e w' := by
  have hb' : Below B w W := hb.mono hB
  rcases h with ⟨c, p, h1, h2, h3⟩ | ⟨h1, h2, h3, h4⟩
  · exact Or.inl ⟨c, p, h1, h2, hb'.trans h3⟩
  · exact Or.inr ⟨h1, h2, h3, hb'.trans h4⟩

set_option maxRecDepth 100000 in
set_option maxHeartbeats 1000000 in
theorem add_any (x : PLn) (B : Nat) (nm : Nat → Bool) (its : List KItem) (rs : List PLn) (w : World) (hB : BookAt w B nm its rs) (hS : Shape x.1) (hl : isLn x.1 = true) (hlen : its.length + x.1.items.length ≤ 4096) (h4 : x.1.left.length ≤ 4) (h4' : x.1.right.length ≤ 4) (hrs : rs.length ≤ 12)
    (ho : PLnOwn w 0 x.1 x.2.1 x.2.2) (hlow : ∀ n b, (Value.slice x.2.1 n x.2.2).ownBlock = some b → b < B) :
    Calls Tryz.prog 45 #[.pointer (some ⟨B, 0, none⟩), plv x] w fun e w' => Added w B nm its rs x e w' := by
  have hBlt := hB.lt
  by_cases h0 : x.1.op = 0
  · have hname : Cu.isName x.1.name = true := by
      rcases (hS.1 h0).2.2 with h | ⟨h, _⟩
      · exact h
      · unfold isLn at hl; rw [h, h0] at hl; cases hl
    obtain ⟨hk1, hk2, hk3⟩ := name_sk hname
    obtain ⟨k, hk⟩ : ∃ k : Nat, Cu.sk x.1.name = (k : Int) := ⟨x.1.name - 65, by omega⟩
    have hv : plv x = .iface 173 (.agg #[.int .i64 k, .int .i64 x.1.at_, .slice x.2.1 x.1.items.length x.2.2]) := by unfold plv plineV; rw [if_pos h0, hk]
    have hro : w.ownsRow 0 108 4 (.slice x.2.1 x.1.items.length x.2.2) x.1.items.length (pitemCells k x.1.items) := by unfold PLnOwn at ho; rw [if_pos h0, hk] at ho; exact ho
    have hc2 : Hid (∀ W, Below w.heap.size w W → Calls Tryz.prog 76 #[.pointer (some ⟨B, 0, none⟩), .agg #[.int .i64 k, .int .i64 x.1.at_, .slice x.2.1 x.1.items.length x.2.2]] W fun e w' => Added w B nm its rs x e w') := hide (fun W hW =>
      (addClass_any k x.1.at_ x.1.items x.2.1 x.2.2 B nm its rs W (hB.below hW) (by omega) hlen (own_below hro hW) (hlow _)).mono (fun e w' h => added_from hW (by omega) (added_class h0 hk h)))
    rw [hv]
    clear hB hro hlow ho hS hv hk hk1 hk2 hk3 h0
    have q1 := as_class_class
    go_enter Tryz.func45, Tryz.ntmps45
    go_wp2_with fail
    refine (unhide hc2 _ ((Below.refl _ _).alloc (Nat.le_refl _) _)).mono ?_
    rintro e w1 h
    obtain ⟨u, rfl⟩ := added_form h
    have HH := hide h
    clear h
    go_wp2
    go_ret
    exact unhide HH
  · have hro : w.ownsRow 0 193 2 (.slice x.2.1 x.1.right.length x.2.2) x.1.right.length (signCells x.1.right) := by unfold PLnOwn at ho; rw [if_neg h0] at ho; exact ho
    have hv : plv x = .iface 126 (.agg #[leftV x.1.left, .bool (x.1.op == 124), .slice x.2.1 x.1.right.length x.2.2]) := by unfold plv plineV; rw [if_neg h0]
    have hc := fun W (hW : Below w.heap.size w W) => (addRule_any x B nm its rs W (hB.below hW) h4 h4' hrs (fun a ha => (sign_sk ((hS.2 h0).2.2 a ha)).1) (own_below hro hW)).mono (fun e w' h => added_from hW (by omega) (added_rule h0 h))
    obtain ⟨tl, vl, hvl⟩ := leftV_iface x.1.left
    rw [hvl] at hc hv
    rw [hv]
    have hc2 := hide hc
    clear hc hB hro hlow ho hS hv hvl h0
    have q1 := as_rule_class
    have q2 := as_rule_rule
    go_enter Tryz.func45, Tryz.ntmps45
    go_wp2_with fail
    refine (unhide hc2 _ ((Below.refl _ _).alloc (Nat.le_refl _) _)).mono ?_
    rintro e w1 h
    obtain ⟨u, rfl⟩ := added_form h
    have HH := hide h
    clear h
    go_wp2
    go_ret
    exact unhide HH
end Go.Proofs.YtbppbejigedioabGreatDoor
