/- The atoms that can have been met just now tell all about what is ahead. -/
import Derived.Test.YtbppbejigedioabGreatDoorCutX
namespace Go.Proofs.YtbppbejigedioabGreatDoor
namespace Cu

/-- May an atom be nothing? May it stand again? -/
def nul (x : Atom) : Bool := x.2.1 == 63 || x.2.1 == 42
def rep (x : Atom) : Bool := x.2.1 == 42 || x.2.1 == 43
def HowOk (x : Atom) : Prop := x.2.1 = 32 ∨ x.2.1 = 63 ∨ x.2.1 = 42 ∨ x.2.1 = 43
/-- Can the last character have met atom x, behind the atoms r (the last one first)? -/
def metTop (x : Atom) (r : List Atom) : List UInt8 → Bool
  | [] => false
  | c :: s => isB c.toNat x.1 && (aheadR r s || (rep x && metTop x r s))
theorem ahead_met (x : Atom) (r : List Atom) (hx : HowOk x) (s : List UInt8) : aheadR (x :: r) s = ((nul x && aheadR r s) || metTop x r s) := by
  induction s with
  | nil =>
    rw [aheadR_none, metTop]
    rcases hx with h | h | h | h <;> simp [nul, h]
  | cons c s ih =>
    rw [aheadR_more, metTop]
    rcases hx with h | h | h | h
    · simp [nul, rep, h]
    · simp only [nul, rep, h]
      cases aheadR r (c :: s) <;> cases isB c.toNat x.1 <;> cases aheadR r s <;> simp
    · rw [ih]
      simp only [nul, rep, h]
      cases aheadR r (c :: s) <;> cases isB c.toNat x.1 <;> cases aheadR r s <;> cases metTop x r s <;> simp
    · rw [ih]
      simp only [nul, rep, h]
      cases aheadR r (c :: s) <;> cases isB c.toNat x.1 <;> cases aheadR r s <;> cases metTop x r s <;> simp
/-- Can the atoms end with one that has been met just now? -/
def endsR : List Atom → List UInt8 → Bool
  | [], _ => false
  | x :: r, s => metTop x r s || (nul x && endsR r s)
theorem ahead_ends {l : List Atom} (h : ∀ x ∈ l, HowOk x) (s : List UInt8) : aheadR l s = (l.all nul || endsR l s) := by
  induction l with
  | nil => rw [aheadR_zero]; rfl
  | cons x r ih =>
    rw [ahead_met x r (h x (by simp)) s, ih (fun y hy => h y (by simp [hy])), endsR, List.all_cons]
    cases nul x <;> cases r.all nul <;> cases metTop x r s <;> cases endsR r s <;> rfl
/-- One character on. -/
theorem met_step {x : Atom} {r : List Atom} (h : ∀ y ∈ r, HowOk y) (c : UInt8) (s : List UInt8) : metTop x r (c :: s) = (isB c.toNat x.1 && (r.all nul || endsR r s || (rep x && metTop x r s))) := by
  rw [metTop, ahead_ends h]

/-- The atoms of a left side, each with those ahead of it (the last one first). -/
def spots : List Atom → List Atom → List (Atom × List Atom)
  | _, [] => []
  | r, x :: l => (x, r) :: spots (x :: r) l
theorem spots_length (r l : List Atom) : (spots r l).length = l.length := by
  induction l generalizing r with
  | nil => rfl
  | cons x l ih => simp [spots, ih]
theorem spots_get (r l : List Atom) (i : Nat) : (spots r l)[i]? = (l[i]?).map fun x => (x, (l.take i).reverse ++ r) := by
  induction l generalizing r i with
  | nil => simp [spots]
  | cons x l ih =>
    cases i with
    | zero => simp [spots]
    | succ i => simp only [spots, List.getElem?_cons_succ, ih]; simp
/-- The atoms that end a left side: those met just now that nothing but what may be nothing follows. -/
theorem ends_iff (l : List Atom) (s : List UInt8) : endsR l.reverse s = true ↔ ∃ i x, l[i]? = some x ∧ (l.drop (i + 1)).all nul = true ∧ metTop x (l.take i).reverse s = true := by
  generalize hn : l.length = n
  induction n generalizing l with
  | zero =>
    have : l = [] := List.eq_nil_of_length_eq_zero hn
    subst this
    simp [endsR]
  | succ n ih =>
    rcases List.eq_nil_or_concat l with rfl | ⟨l', y, rfl⟩
    · simp at hn
    · rw [List.concat_eq_append] at hn ⊢
      have hl : l'.length = n := by simpa using hn
      rw [List.reverse_append, List.reverse_singleton, List.singleton_append, endsR, Bool.or_eq_true, Bool.and_eq_true, ih l' hl]
      constructor
      · rintro (h | ⟨h1, i, x, hx, hd, hm⟩)
        · refine ⟨l'.length, y, by simp, by simp, ?_⟩
          rw [List.take_left' rfl]
          exact h
        · have hi : i < l'.length := (List.getElem?_eq_some_iff.1 hx).1
          refine ⟨i, x, by rw [List.getElem?_append_left hi]; exact hx, ?_, ?_⟩
          · rw [List.drop_append_of_le_length (by omega), List.all_append, hd]
            simp [h1]
          · rw [List.take_append_of_le_length (by omega)]; exact hm
      · rintro ⟨i, x, hx, hd, hm⟩
        by_cases hi : i < l'.length
        · right
          rw [List.getElem?_append_left hi] at hx
          rw [List.drop_append_of_le_length (by omega), List.all_append, Bool.and_eq_true] at hd
          rw [List.take_append_of_le_length (by omega)] at hm
          exact ⟨by simpa using hd.2, i, x, hx, hd.1, hm⟩
        · left
          have hlt := (List.getElem?_eq_some_iff.1 hx).1
          simp at hlt
          have hii : i = l'.length := by omega
          subst hii
          rw [List.getElem?_append_right (Nat.le_refl _)] at hx
          simp at hx
          subst hx
          rw [List.take_left' rfl] at hm
          exact hm
end Cu
end Go.Proofs.YtbppbejigedioabGreatDoor
