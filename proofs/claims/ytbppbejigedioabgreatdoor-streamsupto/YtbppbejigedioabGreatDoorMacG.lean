/- Right sides that stand; the first rule of a set. -/
import Derived.Test.YtbppbejigedioabGreatDoorMacX
import Derived.Test.YtbppbejigedioabGreatDoorBookB
namespace Go.Proofs.YtbppbejigedioabGreatDoor
open Go.RowKit

/-- Do the signs stand at the beginning of the symbols? -/
def standL : List Cu.Atom → List Int → Bool
  | [], _ => true
  | _ :: _, [] => false
  | x :: l, b :: s => standB (Cu.sk x.1) b && standL l s
/-- The symbol behind (27: the end). -/
def symN : List Nat → Nat
  | [] => 27
  | k :: _ => k
theorem rst_stand (R : List Cu.Atom) (a : Nat) (bs : List Nat) (hR : R.length ≤ 2) (ha : a < 27) (hb : ∀ b ∈ bs, b < 27) : (rst R a && rst R (28 + symN bs)) = standL R ((a :: bs).map fun k : Nat => (k : Int)) := by
  have e0 : a / 28 = 0 := by omega
  have e1 : a % 28 = a := by omega
  have hs : symN bs < 28 := by
    cases bs with
    | nil => decide
    | cons b bs => have := hb b (by simp); show b < 28; omega
  have e2 : (28 + symN bs) / 28 = 1 := by omega
  have e3 : (28 + symN bs) % 28 = symN bs := by omega
  unfold rst
  rw [e0, e1, e2, e3]
  rcases R with _ | ⟨x, _ | ⟨y, _ | ⟨z, R⟩⟩⟩
  · rfl
  · simp [standL]
  · cases bs with
    | nil => simp [standL, symN, standB]
    | cons b bs => simp [standL, symN]
  · simp at hR
/-- The first of the rules that are in a set. -/
theorem find_low {α : Type} (l : List α) (p : α → Bool) (f k q : Nat) (hf : f = 2 ^ k * (2 * q + 1)) (hb : ∀ (i : Nat) (x : α), l[i]? = some x → f.testBit i = p x) (hl : f < 2 ^ l.length) : ∃ x, l[k]? = some x ∧ l.find? p = some x := by
  have hlow : ∀ i, i < k → f.testBit i = false := by
    intro i hi
    rw [hf, Nat.testBit_two_pow_mul]
    simp; omega
  have hk : f.testBit k = true := by
    rw [hf, Nat.testBit_two_pow_mul]
    simp
  have hkl : k < l.length := by
    by_cases h : k < l.length
    · exact h
    · rw [Nat.testBit_lt_two_pow (Nat.lt_of_lt_of_le hl (Nat.pow_le_pow_right (by decide) (by omega)))] at hk
      cases hk
  refine ⟨l[k], by simp [hkl], ?_⟩
  rw [List.find?_eq_some_iff_getElem]
  refine ⟨by rw [← hb k _ (by simp [hkl])]; exact hk, k, hkl, rfl, ?_⟩
  intro j hj
  rw [← hb j l[j] (by simp [Nat.lt_trans hj hkl]), hlow j hj]
  rfl
theorem find_zero {α : Type} (l : List α) (p : α → Bool) (hb : ∀ (i : Nat) (x : α), l[i]? = some x → (0 : Nat).testBit i = p x) : l.find? p = none := by
  rw [List.find?_eq_none]
  intro x hx
  obtain ⟨i, hi⟩ := List.getElem?_of_mem hx
  rw [← hb i x hi]
  simp
end Go.Proofs.YtbppbejigedioabGreatDoor
