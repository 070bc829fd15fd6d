/- The symbol of a character is the letter of its class. -/
import Derived.Test.YtkinfleecfddlaaGreatDoorClsF
import Derived.Test.YtkinfleecfddlaaGreatDoorClsC
namespace Go.Proofs.YtkinfleecfddlaaGreatDoor
open Go.RowKit

theorem hit_met {c : Int} {x y : Cu.Item} (h1 : Cu.hit c x = true) (h2 : Cu.hit c y = true) : pmet y x = true := by
  unfold Cu.hit at h1 h2
  simp only [decide_eq_true_eq] at h1 h2
  unfold pmet
  simp only [Bool.and_eq_true, decide_eq_true_eq]
  omega
theorem hit_one {its : List KItem} (ht : Tidy its) {c : Int} {o o' : KItem} (ho : o ∈ its) (ho' : o' ∈ its) (h1 : Cu.hit c o.2 = true) (h2 : Cu.hit c o'.2 = true) : o = o' := by
  obtain ⟨i, hi, rfl⟩ := List.mem_iff_getElem.1 ho
  obtain ⟨j, hj, rfl⟩ := List.mem_iff_getElem.1 ho'
  rcases Nat.lt_trichotomy i j with h | h | h
  · have := (List.pairwise_iff_getElem.1 ht.2) i j hi hj h
    rw [hit_met h1 h2] at this
    cases this
  · subst h; rfl
  · have := (List.pairwise_iff_getElem.1 ht.2) j i hj hi h
    rw [hit_met h2 h1] at this
    cases this
theorem symOf_perm {its its' : List KItem} (hp : its'.Perm its) (ht : Tidy its) (c : Int) : symOf its' c = symOf its c := by
  unfold symOf
  have he : its'.find? (fun o => Cu.hit c o.2) = its.find? (fun o => Cu.hit c o.2) := by
    cases h1 : its.find? (fun o => Cu.hit c o.2) with
    | none =>
      rw [List.find?_eq_none] at h1 ⊢
      intro y hy
      exact h1 y (hp.mem_iff.1 hy)
    | some o =>
      cases h2 : its'.find? (fun o => Cu.hit c o.2) with
      | none =>
        rw [List.find?_eq_none] at h2
        exact absurd (List.find?_some h1) (h2 o (hp.mem_iff.2 (List.mem_of_find?_eq_some h1)))
      | some o' =>
        have q1 : Cu.hit c o.2 = true := by have := List.find?_some h1; exact this
        have q2 : Cu.hit c o'.2 = true := by have := List.find?_some h2; exact this
        rw [hit_one ht (hp.mem_iff.1 (List.mem_of_find?_eq_some h2)) (List.mem_of_find?_eq_some h1) q2 q1]
  rw [he]

/-- The letter of a symbol. -/
def letter (k : Int) : Nat := Cu.byt Cu.signL k.toNat
theorem letter_name : ∀ n : Fin 256, Cu.isName n.val = true → letter (Cu.sk n.val) = n.val := by decide +kernel
theorem letter_26 : letter 26 = 95 := rfl
theorem letter_law (c : Int) (ls : List Cu.Ln) (hS : ∀ x ∈ ls, Shape x) : letter (symOf (kits ls) c) = Cu.classOf ls c ∧ 0 ≤ symOf (kits ls) c ∧ symOf (kits ls) c ≤ 26 := by
  induction ls with
  | nil =>
    have e0 : symOf (kits []) c = 26 := rfl
    rw [e0]
    exact ⟨rfl, by decide, by decide⟩
  | cons x ls ih =>
    have ih2 := ih (fun y hy => hS y (by simp [hy]))
    have e1 : kits (x :: ls) = (x.items.map fun y => (Cu.sk x.name, y)) ++ kits ls := rfl
    cases hx : Cu.hitLn c x with
    | true =>
      have e2 : Cu.classOf (x :: ls) c = x.name := Cu.classOf_some (by rw [List.find?_cons_of_pos hx])
      have hx' := hx
      unfold Cu.hitLn at hx'
      obtain ⟨y, hy, hyh⟩ := List.any_eq_true.1 hx'
      have e3 : ∃ o, (x.items.map fun y => (Cu.sk x.name, y)).find? (fun o => Cu.hit c o.2) = some (Cu.sk x.name, o) := by
        cases hf : (x.items.map fun y => (Cu.sk x.name, y)).find? (fun o => Cu.hit c o.2) with
        | none =>
          rw [List.find?_eq_none] at hf
          exact absurd hyh (hf (Cu.sk x.name, y) (List.mem_map.2 ⟨y, hy, rfl⟩))
        | some o =>
          obtain ⟨z, _, hz⟩ := List.mem_map.1 (List.mem_of_find?_eq_some hf)
          exact ⟨z, by rw [← hz]⟩
      obtain ⟨o, e3⟩ := e3
      have e4 : symOf (kits (x :: ls)) c = Cu.sk x.name := by
        unfold symOf
        rw [e1, List.find?_append, e3]
        rfl
      have hs := hS x (by simp)
      have hne : x.items ≠ [] := fun h => by rw [h] at hy; simp at hy
      have h0 : x.op = 0 := Decidable.byContradiction fun h => hne (hs.2 h).2.1
      have hname : Cu.isName x.name = true := by
        rcases (hs.1 h0).2.2 with h | h
        · exact h
        · exact absurd h.2 hne
      have hk := name_sk hname
      rw [e4, e2]
      exact ⟨letter_name ⟨x.name, name_lt hname⟩ hname, by omega, by omega⟩
    | false =>
      have e2 : Cu.classOf (x :: ls) c = Cu.classOf ls c := by unfold Cu.classOf; rw [List.find?_cons_of_neg (by rw [hx]; decide)]
      have e3 : (x.items.map fun y => (Cu.sk x.name, y)).find? (fun o => Cu.hit c o.2) = none := by
        rw [List.find?_eq_none]
        intro o ho
        obtain ⟨z, hz, rfl⟩ := List.mem_map.1 ho
        have hx' := hx
        unfold Cu.hitLn at hx'
        rw [List.any_eq_false] at hx'
        exact hx' z hz
      have e4 : symOf (kits (x :: ls)) c = symOf (kits ls) c := by
        unfold symOf
        rw [e1, List.find?_append, e3]
        rfl
      rw [e4, e2]
      exact ih2
/-- What the book of a file that is well gives for each character. -/
theorem book_letter {s : ByteArray} {p : Nat} {lns : List Cu.Ln} {its' : List KItem} (hg : Cu.readGo s.data.toList 12 0 [] = (true, p, lns)) (hp : its'.Perm (kits lns)) (ht : Tidy (kits lns)) (c : Int) :
    letter (symOf its' c) = Cu.classOf lns c ∧ 0 ≤ symOf its' c ∧ symOf its' c ≤ 26 := by
  have hS := readGo_shape s.data.toList 12 0 [] (fun x hx => by simp at hx)
  rw [hg] at hS
  rw [symOf_perm hp ht]
  exact letter_law c lns hS
end Go.Proofs.YtkinfleecfddlaaGreatDoor
