/- What the machine's numbers say: bit by bit. -/
import Derived.Test.YtbppbejigedioabGreatDoorMacY
namespace Go.Proofs.YtbppbejigedioabGreatDoor
open Go.RowKit

theorem how_all : ∀ n : Fin 256, (n.val = 32 ∨ n.val = 63 ∨ n.val = 42 ∨ n.val = 43) → decide (Cu.hk n.val = 0 ∨ Cu.hk n.val = 2) = (n.val == 63 || n.val == 42) ∧ decide (Cu.hk n.val = 0 ∨ Cu.hk n.val = 1) = (n.val == 42 || n.val == 43) := by decide +kernel
theorem how_nul {x : Cu.Atom} (h : Cu.HowOk x) : decide (Cu.hk x.2.1 = 0 ∨ Cu.hk x.2.1 = 2) = Cu.nul x ∧ decide (Cu.hk x.2.1 = 0 ∨ Cu.hk x.2.1 = 1) = Cu.rep x :=
  how_all ⟨x.2.1, by rcases h with h | h | h | h <;> omega⟩ (by rcases h with h | h | h | h <;> simp [h])
theorem bit_pow (n j : Nat) : (2 ^ n).testBit j = decide (j = n) := by rw [Nat.testBit_two_pow]; simp [eq_comm]

/-- Is what stands between two atoms nothing but what may be nothing? (i ahead of m) -/
def follow (l : List Cu.Atom) (i m : Nat) : Prop := (i < m ∧ ((l.take m).drop (i + 1)).all Cu.nul = true) ∨ (i = m ∧ ∃ x, l[i]? = some x ∧ Cu.rep x = true)
/-- The numbers that lay makes of a left side at offset o. -/
structure LayOk (l : List Cu.Atom) (q : Ms) : Prop where
  old : ∀ k, k < q.1.length → (layP l q).1.1[k]? = q.1[k]?
  beh : ∀ i b, i < l.length → (layP l q).1.1[q.1.length + i]? = some b → ∀ j, b.testBit j = true ↔ ∃ m, m < l.length ∧ j = q.1.length + m ∧ follow l i m
  met : ∀ s j, ((layP l q).1.2 s).testBit j = true ↔ (q.2 s).testBit j = true ∨ ∃ m x, l[m]? = some x ∧ j = q.1.length + m ∧ standB (Cu.sk x.1) s = true
  fst : ∀ j, (layP l q).2.1.testBit j = true ↔ ∃ m, m < l.length ∧ j = q.1.length + m ∧ (l.take m).all Cu.nul = true
  lst : ∀ j, (layP l q).2.2.1.testBit j = true ↔ ∃ m, m < l.length ∧ j = q.1.length + m ∧ (l.drop (m + 1)).all Cu.nul = true
  emp : (layP l q).2.2.2 = l.all Cu.nul
  len : (layP l q).1.1.length = q.1.length + l.length

theorem follow_old {l : List Cu.Atom} {x : Cu.Atom} {i m : Nat} (hi : i < l.length) (hm : m < l.length) : follow (l ++ [x]) i m ↔ follow l i m := by
  unfold follow
  rw [List.take_append_of_le_length (by omega), List.getElem?_append_left hi]
theorem follow_new {l : List Cu.Atom} {x : Cu.Atom} {i : Nat} (hi : i < l.length) : follow (l ++ [x]) i l.length ↔ (l.drop (i + 1)).all Cu.nul = true := by
  unfold follow
  rw [List.take_left' rfl]
  constructor
  · rintro (⟨_, h⟩ | ⟨h, _⟩)
    · exact h
    · omega
  · intro h; exact Or.inl ⟨hi, h⟩
theorem follow_self {l : List Cu.Atom} {x : Cu.Atom} {m : Nat} (hm : m ≤ l.length) : follow (l ++ [x]) l.length m ↔ m = l.length ∧ Cu.rep x = true := by
  unfold follow
  constructor
  · rintro (⟨h, _⟩ | ⟨rfl, y, hy, hr⟩)
    · omega
    · rw [List.getElem?_append_right (Nat.le_refl _)] at hy
      simp at hy
      subst hy
      exact ⟨rfl, hr⟩
  · rintro ⟨rfl, hr⟩
    exact Or.inr ⟨rfl, x, by simp, hr⟩

theorem layOk_nil (q : Ms) : LayOk [] q := by
  constructor
  · intro k _; rfl
  · intro i b hi; simp at hi
  · intro s j; simp [layP]
  · intro j; simp [layP]
  · intro j; simp [layP]
  · rfl
  · simp [layP]
theorem atomBh_get (h : Int) (bh : List Nat) (k : Nat) : (atomBh h bh)[k]? = if k < bh.length then bh[k]? else if k = bh.length then some (if h = 0 ∨ h = 1 then 2 ^ bh.length else 0) else none := by
  unfold atomBh
  by_cases hk : k < bh.length
  · rw [if_pos hk]
    split
    · rw [linkP_get, List.getElem?_append_left hk, bit_pow]
      have : decide (k = bh.length) = false := by simp; omega
      rw [this]
      cases bh[k]? <;> simp
    · rw [List.getElem?_append_left hk]
  · rw [if_neg hk]
    by_cases hk2 : k = bh.length
    · subst hk2
      rw [if_pos rfl]
      split
      · rw [linkP_get, bit_pow]; simp
      · simp
    · rw [if_neg hk2]
      split
      · rw [linkP_get, List.getElem?_eq_none (by simp; omega)]; rfl
      · rw [List.getElem?_eq_none (by simp; omega)]
theorem layOk_snoc {l : List Cu.Atom} {x : Cu.Atom} {q : Ms} (h : LayOk l q) (hx : Cu.HowOk x) : LayOk (l ++ [x]) q := by
  obtain ⟨h1, h2, h3, h4, h5, h6, h7⟩ := h
  have e := layP_snoc l x q
  have hn := how_nul hx
  have hlast : ∀ k, (layP l q).2.2.1.testBit k = true → q.1.length ≤ k ∧ k < q.1.length + l.length := fun k hk => by
    obtain ⟨m, hm, rfl, _⟩ := (h5 k).1 hk
    omega
  generalize hP : layP l q = P at *
  obtain ⟨⟨bh, mt⟩, af, al, ae⟩ := P
  simp only at h1 h2 h3 h4 h5 h6 h7 hlast e
  have hget : ∀ k, (linkP (atomBh (Cu.hk x.2.1) bh) al (2 ^ bh.length))[k]? = ((atomBh (Cu.hk x.2.1) bh)[k]?).map fun b => if al.testBit k then b ||| 2 ^ bh.length else b := fun k => linkP_get _ _ _ _
  constructor
  · intro k hk
    rw [e]
    show (linkP (atomBh (Cu.hk x.2.1) bh) al (2 ^ bh.length))[k]? = _
    rw [hget, atomBh_get, if_pos (by omega), h1 k hk]
    have : al.testBit k = false := by
      cases hb : al.testBit k with
      | false => rfl
      | true => have := hlast k hb; omega
    rw [this]
    cases q.1[k]? <;> simp
  · intro i b hi hb j
    rw [e] at hb
    change (linkP (atomBh (Cu.hk x.2.1) bh) al (2 ^ bh.length))[q.1.length + i]? = some b at hb
    simp only [List.length_append, List.length_singleton] at hi ⊢
    rw [hget, atomBh_get] at hb
    by_cases hil : i < l.length
    · rw [if_pos (by omega)] at hb
      cases hbo : bh[q.1.length + i]? with
      | none => rw [hbo] at hb; cases hb
      | some b0 =>
        rw [hbo] at hb
        simp only [Option.map_some, Option.some.injEq] at hb
        have hb0 := h2 i b0 hil hbo j
        have hall : al.testBit (q.1.length + i) = true ↔ (l.drop (i + 1)).all Cu.nul = true := by
          rw [h5]
          constructor
          · rintro ⟨m, hm, hj, hd⟩
            obtain rfl : m = i := by omega
            exact hd
          · intro hd; exact ⟨i, hil, rfl, hd⟩
        constructor
        · intro hj
          have hj2 : b0.testBit j = true ∨ (al.testBit (q.1.length + i) = true ∧ j = bh.length) := by
            subst hb
            split at hj
            · rename_i ha
              rw [Nat.testBit_or, bit_pow, Bool.or_eq_true, decide_eq_true_eq] at hj
              rcases hj with hj | hj
              · exact Or.inl hj
              · exact Or.inr ⟨ha, hj⟩
            · exact Or.inl hj
          rcases hj2 with hj2 | ⟨ha, hj2⟩
          · obtain ⟨m, hm, rfl, hf⟩ := hb0.1 hj2
            exact ⟨m, by omega, rfl, (follow_old hil hm).2 hf⟩
          · exact ⟨l.length, by omega, by omega, (follow_new hil).2 (hall.1 ha)⟩
        · rintro ⟨m, hm, rfl, hf⟩
          subst hb
          by_cases hml : m < l.length
          · have := hb0.2 ⟨m, hml, rfl, (follow_old hil hml).1 hf⟩
            split
            · rw [Nat.testBit_or, this]; rfl
            · exact this
          · obtain rfl : m = l.length := by omega
            have ha := hall.2 ((follow_new hil).1 hf)
            rw [if_pos ha, Nat.testBit_or, bit_pow]
            have : decide (q.1.length + l.length = bh.length) = true := by rw [decide_eq_true_eq]; omega
            rw [this]; simp
    · obtain rfl : i = l.length := by omega
      rw [if_neg (by omega), if_pos (by omega)] at hb
      simp only [Option.map_some, Option.some.injEq] at hb
      have hna : al.testBit (q.1.length + l.length) = false := by
        cases hb' : al.testBit (q.1.length + l.length) with
        | false => rfl
        | true => have := hlast _ hb'; omega
      rw [hna] at hb
      simp only [Bool.false_eq_true, if_false] at hb
      have hrep : (Cu.hk x.2.1 = 0 ∨ Cu.hk x.2.1 = 1) ↔ Cu.rep x = true := by rw [← hn.2, decide_eq_true_eq]
      subst hb
      constructor
      · intro hj
        split at hj
        · rename_i hr
          rw [bit_pow, decide_eq_true_eq] at hj
          exact ⟨l.length, by omega, by omega, (follow_self (Nat.le_refl _)).2 ⟨rfl, hrep.1 hr⟩⟩
        · simp at hj
      · rintro ⟨m, hm, rfl, hf⟩
        obtain ⟨rfl, hr⟩ := (follow_self (by omega)).1 hf
        rw [if_pos (hrep.2 hr), bit_pow, decide_eq_true_eq]
        omega
  · intro s j
    rw [e]
    show (meetP mt (Cu.sk x.1) bh.length s).testBit j = true ↔ _
    have hold := h3 s j
    unfold meetP
    constructor
    · intro hj
      have hj2 : (mt s).testBit j = true ∨ (standB (Cu.sk x.1) s = true ∧ j = bh.length) := by
        split at hj
        · rename_i hs
          rw [Nat.testBit_or, bit_pow, Bool.or_eq_true, decide_eq_true_eq] at hj
          rcases hj with hj | hj
          · exact Or.inl hj
          · exact Or.inr ⟨hs, hj⟩
        · exact Or.inl hj
      rcases hj2 with hj2 | ⟨hs, hj2⟩
      · rcases hold.1 hj2 with h | ⟨m, y, hy, rfl, hs⟩
        · exact Or.inl h
        · exact Or.inr ⟨m, y, by rw [List.getElem?_append_left (List.getElem?_eq_some_iff.1 hy).1]; exact hy, rfl, hs⟩
      · exact Or.inr ⟨l.length, x, by simp, by omega, hs⟩
    · intro hj
      have hj2 : (mt s).testBit j = true ∨ (standB (Cu.sk x.1) s = true ∧ j = bh.length) := by
        rcases hj with h | ⟨m, y, hy, rfl, hs⟩
        · exact Or.inl (hold.2 (Or.inl h))
        · by_cases hm : m < l.length
          · rw [List.getElem?_append_left hm] at hy
            exact Or.inl (hold.2 (Or.inr ⟨m, y, hy, rfl, hs⟩))
          · have hlt := (List.getElem?_eq_some_iff.1 hy).1
            simp at hlt
            obtain rfl : m = l.length := by omega
            rw [List.getElem?_append_right (Nat.le_refl _)] at hy
            simp at hy
            subst hy
            exact Or.inr ⟨hs, by omega⟩
      rcases hj2 with h | ⟨hs, rfl⟩
      · split
        · rw [Nat.testBit_or, h]; rfl
        · exact h
      · rw [if_pos hs, Nat.testBit_or, bit_pow]; simp
  · intro j
    rw [e]
    show (if ae = true then af ||| 2 ^ bh.length else af).testBit j = true ↔ _
    simp only [List.length_append, List.length_singleton]
    constructor
    · intro hj
      have hj2 : af.testBit j = true ∨ (ae = true ∧ j = bh.length) := by
        split at hj
        · rename_i ha
          rw [Nat.testBit_or, bit_pow, Bool.or_eq_true, decide_eq_true_eq] at hj
          rcases hj with hj | hj
          · exact Or.inl hj
          · exact Or.inr ⟨ha, hj⟩
        · exact Or.inl hj
      rcases hj2 with hj2 | ⟨ha, rfl⟩
      · obtain ⟨m, hm, rfl, hd⟩ := (h4 j).1 hj2
        exact ⟨m, by omega, rfl, by rw [List.take_append_of_le_length (by omega)]; exact hd⟩
      · exact ⟨l.length, by omega, by omega, by rw [List.take_left' rfl, ← h6]; exact ha⟩
    · rintro ⟨m, hm, rfl, hd⟩
      by_cases hml : m < l.length
      · rw [List.take_append_of_le_length (by omega)] at hd
        have := (h4 _).2 ⟨m, hml, rfl, hd⟩
        split
        · rw [Nat.testBit_or, this]; rfl
        · exact this
      · obtain rfl : m = l.length := by omega
        rw [List.take_left' rfl, ← h6] at hd
        rw [if_pos hd, Nat.testBit_or, bit_pow]
        have : decide (q.1.length + l.length = bh.length) = true := by rw [decide_eq_true_eq]; omega
        rw [this]; simp
  · intro j
    rw [e, hn.1]
    show (if Cu.nul x = true then 2 ^ bh.length ||| al else 2 ^ bh.length).testBit j = true ↔ _
    simp only [List.length_append, List.length_singleton]
    have hj2 : (if Cu.nul x = true then 2 ^ bh.length ||| al else 2 ^ bh.length).testBit j = true ↔ j = bh.length ∨ (Cu.nul x = true ∧ al.testBit j = true) := by
      split
      · rename_i hnx
        rw [Nat.testBit_or, bit_pow, Bool.or_eq_true, decide_eq_true_eq]
        simp [hnx]
      · rename_i hnx
        rw [bit_pow, decide_eq_true_eq]
        simp [hnx]
    rw [hj2]
    constructor
    · rintro (rfl | ⟨hnx, ha⟩)
      · exact ⟨l.length, by omega, by omega, by simp⟩
      · obtain ⟨m, hm, rfl, hd⟩ := (h5 j).1 ha
        exact ⟨m, by omega, rfl, by rw [List.drop_append_of_le_length (by omega), List.all_append, hd]; simp [hnx]⟩
    · rintro ⟨m, hm, rfl, hd⟩
      by_cases hml : m < l.length
      · right
        rw [List.drop_append_of_le_length (by omega), List.all_append, Bool.and_eq_true] at hd
        exact ⟨by simpa using hd.2, (h5 _).2 ⟨m, hml, rfl, hd.1⟩⟩
      · left; omega
  · rw [e, hn.1]
    show (ae && Cu.nul x) = _
    rw [h6, List.all_append]
    simp
  · rw [e]
    show (linkP (atomBh (Cu.hk x.2.1) bh) al (2 ^ bh.length)).length = _
    rw [linkP_length, atomBh_length, h7]
    simp; omega
theorem layOk_any (l : List Cu.Atom) (q : Ms) (h : ∀ x ∈ l, Cu.HowOk x) : LayOk l q := by
  generalize hm : l.length = m
  induction m generalizing l with
  | zero =>
    have : l = [] := List.eq_nil_of_length_eq_zero hm
    subst this
    exact layOk_nil q
  | succ m ih =>
    rcases List.eq_nil_or_concat l with rfl | ⟨l', x, rfl⟩
    · simp at hm
    · rw [List.concat_eq_append] at hm h ⊢
      exact layOk_snoc (ih l' (fun y hy => h y (by simp [hy])) (by simpa using hm)) (h x (by simp))
end Go.Proofs.YtbppbejigedioabGreatDoor
/- What the whole machine's numbers say. -/
namespace Go.Proofs.YtbppbejigedioabGreatDoor
open Go.RowKit

/-- Where the atoms of rule t begin. -/
def off (rs : List PLn) (t : Nat) : Nat := ((rs.take t).map fun x => x.1.left.length).sum
theorem off_succ {rs : List PLn} {t : Nat} {x : PLn} (h : rs[t]? = some x) : off rs (t + 1) = off rs t + x.1.left.length := by
  unfold off; rw [List.take_add_one, h]; simp
theorem off_snoc {rs : List PLn} {x : PLn} {t : Nat} (h : t ≤ rs.length) : off (rs ++ [x]) t = off rs t := by
  unfold off; rw [List.take_append_of_le_length h]
theorem off_mono (rs : List PLn) {t u : Nat} (h : t ≤ u) : off rs t ≤ off rs u := by
  induction u with
  | zero => obtain rfl : t = 0 := by omega
            exact Nat.le_refl _
  | succ u ih =>
    by_cases htu : t = u + 1
    · subst htu; exact Nat.le_refl _
    · have h1 := ih (by omega)
      cases hx : rs[u]? with
      | none =>
        have : off rs (u + 1) = off rs u := by unfold off; rw [List.take_add_one, hx]; simp
        omega
      | some x => have := off_succ hx; omega
/-- A number tells its rule and its atom. -/
theorem off_inj {rs : List PLn} {t u i m : Nat} {x y : PLn} (hx : rs[t]? = some x) (hy : rs[u]? = some y) (hi : i < x.1.left.length) (hm : m < y.1.left.length) (h : off rs t + i = off rs u + m) : t = u ∧ i = m := by
  have h1 := off_succ hx
  have h2 := off_succ hy
  rcases Nat.lt_trichotomy t u with htu | htu | htu
  · have := off_mono rs (show t + 1 ≤ u by omega); omega
  · subst htu; exact ⟨rfl, by omega⟩
  · have := off_mono rs (show u + 1 ≤ t by omega); omega

structure NewOk (rs : List PLn) : Prop where
  len : (newP rs).2.1.1.length = off rs rs.length
  fst : ∀ j, (newP rs).1.testBit j = true ↔ ∃ t x m, rs[t]? = some x ∧ m < x.1.left.length ∧ j = off rs t + m ∧ (x.1.left.take m).all Cu.nul = true
  beh : ∀ t x i b, rs[t]? = some x → i < x.1.left.length → (newP rs).2.1.1[off rs t + i]? = some b → ∀ j, b.testBit j = true ↔ ∃ m, m < x.1.left.length ∧ j = off rs t + m ∧ follow x.1.left i m
  met : ∀ s j, ((newP rs).2.1.2 s).testBit j = true ↔ ∃ t x m y, rs[t]? = some x ∧ x.1.left[m]? = some y ∧ j = off rs t + m ∧ standB (Cu.sk y.1) s = true
  sid : ∀ t x, rs[t]? = some x → ∃ la, (newP rs).2.2[t]? = some (la, x.1.left.all Cu.nul, x) ∧ ∀ j, la.testBit j = true ↔ ∃ m, m < x.1.left.length ∧ j = off rs t + m ∧ (x.1.left.drop (m + 1)).all Cu.nul = true
  sln : (newP rs).2.2.length = rs.length

theorem newOk_snoc {rs : List PLn} {x : PLn} (h : NewOk rs) (hx : ∀ y ∈ x.1.left, Cu.HowOk y) : NewOk (rs ++ [x]) := by
  obtain ⟨h1, h2, h3, h4, h5, h6⟩ := h
  have e := newP_snoc rs x
  obtain ⟨l1, l2, l3, l4, l5, l6, l7⟩ := layOk_any x.1.left (newP rs).2.1 hx
  have hlast : ∀ {t : Nat} {y : PLn}, (rs ++ [x])[t]? = some y → (t < rs.length ∧ rs[t]? = some y) ∨ (t = rs.length ∧ y = x) := by
    intro t y hy
    by_cases ht : t < rs.length
    · rw [List.getElem?_append_left ht] at hy; exact Or.inl ⟨ht, hy⟩
    · have hlt := (List.getElem?_eq_some_iff.1 hy).1
      simp at hlt
      obtain rfl : t = rs.length := by omega
      rw [List.getElem?_append_right (Nat.le_refl _)] at hy
      simp at hy
      exact Or.inr ⟨rfl, hy.symm⟩
  have hold : ∀ {t : Nat} {y : PLn}, rs[t]? = some y → (rs ++ [x])[t]? = some y ∧ off (rs ++ [x]) t = off rs t := by
    intro t y hy
    have ht := (List.getElem?_eq_some_iff.1 hy).1
    exact ⟨by rw [List.getElem?_append_left ht]; exact hy, off_snoc (by omega)⟩
  have hnew : (rs ++ [x])[rs.length]? = some x ∧ off (rs ++ [x]) rs.length = (newP rs).2.1.1.length := ⟨by simp, by rw [off_snoc (Nat.le_refl _), h1]⟩
  constructor
  · rw [e]
    show (layP x.1.left (newP rs).2.1).1.1.length = _
    rw [l7, List.length_append, List.length_singleton, off_succ hnew.1, hnew.2]
  · intro j
    rw [e]
    show ((newP rs).1 ||| (layP x.1.left (newP rs).2.1).2.1).testBit j = true ↔ _
    rw [Nat.testBit_or, Bool.or_eq_true, h2, l4]
    constructor
    · rintro (⟨t, y, m, hy, hm, rfl, hd⟩ | ⟨m, hm, rfl, hd⟩)
      · exact ⟨t, y, m, (hold hy).1, hm, by rw [(hold hy).2], hd⟩
      · exact ⟨rs.length, x, m, hnew.1, hm, by rw [hnew.2], hd⟩
    · rintro ⟨t, y, m, hy, hm, rfl, hd⟩
      rcases hlast hy with ⟨_, hy'⟩ | ⟨rfl, rfl⟩
      · exact Or.inl ⟨t, y, m, hy', hm, by rw [(hold hy').2], hd⟩
      · exact Or.inr ⟨m, hm, by rw [hnew.2], hd⟩
  · intro t y i b hy hi hb j
    rw [e] at hb
    change (layP x.1.left (newP rs).2.1).1.1[off (rs ++ [x]) t + i]? = some b at hb
    rcases hlast hy with ⟨ht, hy'⟩ | ⟨rfl, rfl⟩
    · rw [(hold hy').2] at hb ⊢
      have hlt : off rs t + i < (newP rs).2.1.1.length := by
        have := off_succ hy'
        have := off_mono rs (show t + 1 ≤ rs.length by omega)
        omega
      rw [l1 _ hlt] at hb
      exact h3 t y i b hy' hi hb j
    · rw [hnew.2] at hb ⊢
      exact l2 i b hi hb j
  · intro s j
    rw [e]
    show ((layP x.1.left (newP rs).2.1).1.2 s).testBit j = true ↔ _
    rw [l3, h4]
    constructor
    · rintro (⟨t, y, m, z, hy, hz, rfl, hs⟩ | ⟨m, z, hz, rfl, hs⟩)
      · exact ⟨t, y, m, z, (hold hy).1, hz, by rw [(hold hy).2], hs⟩
      · exact ⟨rs.length, x, m, z, hnew.1, hz, by rw [hnew.2], hs⟩
    · rintro ⟨t, y, m, z, hy, hz, rfl, hs⟩
      rcases hlast hy with ⟨_, hy'⟩ | ⟨rfl, rfl⟩
      · exact Or.inl ⟨t, y, m, z, hy', hz, by rw [(hold hy').2], hs⟩
      · exact Or.inr ⟨m, z, hz, by rw [hnew.2], hs⟩
  · intro t y hy
    rw [e]
    show ∃ la, ((newP rs).2.2 ++ [((layP x.1.left (newP rs).2.1).2.2.1, (layP x.1.left (newP rs).2.1).2.2.2, x)])[t]? = some (la, y.1.left.all Cu.nul, y) ∧ _
    rcases hlast hy with ⟨ht, hy'⟩ | ⟨rfl, rfl⟩
    · obtain ⟨la, hla, hb⟩ := h5 t y hy'
      refine ⟨la, by rw [List.getElem?_append_left (by omega)]; exact hla, ?_⟩
      rw [(hold hy').2]
      exact hb
    · refine ⟨(layP y.1.left (newP rs).2.1).2.2.1, ?_, ?_⟩
      · rw [List.getElem?_append_right (by omega), h6, Nat.sub_self, l6]; rfl
      · rw [hnew.2]; exact l5
  · rw [e]
    show ((newP rs).2.2 ++ [_]).length = _
    simp [h6]
theorem newOk_any (rs : List PLn) (h : ∀ x ∈ rs, ∀ y ∈ x.1.left, Cu.HowOk y) : NewOk rs := by
  generalize hm : rs.length = m
  induction m generalizing rs with
  | zero =>
    have : rs = [] := List.eq_nil_of_length_eq_zero hm
    subst this
    constructor
    · rfl
    · intro j; simp [newP]
    · intro t x i b hx; simp at hx
    · intro s j; simp [newP]
    · intro t x hx; simp at hx
    · rfl
  | succ m ih =>
    rcases List.eq_nil_or_concat rs with rfl | ⟨r', x, rfl⟩
    · simp at hm
    · rw [List.concat_eq_append] at hm h ⊢
      exact newOk_snoc (ih r' (fun y hy => h y (by simp [hy])) (by simpa using hm)) (h x (by simp))

/-- All that comes behind the atoms of a set. -/
def orAll (bh : List Nat) (m : Nat) : Nat := (List.range bh.length).foldl (fun acc k => if m.testBit k then acc ||| bh.getD k 0 else acc) 0
theorem orTo_bit (bh : List Nat) (m n j : Nat) : ((List.range n).foldl (fun acc k => if m.testBit k then acc ||| bh.getD k 0 else acc) 0).testBit j = true ↔ ∃ k, k < n ∧ m.testBit k = true ∧ (bh.getD k 0).testBit j = true := by
  induction n with
  | zero => simp
  | succ n ih =>
    rw [List.range_succ, List.foldl_append]
    simp only [List.foldl_cons, List.foldl_nil]
    constructor
    · intro h
      split at h
      · rename_i hb
        rw [Nat.testBit_or, Bool.or_eq_true] at h
        rcases h with h | h
        · obtain ⟨k, h1, h2, h3⟩ := ih.1 h
          exact ⟨k, by omega, h2, h3⟩
        · exact ⟨n, by omega, hb, h⟩
      · obtain ⟨k, h1, h2, h3⟩ := ih.1 h
        exact ⟨k, by omega, h2, h3⟩
    · rintro ⟨k, h1, h2, h3⟩
      by_cases hk : k < n
      · have := ih.2 ⟨k, hk, h2, h3⟩
        split
        · rw [Nat.testBit_or, this]; rfl
        · exact this
      · obtain rfl : k = n := by omega
        rw [if_pos h2, Nat.testBit_or, h3]; simp
theorem orAll_bit (bh : List Nat) (m j : Nat) : (orAll bh m).testBit j = true ↔ ∃ k b, m.testBit k = true ∧ bh[k]? = some b ∧ b.testBit j = true := by
  unfold orAll
  rw [orTo_bit]
  constructor
  · rintro ⟨k, h1, h2, h3⟩
    exact ⟨k, bh[k], h2, by simp [h1], by rw [List.getD_eq_getElem?_getD, List.getElem?_eq_getElem h1] at h3; exact h3⟩
  · rintro ⟨k, b, h2, hb, h3⟩
    exact ⟨k, (List.getElem?_eq_some_iff.1 hb).1, h2, by rw [List.getD_eq_getElem?_getD, hb]; exact h3⟩

/-- One character on. -/
def stepNat (rs : List PLn) (m : Nat) (sym : Nat) : Nat := ((newP rs).1 ||| orAll (newP rs).2.1.1 m) &&& (newP rs).2.1.2 sym
/-- The set tells which atoms the last character (of the classes s, the last one first) can have met. -/
structure MetIs (rs : List PLn) (m : Nat) (s : List UInt8) : Prop where
  bit : ∀ t x i y, rs[t]? = some x → x.1.left[i]? = some y → m.testBit (off rs t + i) = Cu.metTop y (x.1.left.take i).reverse s
  only : ∀ j, m.testBit j = true → ∃ t x i y, rs[t]? = some x ∧ x.1.left[i]? = some y ∧ j = off rs t + i
theorem metIs_nil (rs : List PLn) : MetIs rs 0 [] := ⟨fun _ _ _ _ _ _ => by simp [Cu.metTop], fun j h => by simp at h⟩
theorem met_step_ok {rs : List PLn} {m sym : Nat} {s : List UInt8} {c : UInt8} (h : ∀ x ∈ rs, ∀ y ∈ x.1.left, Cu.HowOk y) (hm : MetIs rs m s) (hc : ∀ x ∈ rs, ∀ y ∈ x.1.left, standB (Cu.sk y.1) sym = Cu.isB c.toNat y.1) : MetIs rs (stepNat rs m sym) (c :: s) := by
  obtain ⟨n1, n2, n3, n4, n5, n6⟩ := newOk_any rs h
  have hmeet : ∀ {t i : Nat} {x : PLn} {y : Cu.Atom}, rs[t]? = some x → x.1.left[i]? = some y → (((newP rs).2.1.2 sym).testBit (off rs t + i) = true ↔ Cu.isB c.toNat y.1 = true) := by
    intro t i x y hx hy
    have hil := (List.getElem?_eq_some_iff.1 hy).1
    rw [n4, ← hc x (List.mem_of_getElem? hx) y (List.mem_of_getElem? hy)]
    constructor
    · rintro ⟨t', x', m', y', hx', hy', hj, hs⟩
      obtain ⟨rfl, rfl⟩ := off_inj hx hx' hil (List.getElem?_eq_some_iff.1 hy').1 hj
      rw [hx] at hx'
      simp at hx'
      subst hx'
      rw [hy] at hy'
      simp at hy'
      subst hy'
      exact hs
    · intro hs; exact ⟨t, x, i, y, hx, hy, rfl, hs⟩
  have hfst : ∀ {t i : Nat} {x : PLn}, rs[t]? = some x → i < x.1.left.length → ((newP rs).1.testBit (off rs t + i) = true ↔ (x.1.left.take i).all Cu.nul = true) := by
    intro t i x hx hi
    rw [n2]
    constructor
    · rintro ⟨t', x', m', hx', hm', hj, hd⟩
      obtain ⟨rfl, rfl⟩ := off_inj hx hx' hi hm' hj
      rw [hx] at hx'
      simp at hx'
      subst hx'
      exact hd
    · intro hd; exact ⟨t, x, i, hx, hi, rfl, hd⟩
  have hbeh : ∀ {t i : Nat} {x : PLn}, rs[t]? = some x → i < x.1.left.length → ((orAll (newP rs).2.1.1 m).testBit (off rs t + i) = true ↔ ∃ i' y', x.1.left[i']? = some y' ∧ follow x.1.left i' i ∧ Cu.metTop y' (x.1.left.take i').reverse s = true) := by
    intro t i x hx hi
    rw [orAll_bit]
    constructor
    · rintro ⟨k, b, hk, hb, hj⟩
      obtain ⟨t', x', i', y', hx', hy', rfl⟩ := hm.only k hk
      have hi' := (List.getElem?_eq_some_iff.1 hy').1
      obtain ⟨m', hm', hj', hf⟩ := (n3 t' x' i' b hx' hi' hb _).1 hj
      obtain ⟨rfl, rfl⟩ := off_inj hx hx' hi hm' hj'
      rw [hx] at hx'
      simp at hx'
      subst hx'
      exact ⟨i', y', hy', hf, by rw [← hm.bit t x i' y' hx hy']; exact hk⟩
    · rintro ⟨i', y', hy', hf, hmt⟩
      have hi' := (List.getElem?_eq_some_iff.1 hy').1
      have hlt : off rs t + i' < (newP rs).2.1.1.length := by
        have h1 := off_succ hx
        have h2 := off_mono rs (show t + 1 ≤ rs.length from (List.getElem?_eq_some_iff.1 hx).1)
        omega
      refine ⟨off rs t + i', (newP rs).2.1.1[off rs t + i'], by rw [hm.bit t x i' y' hx hy']; exact hmt, by simp [hlt], ?_⟩
      exact (n3 t x i' _ hx hi' (by simp [hlt]) _).2 ⟨i, hi, rfl, hf⟩
  constructor
  · intro t x i y hx hy
    have hil := (List.getElem?_eq_some_iff.1 hy).1
    have hhow : ∀ z ∈ (x.1.left.take i).reverse, Cu.HowOk z := fun z hz => h x (List.mem_of_getElem? hx) z (List.mem_of_mem_take (List.mem_reverse.1 hz))
    rw [Cu.met_step hhow]
    have hends := Cu.ends_iff (x.1.left.take i) s
    rw [Bool.eq_iff_iff]
    unfold stepNat
    rw [Nat.testBit_and, Nat.testBit_or, Bool.and_eq_true, Bool.or_eq_true, hmeet hx hy, hfst hx hil, hbeh hx hil, Bool.and_eq_true, Bool.or_eq_true, Bool.or_eq_true, Bool.and_eq_true, hends, List.all_reverse]
    constructor
    · rintro ⟨h1 | ⟨i', y', hy', hf, hmt⟩, h2⟩
      · exact ⟨h2, Or.inl (Or.inl h1)⟩
      · refine ⟨h2, ?_⟩
        rcases hf with ⟨hlt, hd⟩ | ⟨rfl, z, hz, hr⟩
        · left; right
          refine ⟨i', y', by rw [List.getElem?_take_of_lt hlt]; exact hy', hd, ?_⟩
          rw [List.take_take, Nat.min_eq_left (by omega)]
          exact hmt
        · right
          rw [hy] at hz hy'
          simp at hz hy'
          subst hz
          subst hy'
          exact ⟨hr, hmt⟩
    · rintro ⟨h2, (h1 | ⟨i', y', hy', hd, hmt⟩) | ⟨hr, hmt⟩⟩
      · exact ⟨Or.inl h1, h2⟩
      · have hlt : i' < i := by
          have := (List.getElem?_eq_some_iff.1 hy').1
          rw [List.length_take] at this
          omega
        rw [List.getElem?_take_of_lt hlt] at hy'
        rw [List.take_take, Nat.min_eq_left (by omega)] at hmt
        exact ⟨Or.inr ⟨i', y', hy', Or.inl ⟨hlt, hd⟩, hmt⟩, h2⟩
      · exact ⟨Or.inr ⟨i, y, hy, Or.inr ⟨rfl, y, hy, hr⟩, hmt⟩, h2⟩
  · intro j hj
    unfold stepNat at hj
    rw [Nat.testBit_and, Bool.and_eq_true] at hj
    obtain ⟨t, x, i, y, hx, hy, hj', _⟩ := (n4 sym j).1 hj.2
    exact ⟨t, x, i, y, hx, hy, hj'⟩
/-- Whether a rule's left side can end here. -/
theorem side_fits {rs : List PLn} {m t : Nat} {s : List UInt8} {x : PLn} (h : ∀ x ∈ rs, ∀ y ∈ x.1.left, Cu.HowOk y) (hm : MetIs rs m s) (hx : rs[t]? = some x) :
    ∃ la, (newP rs).2.2[t]? = some (la, x.1.left.all Cu.nul, x) ∧ ((x.1.left.all Cu.nul = true ∨ m &&& la ≠ 0) ↔ Cu.aheadR x.1.left.reverse s = true) := by
  obtain ⟨n1, n2, n3, n4, n5, n6⟩ := newOk_any rs h
  obtain ⟨la, hla, hb⟩ := n5 t x hx
  refine ⟨la, hla, ?_⟩
  have hhow : ∀ z ∈ x.1.left.reverse, Cu.HowOk z := fun z hz => h x (List.mem_of_getElem? hx) z (List.mem_reverse.1 hz)
  rw [Cu.ahead_ends hhow, Bool.or_eq_true, List.all_reverse, Cu.ends_iff]
  have hbits : m &&& la ≠ 0 ↔ ∃ j, m.testBit j = true ∧ la.testBit j = true := by
    constructor
    · intro hne
      apply Classical.byContradiction
      intro hno
      apply hne
      apply Nat.eq_of_testBit_eq
      intro j
      rw [Nat.testBit_and, Nat.zero_testBit]
      cases h1 : m.testBit j with
      | false => rfl
      | true =>
        cases h2 : la.testBit j with
        | false => rfl
        | true => exact absurd ⟨j, h1, h2⟩ hno
    · rintro ⟨j, h1, h2⟩ h0
      have := congrArg (fun z => Nat.testBit z j) h0
      simp [Nat.testBit_and, h1, h2] at this
  rw [hbits]
  constructor
  · rintro (h1 | ⟨j, h1, h2⟩)
    · exact Or.inl h1
    · obtain ⟨i, hi, rfl, hd⟩ := (hb j).1 h2
      have hy : x.1.left[i]? = some x.1.left[i] := by simp [hi]
      exact Or.inr ⟨i, x.1.left[i], hy, hd, by rw [← hm.bit t x i _ hx hy]; exact h1⟩
  · rintro (h1 | ⟨i, y, hy, hd, hmt⟩)
    · exact Or.inl h1
    · exact Or.inr ⟨off rs t + i, by rw [hm.bit t x i y hx hy]; exact hmt, (hb _).2 ⟨i, (List.getElem?_eq_some_iff.1 hy).1, rfl, hd⟩⟩
end Go.Proofs.YtbppbejigedioabGreatDoor
