/- Streams on plain lists: settled characters, the cuts that are told, whatever comes behind. -/
import Derived.Test.YtbppbejigedioabGreatDoorPlainL
namespace Go.Proofs.YtbppbejigedioabGreatDoor
namespace Cu

theorem wk_bound (s : List UInt8) (i n f lo hi k : Nat) (hk : k ≤ n ∨ n ≤ k) (h : i + k ≤ s.length) : i + wk s i n f lo hi k ≤ s.length := by
  induction f generalizing lo hi k with
  | zero => exact h
  | succ f ih =>
    rw [wk]
    split
    · rename_i h1
      exact ih _ _ _ (by omega) (by omega)
    · exact h
theorem wk_ext (s u : List UInt8) (i n f lo hi k : Nat) (h : wk s i n f lo hi k < n → i + wk s i n f lo hi k < s.length) : wk (s ++ u) i n f lo hi k = wk s i n f lo hi k := by
  induction f generalizing lo hi k with
  | zero => rfl
  | succ f ih =>
    by_cases hc : k < n ∧ i + k < s.length ∧ lo ≤ byt s (i + k) ∧ byt s (i + k) ≤ hi
    · have hb : byt (s ++ u) (i + k) = byt s (i + k) := byt_app hc.2.1
      rw [wk_go hc] at h ⊢
      rw [wk_go ⟨hc.1, by rw [List.length_append]; omega, by rw [hb]; exact hc.2.2.1, by rw [hb]; exact hc.2.2.2⟩]
      exact ih _ _ _ h
    · rw [wk_stop hc] at h ⊢
      by_cases hkn : k < n
      · have hl := h hkn
        have hb : byt (s ++ u) (i + k) = byt s (i + k) := byt_app hl
        refine wk_stop ?_
        rw [hb]
        rintro ⟨_, _, h3, h4⟩
        exact hc ⟨hkn, hl, h3, h4⟩
      · exact wk_stop (fun h1 => hkn h1.1)

/-- Does the text end within an encoding that begins at i? -/
def halfway (t : List UInt8) (i : Nat) : Bool := decide (0 < (well t i).2 ∧ (well t i).1 < (well t i).2 ∧ i + (well t i).1 = t.length)
theorem well_ext {s : List UInt8} (u : List UInt8) {i : Nat} (hi : i < s.length) (h : halfway s i = false) : well (s ++ u) i = well s i := by
  unfold halfway at h
  rw [decide_eq_false_iff_not] at h
  unfold well at h ⊢
  rw [byt_app hi]
  by_cases h0 : (needs (byt s i)).1 = 0
  · rw [if_pos h0, if_pos h0]
  · rw [if_neg h0] at h
    rw [if_neg h0, if_neg h0]
    have hb := wk_bound s i (needs (byt s i)).1 4 (needs (byt s i)).2.1 (needs (byt s i)).2.2 1 (by omega) (by omega)
    rw [wk_ext]
    intro h1
    have : ¬ (i + wk s i (needs (byt s i)).1 4 (needs (byt s i)).2.1 (needs (byt s i)).2.2 1 = s.length) := fun h2 => h ⟨by show 0 < _; omega, h1, h2⟩
    omega
theorem chN_ext {s : List UInt8} (u : List UInt8) {i : Nat} (hi : i < s.length) (h : halfway s i = false) : chN (s ++ u) i = chN s i := by
  unfold chN bad; rw [well_ext u hi h]
theorem chCode_ext {s : List UInt8} (u : List UInt8) {i : Nat} (hi : i < s.length) (h : halfway s i = false) : chCode (s ++ u) i = chCode s i := by
  have hn := (chN_pos s i).2.2 hi
  unfold chN at hn
  unfold chCode bad at *
  rw [well_ext u hi h]
  split
  · rfl
  · rename_i hb
    rw [if_neg hb] at hn
    rw [code_app hi hn]

/-- The settled characters from i on. -/
def stChars (t : List UInt8) : Nat → Nat → List Chr
  | 0, _ => []
  | f + 1, i => if i < t.length then (if halfway t i = true then [] else (i, chN t i, chCode t i) :: stChars t f (i + chN t i)) else []
/-- Where the settled characters end. -/
def stEnd (t : List UInt8) : Nat → Nat → Nat
  | 0, i => i
  | f + 1, i => if i < t.length then (if halfway t i = true then i else stEnd t f (i + chN t i)) else i
theorem stEnd_le (t : List UInt8) (f i : Nat) (hi : i ≤ t.length) : i ≤ stEnd t f i ∧ stEnd t f i ≤ t.length := by
  induction f generalizing i with
  | zero => exact ⟨Nat.le_refl _, hi⟩
  | succ f ih =>
    rw [stEnd]
    split
    · rename_i h
      split
      · exact ⟨Nat.le_refl _, hi⟩
      · have hp := chN_pos t i
        have := ih (i + chN t i) (hp.2.2 h)
        omega
    · exact ⟨Nat.le_refl _, hi⟩
/-- At most three bytes are not settled. -/
theorem stEnd_near (t : List UInt8) (f i : Nat) (hi : i ≤ t.length) (hf : t.length ≤ i + f) : t.length ≤ stEnd t f i + 3 := by
  induction f generalizing i with
  | zero => show t.length ≤ i + 3; omega
  | succ f ih =>
    rw [stEnd]
    split
    · rename_i h
      split
      · rename_i hh
        unfold halfway at hh
        rw [decide_eq_true_eq] at hh
        have h4 : (well t i).2 ≤ 4 := by
          unfold well
          split
          · simp
          · exact (needs_le _).1
        omega
      · have hp := chN_pos t i
        exact ih (i + chN t i) (hp.2.2 h) (by omega)
    · omega
/-- All texts that begin so have these characters first. -/
theorem charsGo_ext (s u : List UInt8) (f g i : Nat) (hf : s.length ≤ i + f) (hg : (s ++ u).length ≤ i + g) : ∃ m, (s ++ u).length ≤ stEnd s f i + m ∧ charsGo (s ++ u) g i = stChars s f i ++ charsGo (s ++ u) m (stEnd s f i) := by
  induction f generalizing g i with
  | zero => exact ⟨g, hg, rfl⟩
  | succ f ih =>
    rw [stChars, stEnd]
    by_cases h : i < s.length
    · rw [if_pos h, if_pos h]
      by_cases hh : halfway s i = true
      · rw [if_pos hh, if_pos hh]
        exact ⟨g, hg, rfl⟩
      · rw [if_neg hh, if_neg hh]
        have hh' : halfway s i = false := by simpa using hh
        have hp := chN_pos s i
        obtain ⟨g, rfl⟩ : ∃ k, g = k + 1 := ⟨g - 1, by rw [List.length_append] at hg; omega⟩
        obtain ⟨m, h1, h2⟩ := ih g (i + chN s i) (by omega) (by omega)
        refine ⟨m, h1, ?_⟩
        rw [charsGo_step (by rw [List.length_append]; omega), chN_ext u h hh', chCode_ext u h hh', h2]
        rfl
    · rw [if_neg h, if_neg h]
      exact ⟨g, hg, rfl⟩
theorem code_take {s : List UInt8} {c i n : Nat} (h : i + n ≤ c) (hn : 1 ≤ n) : code (s.take c) i n = code s i n := by
  have hto : ∀ k, i + k < c → codeTo (s.take c) i n k = codeTo s i n k := by
    intro k
    induction k with
    | zero => intro hk; simp only [codeTo]; rw [byt_take (by omega)]
    | succ k ih => intro hk; simp only [codeTo]; rw [ih (by omega), byt_take hk]
  unfold code
  split
  · exact byt_take (by omega)
  · exact hto _ (by omega)
theorem bad_take {s : List UInt8} {c i : Nat} (hi : i < c) (h : i + chN s i ≤ c) : bad (s.take c) i = bad s i ∧ (bad s i = false → well (s.take c) i = well s i) := by
  unfold chN at h
  have hw := wk_take s c i (needs (byt s i)).1 4 (needs (byt s i)).2.1 (needs (byt s i)).2.2 1
  unfold bad well at *
  rw [byt_take hi]
  by_cases h0 : (needs (byt s i)).1 = 0
  · simp [h0]
  · have hn1 : 1 ≤ (needs (byt s i)).1 := by omega
    obtain ⟨w1, w2⟩ := hw hn1 (by omega)
    simp only [h0, if_false, false_or] at h ⊢
    by_cases hb : wk s i (needs (byt s i)).1 4 (needs (byt s i)).2.1 (needs (byt s i)).2.2 1 < (needs (byt s i)).1
    · have hb2 : wk (s.take c) i (needs (byt s i)).1 4 (needs (byt s i)).2.1 (needs (byt s i)).2.2 1 < (needs (byt s i)).1 := by omega
      rw [decide_eq_true hb, decide_eq_true hb2]
      exact ⟨rfl, fun h => by cases h⟩
    · rw [decide_eq_false hb] at h
      simp only [Bool.false_eq_true, if_false] at h
      rw [w2 h]
      exact ⟨rfl, fun _ => rfl⟩
theorem chCode_take {s : List UInt8} {c i : Nat} (hi : i < c) (h : i + chN s i ≤ c) : chCode (s.take c) i = chCode s i := by
  obtain ⟨h1, h2⟩ := bad_take hi h
  unfold chCode
  rw [h1]
  cases hb : bad s i with
  | true => rfl
  | false =>
    rw [h2 hb]
    simp only [Bool.false_eq_true, if_false]
    unfold chN at h
    rw [hb] at h
    simp only [Bool.false_eq_true, if_false] at h
    have hn : 1 ≤ (well s i).2 := by
      unfold bad at hb
      rw [decide_eq_false_iff_not] at hb
      omega
    rw [code_take h hn]
/-- The settled text's characters. -/
theorem charsGo_settled (s : List UInt8) (f i c m : Nat) (hc : c = stEnd s f i) (hi : i ≤ s.length) (hf : s.length ≤ i + f) (hm : c ≤ i + m) : charsGo (s.take c) m i = stChars s f i := by
  induction f generalizing i m with
  | zero =>
    have hle : (s.take c).length ≤ i := by rw [List.length_take]; omega
    rw [charsGo_end hle]
    rfl
  | succ f ih =>
    rw [stEnd] at hc
    rw [stChars]
    by_cases h : i < s.length
    · rw [if_pos h] at hc ⊢
      by_cases hh : halfway s i = true
      · rw [if_pos hh] at hc ⊢
        rw [charsGo_end (by rw [List.length_take]; omega)]
      · rw [if_neg hh] at hc ⊢
        have hp := chN_pos s i
        have hle := stEnd_le s f (i + chN s i) (hp.2.2 h)
        obtain ⟨m, rfl⟩ : ∃ k, m = k + 1 := ⟨m - 1, by omega⟩
        rw [charsGo_step (by rw [List.length_take]; omega), chN_take (by omega) (by omega), chCode_take (by omega) (by omega), ih (i + chN s i) m hc (hp.2.2 h) (by omega) (by omega)]
    · rw [if_neg h] at hc ⊢
      rw [charsGo_end (by rw [List.length_take]; omega)]
def sEnd (t : List UInt8) : Nat := stEnd t t.length 0
def sChars (t : List UInt8) : List Chr := stChars t t.length 0
theorem chars_settled (t : List UInt8) : chars (t.take (sEnd t)) = sChars t := by
  have h := stEnd_le t t.length 0 (Nat.zero_le _)
  unfold chars
  exact charsGo_settled t t.length 0 (sEnd t) _ rfl (Nat.zero_le _) (by omega) (by rw [List.length_take]; unfold sEnd; omega)
theorem chars_more (t u : List UInt8) : ∃ r, chars (t ++ u) = sChars t ++ r := by
  obtain ⟨m, _, h⟩ := charsGo_ext t u t.length (t ++ u).length 0 (by omega) (by omega)
  exact ⟨_, h⟩
theorem sChars_more (t u : List UInt8) : ∃ r, sChars (t ++ u) = sChars t ++ r := by
  have key : ∀ f g i, t.length ≤ i + f → (t ++ u).length ≤ i + g → ∃ r, stChars (t ++ u) g i = stChars t f i ++ r := by
    intro f
    induction f with
    | zero => intro g i _ _; exact ⟨_, rfl⟩
    | succ f ih =>
      intro g i hf hg
      rw [stChars]
      by_cases h : i < t.length
      · rw [if_pos h]
        by_cases hh : halfway t i = true
        · rw [if_pos hh]; exact ⟨_, rfl⟩
        · rw [if_neg hh]
          have hh' : halfway t i = false := by simpa using hh
          have hp := chN_pos t i
          obtain ⟨g, rfl⟩ : ∃ k, g = k + 1 := ⟨g - 1, by rw [List.length_append] at hg; omega⟩
          obtain ⟨r, hr⟩ := ih g (i + chN t i) (by omega) (by omega)
          have hne : ¬ halfway (t ++ u) i = true := by
            unfold halfway at hh' ⊢
            rw [decide_eq_false_iff_not] at hh'
            rw [decide_eq_true_eq, well_ext u h (by unfold halfway; rw [decide_eq_false_iff_not]; exact hh')]
            rintro ⟨h1, h2, h3⟩
            rw [List.length_append] at h3
            have hb : i + (well t i).1 ≤ t.length := by
              unfold well
              split
              · show i + 0 ≤ _; omega
              · exact wk_bound t i _ 4 _ _ 1 (by omega) (by omega)
            exact hh' ⟨h1, h2, by omega⟩
          refine ⟨r, ?_⟩
          rw [stChars, if_pos (by rw [List.length_append]; omega), if_neg hne, chN_ext u h hh', chCode_ext u h hh', hr]
          rfl
      · rw [if_neg h]; exact ⟨_, rfl⟩
  exact key t.length (t ++ u).length 0 (by omega) (by omega)

/-- A cut hangs on what is ahead and on two characters behind. -/
theorem cutAt_pre {l : List Ln} (hl : ∀ x ∈ l, x.right.length ≤ 2) (p r r' : List Chr) (i : Nat) (hi : i + 2 ≤ p.length) : cutAt l (p ++ r) i = cutAt l (p ++ r') i := by
  unfold cutAt clsAt
  rw [← List.map_take, ← List.map_take, ← List.map_drop, ← List.map_drop, List.take_append_of_le_length (by omega), List.take_append_of_le_length (by omega), List.drop_append_of_le_length (by omega), List.drop_append_of_le_length (by omega)]
  rw [drop_two (l := p) (n := i) (List.getElem?_eq_getElem (by omega)) (List.getElem?_eq_getElem (by omega))]
  simp only [List.cons_append, List.map_cons]
  rw [partedP_two hl]
theorem cutsTo_pre {l : List Ln} (hl : ∀ x ∈ l, x.right.length ≤ 2) (p r r' : List Chr) (n : Nat) (hn : n + 1 ≤ p.length) : cutsTo l (p ++ r) n = cutsTo l (p ++ r') n := by
  induction n with
  | zero => rfl
  | succ n ih =>
    rw [cutsTo, cutsTo, ih (by omega), cutAt_pre hl p r r' n (by omega)]
    simp only [List.getD_eq_getElem?_getD]
    rw [List.getElem?_append_left (by omega), List.getElem?_append_left (by omega)]
theorem cutsTo_mono (l : List Ln) (cs : List Chr) {n m : Nat} (h : n ≤ m) : ∃ r, cutsTo l cs m = cutsTo l cs n ++ r := by
  induction m with
  | zero => obtain rfl : n = 0 := by omega
            exact ⟨[], by simp⟩
  | succ m ih =>
    by_cases hm : n ≤ m
    · obtain ⟨r, hr⟩ := ih hm
      exact ⟨_, by rw [cutsTo, hr, List.append_assoc]⟩
    · obtain rfl : n = m + 1 := by omega
      exact ⟨[], by simp⟩
/-- The cuts behind which two settled characters have come. -/
def told (l : List Ln) (t : List UInt8) : List Nat := cutsTo l (sChars t) ((sChars t).length - 1)
theorem told_cuts {l : List Ln} (hl : ∀ x ∈ l, x.right.length ≤ 2) (t u : List UInt8) : ∃ r, cutsTo l (chars (t ++ u)) (chars (t ++ u)).length = told l t ++ r := by
  obtain ⟨r, hr⟩ := chars_more t u
  unfold told
  rw [hr]
  by_cases h : (sChars t).length = 0
  · rw [h]; exact ⟨_, rfl⟩
  · obtain ⟨q, hq⟩ := cutsTo_mono l (sChars t ++ r) (n := (sChars t).length - 1) (m := (sChars t ++ r).length) (by rw [List.length_append]; omega)
    refine ⟨q, ?_⟩
    rw [hq, cutsTo_pre hl (sChars t) r [] _ (by omega), List.append_nil]
theorem told_all {l : List Ln} (hl : ∀ x ∈ l, x.right.length ≤ 2) (t u : List UInt8) : ∃ r, cutsR l (t ++ u) = told l t ++ r := by
  obtain ⟨r, hr⟩ := told_cuts hl t u
  unfold cutsR
  rw [hr]
  exact ⟨_, by rw [List.append_assoc]⟩
theorem told_more {l : List Ln} (hl : ∀ x ∈ l, x.right.length ≤ 2) (t u : List UInt8) : ∃ r, told l (t ++ u) = told l t ++ r := by
  obtain ⟨r, hr⟩ := sChars_more t u
  unfold told
  rw [hr]
  by_cases h : (sChars t).length = 0
  · rw [h]; exact ⟨_, rfl⟩
  · obtain ⟨q, hq⟩ := cutsTo_mono l (sChars t ++ r) (n := (sChars t).length - 1) (m := (sChars t ++ r).length - 1) (by rw [List.length_append]; omega)
    refine ⟨q, ?_⟩
    rw [hq, cutsTo_pre hl (sChars t) r [] _ (by omega), List.append_nil]

/-- What Feed tells: the text as it is then, how many were told. -/
def feedP (l : List Ln) (t : List UInt8) (n : Nat) : List Nat := (told l t).drop n
def endP (l : List Ln) (t : List UInt8) (n : Nat) : List Nat := (cutsR l t).drop n
/-- The document's way: as long as they are not behind the last character but one. -/
def lastBut (cs : List Chr) : Nat := (cs.getD (cs.length - 2) (0, 0, 0)).1
theorem cutsTo_le {l : List Ln} {cs : List Chr} {n p : Nat} (hr : ∀ (i j : Nat) (x y : Chr), cs[i]? = some x → cs[j]? = some y → i < j → x.1 < y.1) (hn : n + 1 < cs.length + 1) (h : p ∈ cutsTo l cs (n + 1)) : p ≤ (cs.getD n (0, 0, 0)).1 := by
  obtain ⟨i, h1, _, rfl⟩ := mem_cutsTo.1 h
  have e1 : cs[i]? = some cs[i] := List.getElem?_eq_getElem (by omega)
  have e2 : cs[n]? = some cs[n] := List.getElem?_eq_getElem (by omega)
  rw [List.getD_eq_getElem?_getD, List.getD_eq_getElem?_getD, e1, e2]
  by_cases hin : i = n
  · subst hin; exact Nat.le_refl _
  · exact Nat.le_of_lt (hr i n _ _ e1 e2 (by omega))
theorem feed_while (l : List Ln) (t : List UInt8) (n : Nat) (hn : n ≤ (told l t).length) :
    (if 2 ≤ (sChars t).length then ((cutsR l (t.take (sEnd t))).drop n).takeWhile (fun x => decide (x ≤ lastBut (sChars t))) else []) = feedP l t n := by
  have hcs := chars_settled t
  by_cases h2 : 2 ≤ (sChars t).length
  · rw [if_pos h2]
    unfold feedP told at *
    have hrise : ∀ (i j : Nat) (x y : Chr), (sChars t)[i]? = some x → (sChars t)[j]? = some y → i < j → x.1 < y.1 := by
      intro i j x y hx hy hij
      rw [← hcs] at hx hy
      exact chars_rise hx hy hij
    obtain ⟨k, hk⟩ : ∃ k, (sChars t).length = k + 2 := ⟨(sChars t).length - 2, by omega⟩
    have e1 : (sChars t).length - 1 = k + 1 := by omega
    have e2 : lastBut (sChars t) = ((sChars t).getD k (0, 0, 0)).1 := by unfold lastBut; rw [hk]; rfl
    rw [e1] at hn ⊢
    have hsplit : ∃ r, cutsR l (t.take (sEnd t)) = cutsTo l (sChars t) (k + 1) ++ r ∧ ∀ x ∈ r, lastBut (sChars t) < x := by
      unfold cutsR
      rw [hcs, hk, cutsTo]
      refine ⟨_, by rw [List.append_assoc], ?_⟩
      intro x hx
      have ek : (sChars t)[k]? = some (sChars t)[k] := List.getElem?_eq_getElem (by omega)
      have ek1 : (sChars t)[k + 1]? = some (sChars t)[k + 1] := List.getElem?_eq_getElem (by omega)
      have hlt : ((sChars t).getD k (0, 0, 0)).1 < ((sChars t).getD (k + 1) (0, 0, 0)).1 := by
        rw [List.getD_eq_getElem?_getD, List.getD_eq_getElem?_getD, ek, ek1]
        exact hrise k (k + 1) _ _ ek ek1 (by omega)
      rw [e2]
      rcases List.mem_append.1 hx with h | h
      · split at h
        · simp at h; subst h; exact hlt
        · simp at h
      · split at h
        · simp only [List.mem_singleton] at h
          subst h
          have h9 := (chars_at (t := t.take (sEnd t)) (n := k + 1) (x := (sChars t)[k + 1]) (by rw [hcs]; exact ek1)).1
          have e11 : (sChars t).getD (k + 1) (0, 0, 0) = (sChars t)[k + 1] := by rw [List.getD_eq_getElem?_getD, ek1]; rfl
          rw [e11] at hlt
          omega
        · simp at h
    obtain ⟨r, hr1, hr2⟩ := hsplit
    rw [hr1, List.drop_append_of_le_length hn, List.takeWhile_append_of_pos]
    · have : r.takeWhile (fun x => decide (x ≤ lastBut (sChars t))) = [] := by
        cases r with
        | nil => rfl
        | cons y r =>
          have := hr2 y (by simp)
          rw [List.takeWhile_cons, if_neg (by simp only [decide_eq_true_eq]; omega)]
      rw [this, List.append_nil]
    · intro x hx
      rw [decide_eq_true_eq, e2]
      exact cutsTo_le hrise (by omega) (List.mem_of_mem_drop hx)
  · rw [if_neg h2]
    unfold feedP told
    have e0 : (sChars t).length - 1 = 0 := by omega
    rw [e0]
    simp [cutsTo]

/-- One behind the other, what is told and what is left are all the cuts. -/
theorem told_rest {α : Type} {a b r : List α} (h : b = a ++ r) : a ++ b.drop a.length = b := by
  rw [h]; simp
/-- Soon: eleven bytes behind a cut it is told. -/
theorem soon_told {l : List Ln} (hl : ∀ x ∈ l, x.right.length ≤ 2) (t : List UInt8) (p : Nat) (hp : p ∈ cutsR l t) (h11 : p + 11 ≤ t.length) : p ∈ told l t := by
  unfold cutsR at hp
  rcases List.mem_append.1 hp with h | h
  · obtain ⟨i, h1, h2, h3⟩ := mem_cutsTo.1 h
    have ei : (chars t)[i]? = some (chars t)[i] := List.getElem?_eq_getElem h1
    rw [List.getD_eq_getElem?_getD, ei] at h3
    have h3' : p = (chars t)[i].1 := h3
    obtain ⟨y, hy, hy1⟩ := chars_next ei (by omega)
    obtain ⟨r, hr⟩ := chars_more t []
    rw [List.append_nil] at hr
    have hnear := stEnd_near t t.length 0 (Nat.zero_le _) (by omega)
    obtain ⟨m, _, hgo⟩ := charsGo_ext t [] t.length t.length 0 (by omega) (by simp)
    rw [List.append_nil] at hgo
    have hlen : i + 2 ≤ (sChars t).length := by
      by_cases hlt : i + 1 < (sChars t).length
      · omega
      · exfalso
        have hy' : (charsGo t m (stEnd t t.length 0))[i + 1 - (sChars t).length]? = some y := by
          have e : chars t = sChars t ++ charsGo t m (stEnd t t.length 0) := hgo
          rw [e, List.getElem?_append_right (by omega)] at hy
          exact hy
        have := (charsGo_at hy').2.1
        omega
    unfold told
    rw [mem_cutsTo]
    refine ⟨i, by omega, ?_, ?_⟩
    · rw [← h2, hr]
      have := cutAt_pre hl (sChars t) [] r i hlen
      rw [List.append_nil] at this
      exact this
    · rw [h3', List.getD_eq_getElem?_getD]
      have e9 : (sChars t)[i]? = (chars t)[i]? := by rw [hr, List.getElem?_append_left (by omega)]
      rw [e9, ei]
      rfl
  · split at h
    · simp at h; omega
    · simp at h
theorem told_short (l : List Ln) (hl : ∀ x ∈ l, x.right.length ≤ 2) (t : List UInt8) (ht : 0 < t.length) : (told l t).length < (cutsR l t).length := by
  obtain ⟨r, hr⟩ := told_cuts hl t []
  rw [List.append_nil] at hr
  unfold cutsR
  rw [hr, if_pos ht]
  simp
end Cu
end Go.Proofs.YtbppbejigedioabGreatDoor
/- Streams on plain lists: what is kept of a text, and what the rest of it tells. -/
namespace Go.Proofs.YtbppbejigedioabGreatDoor
namespace Cu

theorem codeTo_drop (s : List UInt8) (c i n k : Nat) : codeTo (s.drop c) i n k = codeTo s (c + i) n k := by
  induction k with
  | zero => simp only [codeTo]; rw [byt_drop]
  | succ k ih => simp only [codeTo]; rw [ih, byt_drop, Nat.add_assoc]
theorem code_drop (s : List UInt8) (c i n : Nat) : code (s.drop c) i n = code s (c + i) n := by
  unfold code
  rw [byt_drop, codeTo_drop]
theorem chCode_drop (s : List UInt8) (c i : Nat) : chCode (s.drop c) i = chCode s (c + i) := by
  unfold chCode bad
  rw [well_drop, code_drop]
theorem halfway_drop (s : List UInt8) (c i : Nat) (hc : c ≤ s.length) : halfway (s.drop c) i = halfway s (c + i) := by
  unfold halfway
  rw [well_drop, List.length_drop]
  rw [decide_eq_decide]
  omega
/-- A character, so many bytes further on. -/
def shift (a : Nat) (x : Chr) : Chr := (a + x.1, x.2)
theorem charsGo_shift (s : List UInt8) (c f i : Nat) : (charsGo (s.drop c) f i).map (shift c) = charsGo s f (c + i) := by
  induction f generalizing i with
  | zero => rfl
  | succ f ih =>
    rw [charsGo, charsGo, List.length_drop]
    by_cases h : c + i < s.length
    · rw [if_pos h, if_pos (by omega), List.map_cons, ih, chN_drop, chCode_drop, Nat.add_assoc]
      rfl
    · rw [if_neg h, if_neg (by omega)]
      rfl
theorem stChars_shift (s : List UInt8) (c f i : Nat) (hc : c ≤ s.length) : (stChars (s.drop c) f i).map (shift c) = stChars s f (c + i) := by
  induction f generalizing i with
  | zero => rfl
  | succ f ih =>
    rw [stChars, stChars, List.length_drop, halfway_drop s c i hc]
    by_cases h : c + i < s.length
    · rw [if_pos h, if_pos (by omega)]
      by_cases hh : halfway s (c + i) = true
      · rw [if_pos hh, if_pos hh]
        rfl
      · rw [if_neg hh, if_neg hh, List.map_cons, ih, chN_drop, chCode_drop, Nat.add_assoc]
        rfl
    · rw [if_neg h, if_neg (by omega)]
      rfl
theorem stChars_fuel (s : List UInt8) (f g i : Nat) (hf : s.length ≤ i + f) (hg : s.length ≤ i + g) : stChars s f i = stChars s g i := by
  induction f generalizing g i with
  | zero =>
    cases g with
    | zero => rfl
    | succ g => rw [stChars, stChars, if_neg (by omega)]
  | succ f ih =>
    by_cases h : i < s.length
    · obtain ⟨g, rfl⟩ : ∃ m, g = m + 1 := ⟨g - 1, by omega⟩
      have := (chN_pos s i).1
      rw [stChars, stChars, ih g (i + chN s i) (by omega) (by omega)]
    · cases g with
      | zero => rw [stChars, stChars, if_neg h]
      | succ g => rw [stChars, stChars, if_neg h, if_neg h]
theorem stChars_at {s : List UInt8} {f i n : Nat} {x : Chr} (hf : s.length ≤ i + f) (h : (stChars s f i)[n]? = some x) : ∃ m, s.length ≤ x.1 + m ∧ x.1 < s.length ∧ (stChars s f i).drop n = stChars s m x.1 := by
  induction n generalizing f i with
  | zero =>
    cases f with
    | zero => simp [stChars] at h
    | succ f =>
      have h' := h
      rw [stChars] at h'
      split at h'
      · rename_i hi
        split at h'
        · simp at h'
        · simp only [List.getElem?_cons_zero, Option.some.injEq] at h'
          subst h'
          exact ⟨f + 1, hf, hi, rfl⟩
      · simp at h'
  | succ n ih =>
    cases f with
    | zero => simp [stChars] at h
    | succ f =>
      have h' := h
      rw [stChars] at h' ⊢
      split at h'
      · rename_i hi
        rw [if_pos hi]
        split at h'
        · simp at h'
        · rename_i hh
          rw [if_neg hh]
          simp only [List.getElem?_cons_succ] at h'
          have := (chN_pos s i).1
          obtain ⟨m, h1, h2, h3⟩ := ih (by omega) h'
          exact ⟨m, h1, h2, by rw [List.drop_succ_cons, h3]⟩
      · simp at h'

/-- How many characters are done with: all settled ones but the last. -/
def doneN (t : List UInt8) : Nat := (sChars t).length - 1
/-- Where the last settled one stands. -/
def lastP (t : List UInt8) : Nat := ((sChars t).getD (doneN t) (0, 0, 0)).1
theorem sChars_pre (t : List UInt8) : ∃ r, chars t = sChars t ++ r := by
  obtain ⟨r, hr⟩ := chars_more t []
  rw [List.append_nil] at hr
  exact ⟨r, hr⟩
theorem last_some {t : List UInt8} (h : (sChars t).length ≠ 0) : ∃ x, (sChars t)[doneN t]? = some x ∧ x.1 = lastP t := by
  have hl : doneN t < (sChars t).length := by unfold doneN; omega
  refine ⟨(sChars t)[doneN t], by simp [hl], ?_⟩
  unfold lastP
  rw [List.getD_eq_getElem?_getD, List.getElem?_eq_getElem hl]
  rfl
theorem last_none {t : List UInt8} (h : (sChars t).length = 0) : doneN t = 0 ∧ lastP t = 0 := by
  have e : sChars t = [] := List.eq_nil_of_length_eq_zero h
  unfold lastP doneN
  rw [e]
  exact ⟨rfl, rfl⟩
theorem lastP_le (t : List UInt8) : lastP t ≤ t.length := by
  by_cases h : (sChars t).length = 0
  · rw [(last_none h).2]; omega
  · obtain ⟨x, hx, he⟩ := last_some h
    obtain ⟨r, hr⟩ := sChars_pre t
    have hc : (chars t)[doneN t]? = some x := by rw [hr, List.getElem?_append_left (List.getElem?_eq_some_iff.1 hx).1]; exact hx
    have := (chars_at hc).1
    omega
theorem doneN_le (t : List UInt8) : doneN t ≤ lastP t := by
  by_cases h : (sChars t).length = 0
  · rw [(last_none h).1, (last_none h).2]; omega
  · obtain ⟨x, hx, he⟩ := last_some h
    obtain ⟨r, hr⟩ := sChars_pre t
    have hc : (chars t)[doneN t]? = some x := by rw [hr, List.getElem?_append_left (List.getElem?_eq_some_iff.1 hx).1]; exact hx
    have := (chars_at hc).2.1
    omega
/-- The characters from a settled one's place on. -/
theorem window {T u : List UInt8} : ((chars ((T ++ u).drop (lastP T))).map (shift (lastP T)) = (chars (T ++ u)).drop (doneN T)) ∧ ((sChars ((T ++ u).drop (lastP T))).map (shift (lastP T)) = (sChars (T ++ u)).drop (doneN T)) := by
  have hle : lastP T ≤ (T ++ u).length := by have := lastP_le T; rw [List.length_append]; omega
  by_cases h : (sChars T).length = 0
  · rw [(last_none h).1, (last_none h).2]
    have e : ∀ l : List Chr, l.map (shift 0) = l := fun l => by
      have : shift 0 = id := by funext x; unfold shift; simp
      rw [this, List.map_id]
    rw [e, e]
    exact ⟨rfl, rfl⟩
  · obtain ⟨x, hx, he⟩ := last_some h
    have hn := (List.getElem?_eq_some_iff.1 hx).1
    obtain ⟨r, hr⟩ := chars_more T u
    obtain ⟨r2, hr2⟩ := sChars_more T u
    have hc : (chars (T ++ u))[doneN T]? = some x := by rw [hr, List.getElem?_append_left hn]; exact hx
    have hs : (sChars (T ++ u))[doneN T]? = some x := by rw [hr2, List.getElem?_append_left hn]; exact hx
    constructor
    · obtain ⟨_, h2, _, _, m, h5, h6⟩ := charsGo_at (show (charsGo (T ++ u) (T ++ u).length 0)[doneN T]? = some x from hc)
      show _ = (charsGo (T ++ u) (T ++ u).length 0).drop (doneN T)
      rw [h6, he]
      unfold chars
      rw [charsGo_shift, Nat.add_zero]
      exact charsGo_fuel _ _ _ _ (by rw [List.length_drop]; omega) (by omega)
    · obtain ⟨m, h1, _, h3⟩ := stChars_at (show (T ++ u).length ≤ 0 + (T ++ u).length by omega) (show (stChars (T ++ u) (T ++ u).length 0)[doneN T]? = some x from hs)
      show _ = (stChars (T ++ u) (T ++ u).length 0).drop (doneN T)
      rw [h3, he]
      unfold sChars
      rw [stChars_shift _ _ _ _ hle, Nat.add_zero]
      exact stChars_fuel _ _ _ _ (by rw [List.length_drop]; omega) (by omega)
/-- What is done with then, and where the last settled one stands. -/
theorem window_last (T u : List UInt8) : doneN (T ++ u) = doneN T + doneN ((T ++ u).drop (lastP T)) ∧ lastP (T ++ u) = lastP T + lastP ((T ++ u).drop (lastP T)) := by
  have hw := (window (T := T) (u := u)).2
  have hlen := congrArg List.length hw
  rw [List.length_map, List.length_drop] at hlen
  obtain ⟨r2, hr2⟩ := sChars_more T u
  have hge : (sChars T).length ≤ (sChars (T ++ u)).length := by rw [hr2, List.length_append]; omega
  by_cases h : (sChars ((T ++ u).drop (lastP T))).length = 0
  · have h0 : (sChars (T ++ u)).length = 0 := by
      by_cases hT : (sChars T).length = 0
      · rw [(last_none hT).1] at hlen; omega
      · unfold doneN at hlen; omega
    have hT0 : (sChars T).length = 0 := by omega
    obtain ⟨e1, e2⟩ := last_none h
    obtain ⟨e3, e4⟩ := last_none h0
    obtain ⟨e5, e6⟩ := last_none hT0
    exact ⟨by rw [e1, e3, e5], by rw [e2, e4, e6]⟩
  · have e1 : doneN (T ++ u) = doneN T + doneN ((T ++ u).drop (lastP T)) := by
      show (sChars (T ++ u)).length - 1 = doneN T + ((sChars ((T ++ u).drop (lastP T))).length - 1)
      omega
    refine ⟨e1, ?_⟩
    obtain ⟨y, hy, hye⟩ := last_some h
    have hq : ((sChars (T ++ u)).drop (doneN T))[doneN ((T ++ u).drop (lastP T))]? = some (shift (lastP T) y) := by
      rw [← hw, List.getElem?_map, hy]
      rfl
    rw [List.getElem?_drop, ← e1] at hq
    show ((sChars (T ++ u)).getD (doneN (T ++ u)) (0, 0, 0)).1 = _
    rw [List.getD_eq_getElem?_getD, hq]
    show lastP T + y.1 = _
    omega
/-- The characters that begin ahead of the last settled one. -/
theorem take_last {W : List UInt8} {l : List Chr} {k i : Nat} (h : l ++ charsGo W k i = chars W) (hi : lastP W ≤ i) (hl : ∀ x ∈ l, x.1 < lastP W) : l.length = doneN W := by
  by_cases h0 : (sChars W).length = 0
  · rw [(last_none h0).1]
    rw [(last_none h0).2] at hl
    cases l with
    | nil => rfl
    | cons y l => have := hl y (by simp); omega
  · obtain ⟨x, hx, he⟩ := last_some h0
    obtain ⟨r2, hr2⟩ := sChars_pre W
    have hc : (chars W)[doneN W]? = some x := by rw [hr2, List.getElem?_append_left (List.getElem?_eq_some_iff.1 hx).1]; exact hx
    rcases Nat.lt_trichotomy l.length (doneN W) with h1 | h1 | h1
    · exfalso
      have hlt : l.length < (chars W).length := Nat.lt_trans h1 (List.getElem?_eq_some_iff.1 hc).1
      have hy : (chars W)[l.length]? = some (chars W)[l.length] := by simp [hlt]
      have hlow := chars_rise hy hc h1
      generalize (chars W)[l.length] = y at *
      rw [← h, List.getElem?_append_right (Nat.le_refl _)] at hy
      have := (charsGo_at hy).2.1
      omega
    · exact h1
    · exfalso
      have hx2 : l[doneN W]? = some x := by
        rw [← h, List.getElem?_append_left h1] at hc
        exact hc
      have := hl x (List.mem_of_getElem? hx2)
      omega
theorem told_at {l : List Ln} (hl : ∀ x ∈ l, x.right.length ≤ 2) (T u : List UInt8) : told l T = cutsTo l (chars (T ++ u)) (doneN T) := by
  obtain ⟨r, hr⟩ := chars_more T u
  unfold told
  show cutsTo l (sChars T) (doneN T) = _
  by_cases h : (sChars T).length = 0
  · rw [(last_none h).1]; rfl
  · rw [hr, cutsTo_pre hl (sChars T) r [] _ (by unfold doneN; omega), List.append_nil]
theorem take_done (T u : List UInt8) : (chars (T ++ u)).take (doneN T) = (sChars T).take (doneN T) := by
  obtain ⟨r, hr⟩ := chars_more T u
  rw [hr, List.take_append_of_le_length (by unfold doneN; omega)]
/-- Does the text begin with a character that stands, whatever comes behind? -/
def fullT (s : List UInt8) : Bool := decide (0 < s.length) && !halfway s 0
/-- Go's way to tell: by the first byte's entry x. -/
def fullGo (x : Nat) (s : List UInt8) : Bool :=
  decide (x % 8 ≤ s.length) || (decide (1 < s.length) && (decide (byt s 1 < Go.Lib.accLo (x / 16)) || decide (Go.Lib.accHi (x / 16) < byt s 1))) || (decide (2 < s.length) && (decide (byt s 2 < 128) || decide (191 < byt s 2)))
theorem half_2 {s : List UInt8} {x lo hi : Nat} (h0 : 0 < s.length) (hn : needs (byt s 0) = (2, lo, hi)) (hx : x % 8 = 2) : (!halfway s 0) = fullGo x s := by
  unfold halfway fullGo
  rw [well_2 hn, hx, Bool.eq_iff_iff]
  simp only [Nat.zero_add, Bool.not_eq_true', decide_eq_false_iff_not, Bool.or_eq_true, Bool.and_eq_true, decide_eq_true_eq]
  split <;> omega
theorem half_3 {s : List UInt8} {x lo hi : Nat} (h0 : 0 < s.length) (hn : needs (byt s 0) = (3, lo, hi)) (hx : x % 8 = 3) (hlo : Go.Lib.accLo (x / 16) = lo) (hhi : Go.Lib.accHi (x / 16) = hi) : (!halfway s 0) = fullGo x s := by
  unfold halfway fullGo
  rw [well_3 hn, hx, hlo, hhi, Bool.eq_iff_iff]
  simp only [Nat.zero_add, Bool.not_eq_true', decide_eq_false_iff_not, Bool.or_eq_true, Bool.and_eq_true, decide_eq_true_eq]
  repeat' split
  all_goals omega
theorem half_4 {s : List UInt8} {x lo hi : Nat} (h0 : 0 < s.length) (hn : needs (byt s 0) = (4, lo, hi)) (hx : x % 8 = 4) (hlo : Go.Lib.accLo (x / 16) = lo) (hhi : Go.Lib.accHi (x / 16) = hi) : (!halfway s 0) = fullGo x s := by
  unfold halfway fullGo
  rw [well_4 hn, hx, hlo, hhi, Bool.eq_iff_iff]
  simp only [Nat.zero_add, Bool.not_eq_true', decide_eq_false_iff_not, Bool.or_eq_true, Bool.and_eq_true, decide_eq_true_eq]
  repeat' split
  all_goals omega
theorem half_1 {s : List UInt8} {x : Nat} (h0 : 0 < s.length) (hw : well s 0 = (1, 1) ∨ well s 0 = (0, 0)) (hx : x % 8 ≤ 1) : (!halfway s 0) = fullGo x s := by
  have e1 : fullGo x s = true := by
    unfold fullGo
    rw [decide_eq_true (show x % 8 ≤ s.length by omega)]
    rfl
  have e2 : halfway s 0 = false := by
    unfold halfway
    rw [decide_eq_false_iff_not]
    rcases hw with h | h
    · rw [h]; simp
    · rw [h]; simp
  rw [e1, e2]
  rfl
theorem full_go {s : List UInt8} (h0 : 0 < s.length) : fullT s = fullGo (Go.Lib.firstT (byt s 0)) s := by
  have hb := byt_lt' s 0
  unfold fullT
  rw [decide_eq_true h0, Bool.true_and]
  unfold Go.Lib.firstT
  by_cases h1 : byt s 0 < 128
  · rw [if_pos h1]
    exact half_1 h0 (Or.inl (well_1 (needs_a h1))) (by decide)
  rw [if_neg h1]
  by_cases h2 : byt s 0 < 194
  · rw [if_pos h2]
    exact half_1 h0 (Or.inr (well_z (needs_i (by omega)))) (by decide)
  rw [if_neg h2]
  by_cases h3 : byt s 0 < 224
  · rw [if_pos h3]
    exact half_2 h0 (needs_b (by omega)) (by decide)
  rw [if_neg h3]
  by_cases h4 : byt s 0 = 224
  · rw [if_pos h4]
    exact half_3 h0 (needs_c h4) (by decide) rfl rfl
  rw [if_neg h4]
  by_cases h5 : byt s 0 < 237
  · rw [if_pos h5]
    exact half_3 h0 (needs_e (by omega)) (by decide) rfl rfl
  rw [if_neg h5]
  by_cases h6 : byt s 0 = 237
  · rw [if_pos h6]
    exact half_3 h0 (needs_d h6) (by decide) rfl rfl
  rw [if_neg h6]
  by_cases h7 : byt s 0 < 240
  · rw [if_pos h7]
    exact half_3 h0 (needs_e (by omega)) (by decide) rfl rfl
  rw [if_neg h7]
  by_cases h8 : byt s 0 = 240
  · rw [if_pos h8]
    exact half_4 h0 (needs_f h8) (by decide) rfl rfl
  rw [if_neg h8]
  by_cases h9 : byt s 0 < 244
  · rw [if_pos h9]
    exact half_4 h0 (needs_g (by omega)) (by decide) rfl rfl
  rw [if_neg h9]
  by_cases h10 : byt s 0 = 244
  · rw [if_pos h10]
    exact half_4 h0 (needs_h h10) (by decide) rfl rfl
  rw [if_neg h10]
  exact half_1 h0 (Or.inr (well_z (needs_i (by omega)))) (by decide)
theorem full_drop (t : List UInt8) (i : Nat) (hi : i ≤ t.length) : fullT (t.drop i) = (decide (i < t.length) && !halfway t i) := by
  unfold fullT
  rw [halfway_drop t i 0 hi, List.length_drop, Nat.add_zero]
  rw [show decide (0 < t.length - i) = decide (i < t.length) by rw [decide_eq_decide]; omega]
/-- The last one's place, of a list of characters. -/
def lastOf (l : List Chr) : Nat := (l.getD (l.length - 1) (0, 0, 0)).1
theorem lastOf_snoc (l : List Chr) (x : Chr) : lastOf (l ++ [x]) = x.1 := by
  unfold lastOf
  rw [List.getD_eq_getElem?_getD]
  simp
theorem lastP_of (t : List UInt8) : lastP t = lastOf (sChars t) := rfl
theorem stChars_stop {t : List UInt8} {f i : Nat} (h : (decide (i < t.length) && !halfway t i) = false) : stChars t f i = [] := by
  cases f with
  | zero => rfl
  | succ f =>
    rw [stChars]
    split
    · rename_i hi
      split
      · rfl
      · rename_i hh
        rw [decide_eq_true hi] at h
        simp at h
        exact absurd h hh
    · rfl
theorem stChars_next {t : List UInt8} {f i : Nat} (h : (decide (i < t.length) && !halfway t i) = true) : stChars t (f + 1) i = (i, chN t i, chCode t i) :: stChars t f (i + chN t i) := by
  simp only [Bool.and_eq_true, decide_eq_true_eq, Bool.not_eq_true'] at h
  rw [stChars, if_pos h.1, if_neg (by rw [h.2]; decide)]
end Cu
end Go.Proofs.YtbppbejigedioabGreatDoor
