/- Streams on plain lists: what is kept of a text, and what the rest of it tells. -/
import Derived.Test.YtbppbejigedioabGreatDoorPlainS
namespace Go.Proofs.YtbppbejigedioabGreatDoor
namespace Cu

theorem codeTo_drop (s : List UInt8) (c i n k : Nat) : codeTo (s.drop c) i n k = codeTo s (c + i) n k := by
  induction k with
  | zero => simp only [codeTo]; rw [byt_drop]
  | succ k ih => simp only [codeTo]; rw [ih, byt_drop, Nat.add_assoc]
theorem code_drop (s : List UInt8) (c i n : Nat) : code (s.drop c) i n = code s (c + i) n := by
  unfold code
  rw [byt_drop, codeTo_drop]
theorem chCode_drop (s : List UInt8) (c i : Nat) : chCode (s.drop c) i = chCode s (c + i) := by
  unfold chCode bad
  rw [well_drop, code_drop]
theorem halfway_drop (s : List UInt8) (c i : Nat) (hc : c ≤ s.length) : halfway (s.drop c) i = halfway s (c + i) := by
  unfold halfway
  rw [well_drop, List.length_drop]
  rw [decide_eq_decide]
  omega
/-- A character, so many bytes further on. -/
def shift (a : Nat) (x : Chr) : Chr := (a + x.1, x.2)
theorem charsGo_shift (s : List UInt8) (c f i : Nat) : (charsGo (s.drop c) f i).map (shift c) = charsGo s f (c + i) := by
  induction f generalizing i with
  | zero => rfl
  | succ f ih =>
    rw [charsGo, charsGo, List.length_drop]
    by_cases h : c + i < s.length
    · rw [if_pos h, if_pos (by omega), List.map_cons, ih, chN_drop, chCode_drop, Nat.add_assoc]
      rfl
    · rw [if_neg h, if_neg (by omega)]
      rfl
theorem stChars_shift (s : List UInt8) (c f i : Nat) (hc : c ≤ s.length) : (stChars (s.drop c) f i).map (shift c) = stChars s f (c + i) := by
  induction f generalizing i with
  | zero => rfl
  | succ f ih =>
    rw [stChars, stChars, List.length_drop, halfway_drop s c i hc]
    by_cases h : c + i < s.length
    · rw [if_pos h, if_pos (by omega)]
      by_cases hh : halfway s (c + i) = true
      · rw [if_pos hh, if_pos hh]
        rfl
      · rw [if_neg hh, if_neg hh, List.map_cons, ih, chN_drop, chCode_drop, Nat.add_assoc]
        rfl
    · rw [if_neg h, if_neg (by omega)]
      rfl
theorem stChars_fuel (s : List UInt8) (f g i : Nat) (hf : s.length ≤ i + f) (hg : s.length ≤ i + g) : stChars s f i = stChars s g i := by
  induction f generalizing g i with
  | zero =>
    cases g with
    | zero => rfl
    | succ g => rw [stChars, stChars, if_neg (by omega)]
  | succ f ih =>
    by_cases h : i < s.length
    · obtain ⟨g, rfl⟩ : ∃ m, g = m + 1 := ⟨g - 1, by omega⟩
      have := (chN_pos s i).1
      rw [stChars, stChars, ih g (i + chN s i) (by omega) (by omega)]
    · cases g with
      | zero => rw [stChars, stChars, if_neg h]
      | succ g => rw [stChars, stChars, if_neg h, if_neg h]
theorem stChars_at {s : List UInt8} {f i n : Nat} {x : Chr} (hf : s.length ≤ i + f) (h : (stChars s f i)[n]? = some x) : ∃ m, s.length ≤ x.1 + m ∧ x.1 < s.length ∧ (stChars s f i).drop n = stChars s m x.1 := by
  induction n generalizing f i with
  | zero =>
    cases f with
    | zero => simp [stChars] at h
    | succ f =>
      have h' := h
      rw [stChars] at h'
      split at h'
      · rename_i hi
        split at h'
        · simp at h'
        · simp only [List.getElem?_cons_zero, Option.some.injEq] at h'
          subst h'
          exact ⟨f + 1, hf, hi, rfl⟩
      · simp at h'
  | succ n ih =>
    cases f with
    | zero => simp [stChars] at h
    | succ f =>
      have h' := h
      rw [stChars] at h' ⊢
      split at h'
      · rename_i hi
        rw [if_pos hi]
        split at h'
        · simp at h'
        · rename_i hh
          rw [if_neg hh]
          simp only [List.getElem?_cons_succ] at h'
          have := (chN_pos s i).1
          obtain ⟨m, h1, h2, h3⟩ := ih (by omega) h'
          exact ⟨m, h1, h2, by rw [List.drop_succ_cons, h3]⟩
      · simp at h'

/-- How many characters are done with: all settled ones but the last. -/
def doneN (t : List UInt8) : Nat := (sChars t).length - 1
/-- Where the last settled one stands. -/
def lastP (t : List UInt8) : Nat := ((sChars t).getD (doneN t) (0, 0, 0)).1
theorem sChars_pre (t : List UInt8) : ∃ r, chars t = sChars t ++ r := by
  obtain ⟨r, hr⟩ := chars_more t []
  rw [List.append_nil] at hr
  exact ⟨r, hr⟩
theorem last_some {t : List UInt8} (h : (sChars t).length ≠ 0) : ∃ x, (sChars t)[doneN t]? = some x ∧ x.1 = lastP t := by
  have hl : doneN t < (sChars t).length := by unfold doneN; omega
  refine ⟨(sChars t)[doneN t], by simp [hl], ?_⟩
  unfold lastP
  rw [List.getD_eq_getElem?_getD, List.getElem?_eq_getElem hl]
  rfl
theorem last_none {t : List UInt8} (h : (sChars t).length = 0) : doneN t = 0 ∧ lastP t = 0 := by
  have e : sChars t = [] := List.eq_nil_of_length_eq_zero h
  unfold lastP doneN
  rw [e]
  exact ⟨rfl, rfl⟩
theorem lastP_le (t : List UInt8) : lastP t ≤ t.length := by
  by_cases h : (sChars t).length = 0
  · rw [(last_none h).2]; omega
  · obtain ⟨x, hx, he⟩ := last_some h
    obtain ⟨r, hr⟩ := sChars_pre t
    have hc : (chars t)[doneN t]? = some x := by rw [hr, List.getElem?_append_left (List.getElem?_eq_some_iff.1 hx).1]; exact hx
    have := (chars_at hc).1
    omega
theorem doneN_le (t : List UInt8) : doneN t ≤ lastP t := by
  by_cases h : (sChars t).length = 0
  · rw [(last_none h).1, (last_none h).2]; omega
  · obtain ⟨x, hx, he⟩ := last_some h
    obtain ⟨r, hr⟩ := sChars_pre t
    have hc : (chars t)[doneN t]? = some x := by rw [hr, List.getElem?_append_left (List.getElem?_eq_some_iff.1 hx).1]; exact hx
    have := (chars_at hc).2.1
    omega
/-- The characters from a settled one's place on. -/
theorem window {T u : List UInt8} : ((chars ((T ++ u).drop (lastP T))).map (shift (lastP T)) = (chars (T ++ u)).drop (doneN T)) ∧ ((sChars ((T ++ u).drop (lastP T))).map (shift (lastP T)) = (sChars (T ++ u)).drop (doneN T)) := by
  have hle : lastP T ≤ (T ++ u).length := by have := lastP_le T; rw [List.length_append]; omega
  by_cases h : (sChars T).length = 0
  · rw [(last_none h).1, (last_none h).2]
    have e : ∀ l : List Chr, l.map (shift 0) = l := fun l => by
      have : shift 0 = id := by funext x; unfold shift; simp
      rw [this, List.map_id]
    rw [e, e]
    exact ⟨rfl, rfl⟩
  · obtain ⟨x, hx, he⟩ := last_some h
    have hn := (List.getElem?_eq_some_iff.1 hx).1
    obtain ⟨r, hr⟩ := chars_more T u
    obtain ⟨r2, hr2⟩ := sChars_more T u
    have hc : (chars (T ++ u))[doneN T]? = some x := by rw [hr, List.getElem?_append_left hn]; exact hx
    have hs : (sChars (T ++ u))[doneN T]? = some x := by rw [hr2, List.getElem?_append_left hn]; exact hx
    constructor
    · obtain ⟨_, h2, _, _, m, h5, h6⟩ := charsGo_at (show (charsGo (T ++ u) (T ++ u).length 0)[doneN T]? = some x from hc)
      show _ = (charsGo (T ++ u) (T ++ u).length 0).drop (doneN T)
      rw [h6, he]
      unfold chars
      rw [charsGo_shift, Nat.add_zero]
      exact charsGo_fuel _ _ _ _ (by rw [List.length_drop]; omega) (by omega)
    · obtain ⟨m, h1, _, h3⟩ := stChars_at (show (T ++ u).length ≤ 0 + (T ++ u).length by omega) (show (stChars (T ++ u) (T ++ u).length 0)[doneN T]? = some x from hs)
      show _ = (stChars (T ++ u) (T ++ u).length 0).drop (doneN T)
      rw [h3, he]
      unfold sChars
      rw [stChars_shift _ _ _ _ hle, Nat.add_zero]
      exact stChars_fuel _ _ _ _ (by rw [List.length_drop]; omega) (by omega)
/-- What is done with then, and where the last settled one stands. -/
theorem window_last (T u : List UInt8) : doneN (T ++ u) = doneN T + doneN ((T ++ u).drop (lastP T)) ∧ lastP (T ++ u) = lastP T + lastP ((T ++ u).drop (lastP T)) := by
  have hw := (window (T := T) (u := u)).2
  have hlen := congrArg List.length hw
  rw [List.length_map, List.length_drop] at hlen
  obtain ⟨r2, hr2⟩ := sChars_more T u
  have hge : (sChars T).length ≤ (sChars (T ++ u)).length := by rw [hr2, List.length_append]; omega
  by_cases h : (sChars ((T ++ u).drop (lastP T))).length = 0
  · have h0 : (sChars (T ++ u)).length = 0 := by
      by_cases hT : (sChars T).length = 0
      · rw [(last_none hT).1] at hlen; omega
      · unfold doneN at hlen; omega
    have hT0 : (sChars T).length = 0 := by omega
    obtain ⟨e1, e2⟩ := last_none h
    obtain ⟨e3, e4⟩ := last_none h0
    obtain ⟨e5, e6⟩ := last_none hT0
    exact ⟨by rw [e1, e3, e5], by rw [e2, e4, e6]⟩
  · have e1 : doneN (T ++ u) = doneN T + doneN ((T ++ u).drop (lastP T)) := by
      show (sChars (T ++ u)).length - 1 = doneN T + ((sChars ((T ++ u).drop (lastP T))).length - 1)
      omega
    refine ⟨e1, ?_⟩
    obtain ⟨y, hy, hye⟩ := last_some h
    have hq : ((sChars (T ++ u)).drop (doneN T))[doneN ((T ++ u).drop (lastP T))]? = some (shift (lastP T) y) := by
      rw [← hw, List.getElem?_map, hy]
      rfl
    rw [List.getElem?_drop, ← e1] at hq
    show ((sChars (T ++ u)).getD (doneN (T ++ u)) (0, 0, 0)).1 = _
    rw [List.getD_eq_getElem?_getD, hq]
    show lastP T + y.1 = _
    omega
/-- The characters that begin ahead of the last settled one. -/
theorem take_last {W : List UInt8} {l : List Chr} {k i : Nat} (h : l ++ charsGo W k i = chars W) (hi : lastP W ≤ i) (hl : ∀ x ∈ l, x.1 < lastP W) : l.length = doneN W := by
  by_cases h0 : (sChars W).length = 0
  · rw [(last_none h0).1]
    rw [(last_none h0).2] at hl
    cases l with
    | nil => rfl
    | cons y l => have := hl y (by simp); omega
  · obtain ⟨x, hx, he⟩ := last_some h0
    obtain ⟨r2, hr2⟩ := sChars_pre W
    have hc : (chars W)[doneN W]? = some x := by rw [hr2, List.getElem?_append_left (List.getElem?_eq_some_iff.1 hx).1]; exact hx
    rcases Nat.lt_trichotomy l.length (doneN W) with h1 | h1 | h1
    · exfalso
      have hlt : l.length < (chars W).length := Nat.lt_trans h1 (List.getElem?_eq_some_iff.1 hc).1
      have hy : (chars W)[l.length]? = some (chars W)[l.length] := by simp [hlt]
      have hlow := chars_rise hy hc h1
      generalize (chars W)[l.length] = y at *
      rw [← h, List.getElem?_append_right (Nat.le_refl _)] at hy
      have := (charsGo_at hy).2.1
      omega
    · exact h1
    · exfalso
      have hx2 : l[doneN W]? = some x := by
        rw [← h, List.getElem?_append_left h1] at hc
        exact hc
      have := hl x (List.mem_of_getElem? hx2)
      omega
theorem told_at {l : List Ln} (hl : ∀ x ∈ l, x.right.length ≤ 2) (T u : List UInt8) : told l T = cutsTo l (chars (T ++ u)) (doneN T) := by
  obtain ⟨r, hr⟩ := chars_more T u
  unfold told
  show cutsTo l (sChars T) (doneN T) = _
  by_cases h : (sChars T).length = 0
  · rw [(last_none h).1]; rfl
  · rw [hr, cutsTo_pre hl (sChars T) r [] _ (by unfold doneN; omega), List.append_nil]
theorem take_done (T u : List UInt8) : (chars (T ++ u)).take (doneN T) = (sChars T).take (doneN T) := by
  obtain ⟨r, hr⟩ := chars_more T u
  rw [hr, List.take_append_of_le_length (by unfold doneN; omega)]
/-- Does the text begin with a character that stands, whatever comes behind? -/
def fullT (s : List UInt8) : Bool := decide (0 < s.length) && !halfway s 0
/-- Go's way to tell: by the first byte's entry x. -/
def fullGo (x : Nat) (s : List UInt8) : Bool :=
  decide (x % 8 ≤ s.length) || (decide (1 < s.length) && (decide (byt s 1 < Go.Lib.accLo (x / 16)) || decide (Go.Lib.accHi (x / 16) < byt s 1))) || (decide (2 < s.length) && (decide (byt s 2 < 128) || decide (191 < byt s 2)))
theorem half_2 {s : List UInt8} {x lo hi : Nat} (h0 : 0 < s.length) (hn : needs (byt s 0) = (2, lo, hi)) (hx : x % 8 = 2) : (!halfway s 0) = fullGo x s := by
  unfold halfway fullGo
  rw [well_2 hn, hx, Bool.eq_iff_iff]
  simp only [Nat.zero_add, Bool.not_eq_true', decide_eq_false_iff_not, Bool.or_eq_true, Bool.and_eq_true, decide_eq_true_eq]
  split <;> omega
theorem half_3 {s : List UInt8} {x lo hi : Nat} (h0 : 0 < s.length) (hn : needs (byt s 0) = (3, lo, hi)) (hx : x % 8 = 3) (hlo : Go.Lib.accLo (x / 16) = lo) (hhi : Go.Lib.accHi (x / 16) = hi) : (!halfway s 0) = fullGo x s := by
  unfold halfway fullGo
  rw [well_3 hn, hx, hlo, hhi, Bool.eq_iff_iff]
  simp only [Nat.zero_add, Bool.not_eq_true', decide_eq_false_iff_not, Bool.or_eq_true, Bool.and_eq_true, decide_eq_true_eq]
  repeat' split
  all_goals omega
theorem half_4 {s : List UInt8} {x lo hi : Nat} (h0 : 0 < s.length) (hn : needs (byt s 0) = (4, lo, hi)) (hx : x % 8 = 4) (hlo : Go.Lib.accLo (x / 16) = lo) (hhi : Go.Lib.accHi (x / 16) = hi) : (!halfway s 0) = fullGo x s := by
  unfold halfway fullGo
  rw [well_4 hn, hx, hlo, hhi, Bool.eq_iff_iff]
  simp only [Nat.zero_add, Bool.not_eq_true', decide_eq_false_iff_not, Bool.or_eq_true, Bool.and_eq_true, decide_eq_true_eq]
  repeat' split
  all_goals omega
theorem half_1 {s : List UInt8} {x : Nat} (h0 : 0 < s.length) (hw : well s 0 = (1, 1) ∨ well s 0 = (0, 0)) (hx : x % 8 ≤ 1) : (!halfway s 0) = fullGo x s := by
  have e1 : fullGo x s = true := by
    unfold fullGo
    rw [decide_eq_true (show x % 8 ≤ s.length by omega)]
    rfl
  have e2 : halfway s 0 = false := by
    unfold halfway
    rw [decide_eq_false_iff_not]
    rcases hw with h | h
    · rw [h]; simp
    · rw [h]; simp
  rw [e1, e2]
  rfl
theorem full_go {s : List UInt8} (h0 : 0 < s.length) : fullT s = fullGo (Go.Lib.firstT (byt s 0)) s := by
  have hb := byt_lt' s 0
  unfold fullT
  rw [decide_eq_true h0, Bool.true_and]
  unfold Go.Lib.firstT
  by_cases h1 : byt s 0 < 128
  · rw [if_pos h1]
    exact half_1 h0 (Or.inl (well_1 (needs_a h1))) (by decide)
  rw [if_neg h1]
  by_cases h2 : byt s 0 < 194
  · rw [if_pos h2]
    exact half_1 h0 (Or.inr (well_z (needs_i (by omega)))) (by decide)
  rw [if_neg h2]
  by_cases h3 : byt s 0 < 224
  · rw [if_pos h3]
    exact half_2 h0 (needs_b (by omega)) (by decide)
  rw [if_neg h3]
  by_cases h4 : byt s 0 = 224
  · rw [if_pos h4]
    exact half_3 h0 (needs_c h4) (by decide) rfl rfl
  rw [if_neg h4]
  by_cases h5 : byt s 0 < 237
  · rw [if_pos h5]
    exact half_3 h0 (needs_e (by omega)) (by decide) rfl rfl
  rw [if_neg h5]
  by_cases h6 : byt s 0 = 237
  · rw [if_pos h6]
    exact half_3 h0 (needs_d h6) (by decide) rfl rfl
  rw [if_neg h6]
  by_cases h7 : byt s 0 < 240
  · rw [if_pos h7]
    exact half_3 h0 (needs_e (by omega)) (by decide) rfl rfl
  rw [if_neg h7]
  by_cases h8 : byt s 0 = 240
  · rw [if_pos h8]
    exact half_4 h0 (needs_f h8) (by decide) rfl rfl
  rw [if_neg h8]
  by_cases h9 : byt s 0 < 244
  · rw [if_pos h9]
    exact half_4 h0 (needs_g (by omega)) (by decide) rfl rfl
  rw [if_neg h9]
  by_cases h10 : byt s 0 = 244
  · rw [if_pos h10]
    exact half_4 h0 (needs_h h10) (by decide) rfl rfl
  rw [if_neg h10]
  exact half_1 h0 (Or.inr (well_z (needs_i (by omega)))) (by decide)
theorem full_drop (t : List UInt8) (i : Nat) (hi : i ≤ t.length) : fullT (t.drop i) = (decide (i < t.length) && !halfway t i) := by
  unfold fullT
  rw [halfway_drop t i 0 hi, List.length_drop, Nat.add_zero]
  rw [show decide (0 < t.length - i) = decide (i < t.length) by rw [decide_eq_decide]; omega]
/-- The last one's place, of a list of characters. -/
def lastOf (l : List Chr) : Nat := (l.getD (l.length - 1) (0, 0, 0)).1
theorem lastOf_snoc (l : List Chr) (x : Chr) : lastOf (l ++ [x]) = x.1 := by
  unfold lastOf
  rw [List.getD_eq_getElem?_getD]
  simp
theorem lastP_of (t : List UInt8) : lastP t = lastOf (sChars t) := rfl
theorem stChars_stop {t : List UInt8} {f i : Nat} (h : (decide (i < t.length) && !halfway t i) = false) : stChars t f i = [] := by
  cases f with
  | zero => rfl
  | succ f =>
    rw [stChars]
    split
    · rename_i hi
      split
      · rfl
      · rename_i hh
        rw [decide_eq_true hi] at h
        simp at h
        exact absurd h hh
    · rfl
theorem stChars_next {t : List UInt8} {f i : Nat} (h : (decide (i < t.length) && !halfway t i) = true) : stChars t (f + 1) i = (i, chN t i, chCode t i) :: stChars t f (i + chN t i) := by
  simp only [Bool.and_eq_true, decide_eq_true_eq, Bool.not_eq_true'] at h
  rw [stChars, if_pos h.1, if_neg (by rw [h.2]; decide)]
end Cu
end Go.Proofs.YtbppbejigedioabGreatDoor
