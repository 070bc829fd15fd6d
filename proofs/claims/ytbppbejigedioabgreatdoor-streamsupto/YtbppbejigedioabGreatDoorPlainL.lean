/- The five outright laws, on plain lists: framed cuts, plain files, pairs, a last rule, what is far behind. -/
import Derived.Test.YtbppbejigedioabGreatDoorCutY
namespace Go.Proofs.YtbppbejigedioabGreatDoor
namespace Cu
theorem byt_drop (s : List UInt8) (c i : Nat) : byt (s.drop c) i = byt s (c + i) := by
  unfold byt; rw [List.getD_eq_getElem?_getD, List.getD_eq_getElem?_getD, List.getElem?_drop]
theorem wk_drop (s : List UInt8) (c i n f lo hi k : Nat) : wk (s.drop c) i n f lo hi k = wk s (c + i) n f lo hi k := by
  induction f generalizing lo hi k with
  | zero => rfl
  | succ f ih =>
    rw [wk, wk, byt_drop, ih, show c + (i + k) = c + i + k by omega]
    have h : (i + k < (s.drop c).length) = (c + i + k < s.length) := by rw [List.length_drop]; apply propext; omega
    simp only [h]
theorem well_drop (s : List UInt8) (c i : Nat) : well (s.drop c) i = well s (c + i) := by
  unfold well; rw [byt_drop, wk_drop]
theorem chN_drop (s : List UInt8) (c i : Nat) : chN (s.drop c) i = chN s (c + i) := by
  unfold chN bad; rw [well_drop]
theorem charsGo_drop (s : List UInt8) (c f i : Nat) : (charsGo (s.drop c) f i).length = (charsGo s f (c + i)).length := by
  induction f generalizing i with
  | zero => rfl
  | succ f ih =>
    rw [charsGo, charsGo, chN_drop]
    by_cases h : c + i < s.length
    · rw [if_pos h, if_pos (by rw [List.length_drop]; omega), List.length_cons, List.length_cons, ih, Nat.add_assoc]
    · rw [if_neg h, if_neg (by rw [List.length_drop]; omega)]
theorem byt_take {s : List UInt8} {c i : Nat} (h : i < c) : byt (s.take c) i = byt s i := by
  unfold byt; rw [List.getD_eq_getElem?_getD, List.getD_eq_getElem?_getD, List.getElem?_take_of_lt h]
theorem wk_take (s : List UInt8) (c i n f lo hi k : Nat) (hk : k ≤ n) (hi2 : i + k ≤ c) : wk (s.take c) i n f lo hi k ≤ wk s i n f lo hi k ∧ (i + n ≤ c → wk (s.take c) i n f lo hi k = wk s i n f lo hi k) := by
  induction f generalizing lo hi k with
  | zero => exact ⟨Nat.le_refl _, fun _ => rfl⟩
  | succ f ih =>
    by_cases h : i + k < c
    · rw [wk, wk, byt_take h]
      have e : (i + k < (s.take c).length) = (i + k < s.length) := by rw [List.length_take]; apply propext; omega
      simp only [e]
      split
      · rename_i hc
        exact ih 0x80 0xbf (k + 1) (by omega) (by omega)
      · exact ⟨Nat.le_refl _, fun _ => rfl⟩
    · rw [wk_stop (s := s.take c) (by rw [List.length_take]; omega)]
      have h1 := wk_le s i n (f + 1) lo hi k hk
      exact ⟨h1.1, fun h2 => by omega⟩
theorem chN_take {s : List UInt8} {c i : Nat} (hi : i < c) (h : i + chN s i ≤ c) : chN (s.take c) i = chN s i := by
  have hw := needs_le (byt s i)
  by_cases h0 : (needs (byt s i)).1 = 0
  · have e1 : well s i = (0, 0) := by unfold well; rw [if_pos h0]
    have e2 : well (s.take c) i = (0, 0) := by unfold well; rw [byt_take hi, if_pos h0]
    unfold chN bad; rw [e1, e2]
  · have e1 : well s i = (wk s i (needs (byt s i)).1 4 (needs (byt s i)).2.1 (needs (byt s i)).2.2 1, (needs (byt s i)).1) := by unfold well; rw [if_neg h0]
    have e2 : well (s.take c) i = (wk (s.take c) i (needs (byt s i)).1 4 (needs (byt s i)).2.1 (needs (byt s i)).2.2 1, (needs (byt s i)).1) := by unfold well; rw [byt_take hi, if_neg h0]
    have h3 := wk_take s c i (needs (byt s i)).1 4 (needs (byt s i)).2.1 (needs (byt s i)).2.2 1 (by omega) (by omega)
    unfold chN bad at h ⊢
    rw [e1] at h ⊢
    rw [e2]
    simp only [decide_eq_true_eq] at h ⊢
    by_cases hb : (needs (byt s i)).1 = 0 ∨ wk s i (needs (byt s i)).1 4 (needs (byt s i)).2.1 (needs (byt s i)).2.2 1 < (needs (byt s i)).1
    · rw [if_pos hb, if_pos (by omega)]
    · rw [if_neg hb] at h ⊢
      have h4 := h3.2 h
      rw [if_neg (by omega)]
theorem charsGo_fuel (s : List UInt8) (f g i : Nat) (hf : s.length ≤ i + f) (hg : s.length ≤ i + g) : charsGo s f i = charsGo s g i := by
  induction f generalizing g i with
  | zero => rw [charsGo_end (by omega), charsGo_end (by omega)]
  | succ f ih =>
    by_cases h : i < s.length
    · obtain ⟨g, rfl⟩ : ∃ m, g = m + 1 := ⟨g - 1, by omega⟩
      rw [charsGo_step h, charsGo_step h]
      have := (chN_pos s i).1
      rw [ih g (i + chN s i) (by omega) (by omega)]
    · rw [charsGo_end (by omega), charsGo_end (by omega)]
/-- What the n-th character is: where it lies, and what is ahead of it and behind it. -/
theorem charsGo_at {s : List UInt8} {f i n : Nat} {x : Chr} (h : (charsGo s f i)[n]? = some x) :
    x.1 < s.length ∧ i + n ≤ x.1 ∧ x = (x.1, chN s x.1, chCode s x.1) ∧ (∀ g, s.length ≤ i + g → (charsGo (s.take x.1) g i).length = n) ∧ ∃ m, f = m + n ∧ (charsGo s f i).drop n = charsGo s m x.1 := by
  induction n generalizing f i with
  | zero =>
    cases f with
    | zero => simp [charsGo] at h
    | succ f =>
      rw [charsGo] at h ⊢
      split at h
      · rename_i hi
        simp at h
        subst h
        rw [if_pos hi]
        exact ⟨hi, Nat.le_refl _, rfl, fun g _ => by rw [charsGo_end (by rw [List.length_take]; simp only; omega)]; rfl, f + 1, rfl, by rw [List.drop_zero, charsGo_step hi]⟩
      · simp at h
  | succ n ih =>
    cases f with
    | zero => simp [charsGo] at h
    | succ f =>
      rw [charsGo] at h
      split at h
      · rename_i hi
        simp only [List.getElem?_cons_succ] at h
        obtain ⟨h1, h2, h3, h4, m, h5, h6⟩ := ih h
        have hp := chN_pos s i
        refine ⟨h1, by omega, h3, fun g hg => ?_, m, by omega, ?_⟩
        · obtain ⟨g, rfl⟩ : ∃ k, g = k + 1 := ⟨g - 1, by omega⟩
          rw [charsGo_step (by rw [List.length_take]; omega), chN_take (by omega) (by omega), List.length_cons, h4 g (by omega)]
        · rw [charsGo_step hi, List.drop_succ_cons, h6]
      · simp at h
theorem chars_at {t : List UInt8} {n : Nat} {x : Chr} (h : (chars t)[n]? = some x) :
    x.1 < t.length ∧ n ≤ x.1 ∧ (chars (t.take x.1)).length = n ∧ (chars (t.take x.1)).length + (chars (t.drop x.1)).length = (chars t).length := by
  unfold chars at h
  obtain ⟨h1, h2, _, h4, m, h5, h6⟩ := charsGo_at h
  have hl : n < (charsGo t t.length 0).length := (List.getElem?_eq_some_iff.1 h).1
  have e1 : (chars (t.take x.1)).length = n := by
    unfold chars
    rw [charsGo_fuel (t.take x.1) _ t.length 0 (by omega) (by rw [List.length_take]; omega)]
    exact h4 _ (by omega)
  have e2 : (chars (t.drop x.1)).length = (charsGo t t.length 0).length - n := by
    unfold chars
    rw [charsGo_drop, Nat.add_zero, charsGo_fuel t _ m x.1 (by rw [List.length_drop]; omega) (by omega), ← h6, List.length_drop]
  refine ⟨h1, by omega, e1, ?_⟩
  rw [e1, e2]
  show _ = (charsGo t t.length 0).length
  omega
/-- The characters rise. -/
theorem chars_rise {t : List UInt8} {n m : Nat} {x y : Chr} (hx : (chars t)[n]? = some x) (hy : (chars t)[m]? = some y) (h : n < m) : x.1 < y.1 := by
  have hm : m < (charsGo t t.length 0).length := (List.getElem?_eq_some_iff.1 hy).1
  unfold chars at hx hy
  obtain ⟨h1, h2, h3, _, k, h5, h6⟩ := charsGo_at hx
  have e : (charsGo t k x.1)[m - n]? = some y := by rw [← h6, List.getElem?_drop, show n + (m - n) = m by omega]; exact hy
  have := (charsGo_at e).2.1
  omega
/-- Where a cut stands. -/
theorem mem_cutsTo {l : List Ln} {cs : List Chr} {n p : Nat} : p ∈ cutsTo l cs n ↔ ∃ i, i < n ∧ cutAt l cs i = true ∧ p = (cs.getD i (0, 0, 0)).1 := by
  induction n with
  | zero => simp [cutsTo]
  | succ n ih =>
    rw [cutsTo, List.mem_append, ih]
    constructor
    · rintro (⟨i, h1, h2, h3⟩ | h)
      · exact ⟨i, by omega, h2, h3⟩
      · split at h
        · rename_i hc
          simp at h
          exact ⟨n, by omega, hc, by simpa using h⟩
        · simp at h
    · rintro ⟨i, h1, h2, h3⟩
      by_cases hi : i < n
      · exact Or.inl ⟨i, hi, h2, h3⟩
      · obtain rfl : i = n := by omega
        right
        rw [if_pos h2, h3]
        simp
theorem cutsTo_rise {l : List Ln} {t : List UInt8} {n : Nat} (hn : n ≤ (chars t).length) : (cutsTo l (chars t) n).Pairwise (· < ·) := by
  induction n with
  | zero => exact List.Pairwise.nil
  | succ n ih =>
    rw [cutsTo, List.pairwise_append]
    refine ⟨ih (by omega), by split <;> simp, fun a ha b hb => ?_⟩
    obtain ⟨i, h1, h2, rfl⟩ := mem_cutsTo.1 ha
    split at hb
    · simp only [List.mem_singleton] at hb
      subst hb
      have hi : i < (chars t).length := by omega
      have hn2 : n < (chars t).length := by omega
      rw [List.getD_eq_getElem?_getD, List.getD_eq_getElem?_getD, List.getElem?_eq_getElem hi, List.getElem?_eq_getElem hn2]
      exact chars_rise (List.getElem?_eq_getElem hi) (List.getElem?_eq_getElem hn2) h1
    · simp at hb
theorem chars_nil : chars [] = [] := rfl
theorem chars_pos {t : List UInt8} (h : 0 < t.length) : 0 < (chars t).length := by
  unfold chars
  obtain ⟨n, hn⟩ : ∃ n, t.length = n + 1 := ⟨t.length - 1, by omega⟩
  rw [hn, charsGo_step (by omega)]
  simp
theorem chars_zero {t : List UInt8} (h : 0 < t.length) : ((chars t).getD 0 (0, 0, 0)).1 = 0 := by
  unfold chars
  obtain ⟨n, hn⟩ : ∃ n, t.length = n + 1 := ⟨t.length - 1, by omega⟩
  rw [hn, charsGo_step (by omega)]
  simp
/-- A list of cuts as the document frames it. -/
structure Framed (t : List UInt8) (out : List Nat) : Prop where
  two : 2 ≤ out.length
  zero : out[0]? = some 0
  last : out[out.length - 1]? = some t.length
  rise : ∀ i x y, out[i]? = some x → out[i + 1]? = some y → x < y
  le : ∀ p ∈ out, p ≤ t.length
  part : ∀ p ∈ out, (chars (t.take p)).length + (chars (t.drop p)).length = (chars t).length
theorem cutsTo_one {l : List Ln} {cs : List Chr} {n : Nat} (h : 0 < n) : (cutsTo l cs n)[0]? = some (cs.getD 0 (0, 0, 0)).1 := by
  induction n with
  | zero => omega
  | succ n ih =>
    rw [cutsTo]
    by_cases hn : 0 < n
    · have h1 := ih hn
      have hl := (List.getElem?_eq_some_iff.1 h1).1
      rw [List.getElem?_append_left hl, h1]
    · obtain rfl : n = 0 := by omega
      rfl
theorem framed (l : List Ln) {t : List UInt8} (ht : 0 < t.length) : Framed t (cutsR l t) := by
  have hc := chars_pos ht
  have h1 := cutsTo_one (l := l) (cs := chars t) hc
  have hl := (List.getElem?_eq_some_iff.1 h1).1
  have e : cutsR l t = cutsTo l (chars t) (chars t).length ++ [t.length] := by unfold cutsR; rw [if_pos ht]
  have hle : ∀ p ∈ cutsTo l (chars t) (chars t).length, p < t.length ∧ (chars (t.take p)).length + (chars (t.drop p)).length = (chars t).length := by
    intro p hp
    obtain ⟨i, h1, h2, rfl⟩ := mem_cutsTo.1 hp
    rw [List.getD_eq_getElem?_getD, List.getElem?_eq_getElem h1]
    have := chars_at (List.getElem?_eq_getElem h1)
    exact ⟨this.1, this.2.2.2⟩
  have hpw : (cutsR l t).Pairwise (· < ·) := by
    rw [e, List.pairwise_append]
    refine ⟨cutsTo_rise (Nat.le_refl _), by simp, fun a ha b hb => ?_⟩
    simp only [List.mem_singleton] at hb
    subst hb
    exact (hle a ha).1
  have hlen : (cutsR l t).length = (cutsTo l (chars t) (chars t).length).length + 1 := by rw [e]; simp
  refine ⟨by omega, ?_, ?_, fun i x y hx hy => ?_, fun p hp => ?_, fun p hp => ?_⟩
  · rw [e, List.getElem?_append_left hl, h1, chars_zero ht]
  · rw [hlen, e, Nat.add_sub_cancel, List.getElem?_append_right (Nat.le_refl _), Nat.sub_self]; rfl
  · obtain ⟨hi, rfl⟩ := List.getElem?_eq_some_iff.1 hx
    obtain ⟨hi2, rfl⟩ := List.getElem?_eq_some_iff.1 hy
    exact List.pairwise_iff_getElem.1 hpw _ _ hi hi2 (by omega)
  · rw [e] at hp
    rcases List.mem_append.1 hp with h | h
    · exact Nat.le_of_lt (hle p h).1
    · simp at h; omega
  · rw [e] at hp
    rcases List.mem_append.1 hp with h | h
    · exact (hle p h).2
    · simp only [List.mem_singleton] at h
      subst h
      rw [List.take_length, List.drop_length, chars_nil]; rfl
theorem cutsTo_all {l : List Ln} {cs : List Chr} {n : Nat} (h : ∀ i, cutAt l cs i = true) (hn : n ≤ cs.length) : cutsTo l cs n = (cs.take n).map fun x => x.1 := by
  induction n with
  | zero => simp [cutsTo]
  | succ n ih =>
    have h1 : cs[n]? = some cs[n] := List.getElem?_eq_getElem (by omega)
    rw [cutsTo_yes h1 (h n), ih (by omega), List.take_add_one, h1, List.map_append]
    rfl
theorem cutsTo_none {l : List Ln} {cs : List Chr} {n : Nat} (h : ∀ i, 0 < i → i < cs.length → cutAt l cs i = false) (h0 : 0 < n) (hn : n ≤ cs.length) : cutsTo l cs n = [(cs.getD 0 (0, 0, 0)).1] := by
  induction n with
  | zero => omega
  | succ n ih =>
    by_cases h1 : 0 < n
    · rw [cutsTo_no (h n h1 (by omega)), ih h1 (by omega)]
    · obtain rfl : n = 0 := by omega
      rfl
/-- All places between characters, and none of them. -/
def allCuts (t : List UInt8) : List Nat := (chars t).map (fun x => x.1) ++ (if 0 < t.length then [t.length] else [])
def noCuts (t : List UInt8) : List Nat := if 0 < t.length then [0, t.length] else []
theorem cutsR_all {l : List Ln} (t : List UInt8) (h : ∀ a b, partedP l a b = true) : cutsR l t = allCuts t := by
  unfold cutsR allCuts
  rw [cutsTo_all (fun i => by unfold cutAt; rw [h]; simp) (Nat.le_refl _), List.take_length]
theorem cutsR_none {l : List Ln} (t : List UInt8) (h : ∀ a b, 0 < a.length → 0 < b.length → partedP l a b = false) : cutsR l t = noCuts t := by
  unfold cutsR noCuts
  by_cases ht : 0 < t.length
  · rw [if_pos ht, if_pos ht, cutsTo_none (fun i h1 h2 => ?_) (chars_pos ht) (Nat.le_refl _), chars_zero ht]
    · rfl
    · have hl : (clsAt l (chars t)).length = (chars t).length := by unfold clsAt; simp
      unfold cutAt
      rw [h _ _ (by rw [List.length_take, hl]; omega) (by rw [List.length_drop, hl]; omega)]
      simp; omega
  · obtain rfl : t = [] := List.length_eq_zero_iff.1 (by omega)
    rfl
theorem lines_none : readGo [] 12 0 [] = (true, 0, [⟨0, [], 0, [], [], 0⟩]) := by rfl
theorem lines_bar : readGo [124] 12 0 [] = (true, 1, [⟨0, [], 124, [], [], 0⟩]) := by rfl
theorem lines_no : readGo [33] 12 0 [] = (true, 1, [⟨0, [], 33, [], [], 0⟩]) := by rfl
theorem lines_dots : readGo [46, 33, 46] 12 0 [] = (true, 3, [⟨0, [], 33, [(46, 32, 0)], [(46, 32, 2)], 0⟩]) := by rfl
theorem check_none : check [] = (0, 0) := by rfl
theorem check_bar : check [124] = (0, 0) := by rfl
theorem check_no : check [33] = (0, 0) := by rfl
theorem check_dots : check [46, 33, 46] = (0, 0) := by rfl
theorem cutsR_nofile (t : List UInt8) : cutsR (readGo [] 12 0 []).2.2 t = allCuts t := by
  rw [lines_none]; exact cutsR_all t fun a b => by simp [partedP]
theorem aheadP_nil (s : List UInt8) : aheadP [] 0 s = true := by unfold aheadP; exact aheadR_zero _
theorem cutsR_bar (t : List UInt8) : cutsR (readGo [124] 12 0 []).2.2 t = allCuts t := by
  rw [lines_bar]; exact cutsR_all t fun a b => by simp [partedP]
theorem cutsR_no (t : List UInt8) : cutsR (readGo [33] 12 0 []).2.2 t = noCuts t := by
  rw [lines_no]; exact cutsR_none t fun a b _ _ => by simp [partedP, aheadP_nil, behindP]
/-- One bare atom ahead of a place. -/
theorem aheadP_one (a p : Nat) (s : List UInt8) (c : UInt8) : aheadP [(a, 32, p)] 1 (s ++ [c]) = isB c.toNat a := by
  unfold aheadP
  rw [List.take_of_length_le (by simp), List.reverse_append]
  simp [aheadR_more, aheadR_zero]
theorem behindP_one (b p : Nat) (s : List UInt8) (c : UInt8) : behindP [(b, 32, p)] (c :: s) = isB c.toNat b := by
  simp [behindP]
theorem snoc_of_pos {s : List UInt8} (h : 0 < s.length) : ∃ r c, s = r ++ [c] :=
  ⟨s.dropLast, s.getLast (List.ne_nil_of_length_pos h), (List.dropLast_concat_getLast _).symm⟩
theorem cons_of_pos {s : List UInt8} (h : 0 < s.length) : ∃ c r, s = c :: r := by
  cases s with
  | nil => simp at h
  | cons c r => exact ⟨c, r, rfl⟩
theorem cutsR_dots (t : List UInt8) : cutsR (readGo [46, 33, 46] 12 0 []).2.2 t = noCuts t := by
  rw [lines_dots]
  refine cutsR_none t fun a b ha hb => ?_
  obtain ⟨a, x, rfl⟩ := snoc_of_pos ha
  obtain ⟨y, b, rfl⟩ := cons_of_pos hb
  rw [partedP, if_pos ⟨by decide, by exact aheadP_one 46 0 a x, by exact behindP_one 46 2 b y⟩]
  rfl
theorem allCuts_len {t : List UInt8} (ht : 0 < t.length) : (allCuts t).length = (chars t).length + 1 := by unfold allCuts; rw [if_pos ht]; simp
/-- The files of two classes and one rule. -/
def pairFile (a b : UInt8) : List UInt8 := [65, 61, 97, 45, 109, 59, 66, 61, 110, 45, 122, 195, 169, 59, a, 33, b]
def pairLns (a b : UInt8) : List Ln := [⟨65, [(97, 109, 2)], 0, [], [], 0⟩, ⟨66, [(110, 122, 8), (233, 233, 11)], 0, [], [], 6⟩, ⟨0, [], 33, [(a.toNat, 32, 14)], [(b.toNat, 32, 16)], 14⟩]
def Four (a : UInt8) : Prop := a = 65 ∨ a = 66 ∨ a = 95 ∨ a = 46
set_option maxRecDepth 100000 in
theorem pair_lines {a b : UInt8} (ha : Four a) (hb : Four b) : readGo (pairFile a b) 12 0 [] = (true, 17, pairLns a b) := by
  rcases ha with rfl | rfl | rfl | rfl <;> rcases hb with rfl | rfl | rfl | rfl <;> rfl
theorem pair_check {a b : UInt8} (ha : Four a) (hb : Four b) : check (pairFile a b) = (0, 0) := by
  rcases ha with rfl | rfl | rfl | rfl <;> rcases hb with rfl | rfl | rfl | rfl <;> rfl
/-- Between two characters: a cut just if their classes are not the two signs. -/
theorem pair_cut (a b : UInt8) (A B : List UInt8) (x y : UInt8) : partedP (pairLns a b) (A ++ [x]) (y :: B) = !(isB x.toNat a.toNat && isB y.toNat b.toNat) := by
  unfold pairLns
  rw [partedP, if_neg (by simp), partedP, if_neg (by simp), partedP]
  have e1 : aheadP [(a.toNat, 32, 14)] [(a.toNat, 32, 14)].length (A ++ [x]) = isB x.toNat a.toNat := aheadP_one _ _ _ _
  have e2 : behindP [(b.toNat, 32, 16)] (y :: B) = isB y.toNat b.toNat := behindP_one _ _ _ _
  rw [e1, e2]
  cases h1 : isB x.toNat a.toNat <;> cases h2 : isB y.toNat b.toNat <;> simp [partedP]
theorem pair_cutAt (a b : UInt8) (cs : List Chr) (i : Nat) (x y : UInt8) (h0 : 0 < i) (hx : (clsAt (pairLns a b) cs)[i - 1]? = some x) (hy : (clsAt (pairLns a b) cs)[i]? = some y) :
    cutAt (pairLns a b) cs i = !(isB x.toNat a.toNat && isB y.toNat b.toNat) := by
  obtain ⟨h1, rfl⟩ := List.getElem?_eq_some_iff.1 hx
  obtain ⟨h2, rfl⟩ := List.getElem?_eq_some_iff.1 hy
  unfold cutAt
  have e : (clsAt (pairLns a b) cs).take i = (clsAt (pairLns a b) cs).take (i - 1) ++ [(clsAt (pairLns a b) cs)[i - 1]] := by
    rw [List.take_append_getElem, show i - 1 + 1 = i by omega]
  rw [e, ← List.getElem_cons_drop h2, pair_cut]
  have : (i == 0) = false := by rw [beq_eq_false_iff_ne]; omega
  rw [this, Bool.false_or]
/-- Is a place cut? -/
theorem mem_cutsR {l : List Ln} {t : List UInt8} {i : Nat} {x : Chr} (h : (chars t)[i]? = some x) : x.1 ∈ cutsR l t ↔ cutAt l (chars t) i = true := by
  have hx := chars_at h
  have hi := (List.getElem?_eq_some_iff.1 h).1
  unfold cutsR
  rw [List.mem_append, mem_cutsTo]
  constructor
  · rintro (⟨j, h1, h2, h3⟩ | h1)
    · rw [List.getD_eq_getElem?_getD, List.getElem?_eq_getElem h1] at h3
      simp only [Option.getD_some] at h3
      have e : i = j := by
        rcases Nat.lt_trichotomy i j with h4 | h4 | h4
        · have := chars_rise h (List.getElem?_eq_getElem h1) h4; omega
        · exact h4
        · have := chars_rise (List.getElem?_eq_getElem h1) h h4; omega
      rw [e]; exact h2
    · split at h1
      · simp at h1; omega
      · simp at h1
  · intro h1
    exact Or.inl ⟨i, hi, h1, by rw [List.getD_eq_getElem?_getD, h]; rfl⟩
theorem code_low {t : List UInt8} {i : Nat} {x : Chr} (h : (chars t)[i]? = some x) (hl : byt t x.1 < 128) : x.2.2 = ((byt t x.1 : Nat) : Int) := by
  unfold chars at h
  obtain ⟨h1, _, h3, _⟩ := charsGo_at h
  rw [h3]
  show chCode t x.1 = _
  have e : well t x.1 = (1, 1) := by
    unfold well
    rw [needs_a hl]
    simp only [Nat.reduceEqDiff, if_false]
    rw [wk_stop (by omega)]
  unfold chCode bad
  rw [e]
  simp [code]
theorem pair_class (a b : UInt8) (c : Nat) : (classOf (pairLns a b) (c : Int) = 65) ↔ (97 ≤ c ∧ c ≤ 109) := by
  unfold classOf pairLns
  by_cases h : 97 ≤ c ∧ c ≤ 109
  · have e : hitLn (c : Int) ⟨65, [(97, 109, 2)], 0, [], [], 0⟩ = true := by simp [hitLn, hit]; omega
    rw [List.find?_cons_of_pos e]
    simp [h]
  · have e : ¬ hitLn (c : Int) ⟨65, [(97, 109, 2)], 0, [], [], 0⟩ = true := by simp [hitLn, hit]; omega
    rw [List.find?_cons_of_neg e]
    by_cases h2 : hitLn (c : Int) ⟨66, [(110, 122, 8), (233, 233, 11)], 0, [], [], 6⟩ = true
    · rw [List.find?_cons_of_pos h2]
      simp [h]
    · rw [List.find?_cons_of_neg h2, List.find?_cons_of_neg (by simp [hitLn])]
      simp [h]
theorem pair_class_in (a b : UInt8) (c : Int) : classOf (pairLns a b) c = 65 ∨ classOf (pairLns a b) c = 66 ∨ classOf (pairLns a b) c = 95 := by
  unfold classOf pairLns
  by_cases h : hitLn c ⟨65, [(97, 109, 2)], 0, [], [], 0⟩ = true
  · rw [List.find?_cons_of_pos h]; simp
  · rw [List.find?_cons_of_neg h]
    by_cases h2 : hitLn c ⟨66, [(110, 122, 8), (233, 233, 11)], 0, [], [], 6⟩ = true
    · rw [List.find?_cons_of_pos h2]; simp
    · rw [List.find?_cons_of_neg h2, List.find?_cons_of_neg (by simp [hitLn])]; simp
theorem pair_letter (a b : UInt8) (x : Chr) : (UInt8.ofNat (classOf (pairLns a b) x.2.2)).toNat = classOf (pairLns a b) x.2.2 := by
  rcases pair_class_in a b x.2.2 with h | h | h <;> rw [h] <;> rfl
/-- A file and, behind it, one more line. -/
theorem byt_app {s r : List UInt8} {i : Nat} (h : i < s.length) : byt (s ++ r) i = byt s i := by
  unfold byt; rw [List.getD_eq_getElem?_getD, List.getD_eq_getElem?_getD, List.getElem?_append_left h]
theorem byt_at (s r : List UInt8) : byt (s ++ 59 :: r) s.length = 59 := by
  unfold byt; rw [List.getD_eq_getElem?_getD, List.getElem?_append_right (Nat.le_refl _), Nat.sub_self]; rfl
theorem needs_lo (c : Nat) : 2 ≤ (needs c).1 → 0x80 ≤ (needs c).2.1 := by
  unfold needs; repeat' split
  all_goals simp
theorem wk_semi (s r : List UInt8) (i n f lo hi k : Nat) (hlo : k < n → 0x80 ≤ lo) (hk : i + k ≤ s.length) : wk (s ++ 59 :: r) i n f lo hi k = wk s i n f lo hi k := by
  induction f generalizing lo hi k with
  | zero => rfl
  | succ f ih =>
    by_cases h : i + k < s.length
    · rw [wk, wk, byt_app h]
      have e : (i + k < (s ++ 59 :: r).length) = (i + k < s.length) := by rw [List.length_append]; simp only [List.length_cons]; apply propext; omega
      simp only [e]
      rw [ih 0x80 0xbf (k + 1) (fun _ => Nat.le_refl _) (by omega)]
    · have e : i + k = s.length := by omega
      rw [wk_stop (s := s) (by omega), wk_stop (by rw [e, byt_at]; omega)]
theorem well_semi {s : List UInt8} (r : List UInt8) {i : Nat} (h : i < s.length) : well (s ++ 59 :: r) i = well s i := by
  unfold well
  rw [byt_app h]
  split
  · rfl
  · rw [wk_semi _ _ _ _ _ _ _ _ (fun h1 => needs_lo _ (by omega)) (by omega)]
theorem codeTo_app {s r : List UInt8} {i n k : Nat} (h : i + k < s.length) : codeTo (s ++ r) i n k = codeTo s i n k := by
  induction k with
  | zero => unfold codeTo; rw [byt_app (by omega)]
  | succ k ih => unfold codeTo; rw [ih (by omega), byt_app (by omega)]
theorem code_app {s r : List UInt8} {i n : Nat} (h : i < s.length) (h1 : i + n ≤ s.length) : code (s ++ r) i n = code s i n := by
  unfold code
  split
  · rw [byt_app h]
  · rw [codeTo_app (by omega)]
theorem itemOk_semi (s r : List UInt8) {i : Nat} (h : i ≤ s.length) : itemOk (s ++ 59 :: r) i = itemOk s i := by
  unfold itemOk
  by_cases h1 : i < s.length
  · rw [byt_app h1, well_semi r h1]
    have e : (i < (s ++ 59 :: r).length) = (i < s.length) := by rw [List.length_append]; simp only [List.length_cons]; apply propext; omega
    simp only [e]
  · obtain rfl : i = s.length := by omega
    rw [byt_at]
    simp [barred]
theorem itemEnd_semi (s r : List UInt8) {i : Nat} (h : i ≤ s.length) : itemEnd (s ++ 59 :: r) i = itemEnd s i := by
  unfold itemEnd
  by_cases h1 : i < s.length
  · rw [byt_app h1, well_semi r h1]
    have e : (i < (s ++ 59 :: r).length) = (i < s.length) := by rw [List.length_append]; simp only [List.length_cons]; apply propext; omega
    simp only [e]
  · obtain rfl : i = s.length := by omega
    rw [byt_at]
    simp [barred]
theorem itemCode_semi (s r : List UInt8) {i : Nat} (h : i ≤ s.length) : itemCode (s ++ 59 :: r) i = itemCode s i := by
  unfold itemCode
  rw [itemOk_semi s r h]
  split
  · rename_i hok
    have h2 : i < s.length := by
      unfold itemOk at hok
      simp only [Bool.and_eq_true, decide_eq_true_eq] at hok
      exact hok.1.1.1
    have h3 : (well s i).2 ≤ (well s i).1 := by
      unfold itemOk at hok
      simp only [Bool.and_eq_true, decide_eq_true_eq] at hok
      exact hok.2
    have h4 := well_in s i h2
    rw [well_semi r h2, code_app h2 (by omega)]
  · rfl
theorem more_semi (s r : List UInt8) {i : Nat} (h : i ≤ s.length) : more (s ++ 59 :: r) i = more s i := by
  unfold more
  by_cases h1 : i < s.length
  · rw [byt_app h1]
    have e : (i < (s ++ 59 :: r).length) = (i < s.length) := by rw [List.length_append]; simp only [List.length_cons]; apply propext; omega
    simp only [e]
  · obtain rfl : i = s.length := by omega
    rw [byt_at]
    simp
theorem dash_semi (s r : List UInt8) {i : Nat} (h : i ≤ s.length) : dash (s ++ 59 :: r) i = dash s i := by
  unfold dash
  by_cases h1 : i < s.length
  · rw [byt_app h1]
    have e : (i < (s ++ 59 :: r).length) = (i < s.length) := by rw [List.length_append]; simp only [List.length_cons]; apply propext; omega
    simp only [e]
  · obtain rfl : i = s.length := by omega
    rw [byt_at]
    simp
theorem classGo_semi (s r : List UInt8) (f g i : Nat) (l : List Item) (h : i ≤ s.length) (hf : s.length < i + f) (hg : s.length < i + g) : classGo (s ++ 59 :: r) g i l = classGo s f i l := by
  induction f generalizing g i l with
  | zero => omega
  | succ f ih =>
    obtain ⟨g, rfl⟩ : ∃ m, g = m + 1 := ⟨g - 1, by omega⟩
    have hle := itemEnd_le s i h
    rw [classGo, classGo, more_semi s r h, itemOk_semi s r h, itemEnd_semi s r h, dash_semi s r hle.2]
    split
    · rfl
    · split
      · rfl
      · rename_i hok
        have hok : itemOk s i = true := by cases hx : itemOk s i <;> simp_all
        have hlt := itemOk_lt hok
        split
        · rename_i hd
          unfold dash at hd
          simp only [Bool.and_eq_true, decide_eq_true_eq] at hd
          have h2 := itemEnd_le s (itemEnd s i + 1) (by omega)
          rw [itemOk_semi s r (by omega), itemEnd_semi s r (by omega), itemCode_semi s r h, itemCode_semi s r (by omega)]
          split
          · rfl
          · exact ih _ _ _ h2.2 (by omega) (by omega)
        · rw [itemCode_semi s r h]
          exact ih _ _ _ hle.2 (by omega) (by omega)
theorem sgn_semi (s r : List UInt8) {i : Nat} (h : i ≤ s.length) : sgn (s ++ 59 :: r) i = sgn s i := by
  unfold sgn
  by_cases h1 : i < s.length
  · rw [byt_app h1]
    have e : (i < (s ++ 59 :: r).length) = (i < s.length) := by rw [List.length_append]; simp only [List.length_cons]; apply propext; omega
    simp only [e]
  · obtain rfl : i = s.length := by omega
    rw [byt_at]
    simp [isSign]
theorem how_semi (s r : List UInt8) {i : Nat} (h : i ≤ s.length) : how (s ++ 59 :: r) i = how s i := by
  unfold how
  by_cases h1 : i < s.length
  · rw [byt_app h1]
    have e : (i < (s ++ 59 :: r).length) = (i < s.length) := by rw [List.length_append]; simp only [List.length_cons]; apply propext; omega
    simp only [e]
  · obtain rfl : i = s.length := by omega
    rw [byt_at]
    simp [isHow]
theorem mid_semi (s r : List UInt8) {i : Nat} (h : i ≤ s.length) : mid (s ++ 59 :: r) i = mid s i := by
  unfold mid
  by_cases h1 : i < s.length
  · rw [byt_app h1]
    have e : (i < (s ++ 59 :: r).length) = (i < s.length) := by rw [List.length_append]; simp only [List.length_cons]; apply propext; omega
    simp only [e]
  · obtain rfl : i = s.length := by omega
    rw [byt_at]
    simp
theorem leftGo_semi (s r : List UInt8) (k i : Nat) (l : List Atom) (h : i ≤ s.length) : leftGo (s ++ 59 :: r) k i l = leftGo s k i l := by
  induction k generalizing i l with
  | zero => rfl
  | succ k ih =>
    rw [leftGo, leftGo, sgn_semi s r h]
    split
    · rename_i hs
      have h1 := (sgn_true hs).1
      rw [how_semi s r (by omega), byt_app h1]
      split
      · rename_i hh
        have h2 := (how_true hh).1
        rw [byt_app h2, ih _ _ (by omega)]
      · rw [ih _ _ (by omega)]
    · rfl
theorem rightGo_semi (s r : List UInt8) (k i : Nat) (l : List Atom) (h : i ≤ s.length) : rightGo (s ++ 59 :: r) k i l = rightGo s k i l := by
  induction k generalizing i l with
  | zero => rfl
  | succ k ih =>
    rw [rightGo, rightGo, sgn_semi s r h]
    split
    · rename_i hs
      have h1 := (sgn_true hs).1
      rw [byt_app h1, ih _ _ (by omega)]
    · rfl
theorem lineAt_semi (s r : List UInt8) (i : Nat) (h : i ≤ s.length) : lineAt (s ++ 59 :: r) i = lineAt s i := by
  have hc : isClass (s ++ 59 :: r) i = isClass s i := by
    unfold isClass
    by_cases h1 : i + 1 < s.length
    · rw [byt_app h1, byt_app (show i < s.length by omega)]
      have e : (i + 1 < (s ++ 59 :: r).length) = (i + 1 < s.length) := by rw [List.length_append]; simp only [List.length_cons]; apply propext; omega
      simp only [e]
    · by_cases h2 : i + 1 = s.length
      · rw [h2, byt_at]
        simp
      · obtain rfl : i = s.length := by omega
        rw [byt_at]
        simp [isName]
        omega
  unfold lineAt
  rw [hc, more_semi s r h]
  split
  · rename_i hcl
    have h0 := (isClass_true hcl).1
    rw [classGo_semi s r (s.length + 1) _ (i + 2) [] (by omega) (by omega) (by rw [List.length_append]; omega), byt_app (show i < s.length by omega)]
  · split
    · have hl := leftGo_le s 4 i [] h
      have e : ruleAt (s ++ 59 :: r) i = ruleAt s i := by
        unfold ruleAt
        rw [leftGo_semi s r 4 i [] h, mid_semi s r hl.2]
        split
        · rename_i hm
          unfold mid at hm
          simp only [Bool.and_eq_true, decide_eq_true_eq] at hm
          rw [rightGo_semi s r 2 _ [] (by omega), byt_app hm.1]
        · rfl
      rw [e]
    · rfl
/-- Reading goes the same way, up to the file's end. -/
theorem readGo_semi (s r : List UInt8) (k i : Nat) (l : List Ln) (h : i ≤ s.length) :
    ((readGo s k i l).1 = false → (readGo (s ++ 59 :: r) k i l).1 = false) ∧
    ((readGo s k i l).1 = true → ∃ j, (readGo s k i l).2.2.length + j = l.length + k ∧ (j = 0 → (readGo (s ++ 59 :: r) k i l).1 = false) ∧ (j ≠ 0 → readGo (s ++ 59 :: r) k i l = readGo (s ++ 59 :: r) j (s.length + 1) (readGo s k i l).2.2)) := by
  induction k generalizing i l with
  | zero => exact ⟨fun _ => rfl, fun h => by simp [readGo] at h⟩
  | succ k ih =>
    have hle := lineAt_le s i h
    have hne : (lineAt s i).2.1 ≠ (s ++ 59 :: r).length := by rw [List.length_append]; simp only [List.length_cons]; omega
    rw [readGo, readGo, lineAt_semi s r i h]
    by_cases h1 : (lineAt s i).1 = false
    · rw [if_pos h1, if_pos h1]; exact ⟨fun _ => rfl, fun h => by simp at h⟩
    · rw [if_neg h1, if_neg h1, if_neg hne]
      by_cases h2 : (lineAt s i).2.1 = s.length
      · rw [if_pos h2]
        refine ⟨fun h => by simp at h, fun _ => ⟨k, by simp; omega, fun hk => ?_, fun hk => ?_⟩⟩
        · rw [if_pos (Or.inr hk)]
        · rw [h2, byt_at, if_neg (by simp [hk])]
      · rw [if_neg h2, byt_app (show (lineAt s i).2.1 < s.length by omega)]
        split
        · exact ⟨fun _ => rfl, fun h => by simp at h⟩
        · obtain ⟨i1, i2⟩ := ih ((lineAt s i).2.1 + 1) (l ++ [(lineAt s i).2.2]) (by omega)
          refine ⟨i1, fun ht => ?_⟩
          obtain ⟨j, j1, j2, j3⟩ := i2 ht
          exact ⟨j, by rw [j1]; simp; omega, j2, j3⟩
/-- The last line: a rule for all places. -/
theorem lineAt_op (s : List UInt8) (o : UInt8) (ho : o = 124 ∨ o = 33) : lineAt (s ++ [59, o]) (s.length + 1) = (true, s.length + 2, ⟨0, [], o.toNat, [], [], s.length + 1⟩) := by
  have hb : byt (s ++ [59, o]) (s.length + 1) = o.toNat := by
    unfold byt; rw [List.getD_eq_getElem?_getD, List.getElem?_append_right (by omega), show s.length + 1 - s.length = 1 by omega]; rfl
  have hlen : (s ++ [59, o]).length = s.length + 2 := by simp
  have hc : isClass (s ++ [59, o]) (s.length + 1) = false := by unfold isClass; rw [hlen]; simp
  have hm : more (s ++ [59, o]) (s.length + 1) = true := by unfold more; rw [hb, hlen]; rcases ho with rfl | rfl <;> simp
  have hs : sgn (s ++ [59, o]) (s.length + 1) = false := by unfold sgn; rw [hb]; rcases ho with rfl | rfl <;> simp [isSign]
  have hs2 : sgn (s ++ [59, o]) (s.length + 2) = false := by unfold sgn; rw [hlen]; simp
  have hd : mid (s ++ [59, o]) (s.length + 1) = true := by unfold mid; rw [hb, hlen]; rcases ho with rfl | rfl <;> simp
  have e1 := leftGo_stop (k := 4) (l := []) hs
  have e2 := rightGo_stop (k := 2) (l := []) hs2
  refine lineAt_rule hc hm ?_
  rw [ruleAt_yes (by rw [e1]; exact hd), e1]
  simp only
  rw [hb, e2]
theorem readGo_op (s : List UInt8) (o : UInt8) (ho : o = 124 ∨ o = 33) (j : Nat) (l : List Ln) (hj : j ≠ 0) : readGo (s ++ [59, o]) j (s.length + 1) l = (true, s.length + 2, l ++ [⟨0, [], o.toNat, [], [], s.length + 1⟩]) := by
  obtain ⟨k, rfl⟩ : ∃ k, j = k + 1 := ⟨j - 1, by omega⟩
  have h := lineAt_op s o ho
  rw [readGo_end (by rw [h]) (by rw [h]; simp), h]
theorem named_app {l r : List Ln} {n c : Nat} (h : n ≤ l.length) : named (l ++ r) n c = named l n c := by
  unfold named; rw [List.take_append_of_le_length h]
theorem unnamed_app {l r : List Ln} {n : Nat} (a : List Atom) (h : n ≤ l.length) : unnamed (l ++ r) n a = unnamed l n a := by
  unfold unnamed
  have e : (fun x : Atom => isName x.1 && !named (l ++ r) n x.1) = fun x => isName x.1 && !named l n x.1 := funext fun x => by rw [named_app h]
  rw [e]
theorem twice_app {l r : List Ln} {n k : Nat} (h : n < l.length) : twice (l ++ r) n k = twice l n k := by
  unfold twice ahead
  rw [List.take_append_of_le_length (by omega), List.getElem?_append_left h]
theorem itemsBad_app {l r : List Ln} {n : Nat} (h : n < l.length) (k : Nat) (its : List Item) : itemsBad (l ++ r) n k its = itemsBad l n k its := by
  induction its generalizing k with
  | nil => rfl
  | cons y its ih =>
    have e : itemBad (l ++ r) n k y = itemBad l n k y := by unfold itemBad; rw [twice_app h]
    rw [itemsBad, itemsBad, e, ih]
theorem wrong_app {l r : List Ln} {n : Nat} (h : n < l.length) (x : Ln) : wrong (l ++ r) n x = wrong l n x := by
  unfold wrong
  rw [named_app (by omega), itemsBad_app h, unnamed_app _ (by omega), unnamed_app _ (by omega)]
theorem wrong_op (l : List Ln) (n o p : Nat) : wrong l n ⟨0, [], o, [], [], p⟩ = (0, 0) := by
  unfold wrong; simp [itemsBad, unnamed]
theorem wrongs_app (l : List Ln) (o p : Nat) (m n : Nat) (h : n + m = l.length) : (wrongs (l ++ [⟨0, [], o, [], [], p⟩]) n (l.drop n ++ [⟨0, [], o, [], [], p⟩])) = wrongs l n (l.drop n) := by
  induction m generalizing n with
  | zero =>
    have e : l.drop n = [] := List.drop_of_length_le (by omega)
    rw [e]
    simp [wrongs, wrong_op]
  | succ m ih =>
    have hn : n < l.length := by omega
    rw [← List.getElem_cons_drop hn, List.cons_append, wrongs, wrongs, wrong_app hn, ih (n + 1) (by omega)]
/-- What Check says of a file with one more line. -/
def LastOk (s : List UInt8) : Prop := s.length + 2 ≤ 200 ∧ (check s).1 = 0 ∧ (readGo s 12 0 []).2.2.length < 12
theorem check_op (s : List UInt8) (o : UInt8) (ho : o = 124 ∨ o = 33) :
    ((check (s ++ [59, o])).1 = 0 ↔ LastOk s) ∧ (LastOk s → (readGo (s ++ [59, o]) 12 0 []).2.2 = (readGo s 12 0 []).2.2 ++ [⟨0, [], o.toNat, [], [], s.length + 1⟩]) := by
  obtain ⟨h1, h2⟩ := readGo_semi s [o] 12 0 [] (by omega)
  have hlen : (s ++ [59, o]).length = s.length + 2 := by simp
  unfold LastOk check
  rw [hlen]
  by_cases hb : 200 < s.length + 2
  · rw [if_pos hb]
    exact ⟨⟨fun h => by simp at h, fun h => by omega⟩, fun h => by omega⟩
  · rw [if_neg hb, if_neg (show ¬ 200 < s.length by omega)]
    cases hr : (readGo s 12 0 []).1 with
    | false =>
      rw [if_pos (h1 hr)]
      simp
    | true =>
      obtain ⟨j, j1, j2, j3⟩ := h2 hr
      by_cases hj : j = 0
      · rw [if_pos (j2 hj)]
        simp only [List.length_nil] at j1
        exact ⟨⟨fun h => by simp at h, fun h => by omega⟩, fun h => by omega⟩
      · have e := (j3 hj).trans (readGo_op s o ho j _ hj)
        rw [e]
        simp only [Bool.true_eq_false, if_false]
        have ew := wrongs_app (readGo s 12 0 []).2.2 o.toNat (s.length + 1) _ 0 (Nat.zero_add _)
        rw [List.drop_zero] at ew
        rw [ew]
        simp only [List.length_nil] at j1
        exact ⟨⟨fun h => ⟨by omega, h, by omega⟩, fun h => h.2.1⟩, fun _ => trivial⟩
/-- The classes stay. -/
theorem classOf_op (l : List Ln) (o p : Nat) (c : Int) : classOf (l ++ [⟨0, [], o, [], [], p⟩]) c = classOf l c := by
  unfold classOf
  rw [List.find?_append]
  cases h : l.find? (hitLn c) with
  | none => simp [hitLn]
  | some x => rfl
theorem clsAt_op (l : List Ln) (o p : Nat) (cs : List Chr) : clsAt (l ++ [⟨0, [], o, [], [], p⟩]) cs = clsAt l cs := by
  unfold clsAt
  have e : (fun x : Chr => UInt8.ofNat (classOf (l ++ [⟨0, [], o, [], [], p⟩]) x.2.2)) = fun x => UInt8.ofNat (classOf l x.2.2) := funext fun x => by rw [classOf_op]
  rw [e]
theorem partedP_bar (l : List Ln) (p : Nat) (a b : List UInt8) : partedP (l ++ [⟨0, [], 124, [], [], p⟩]) a b = partedP l a b := by
  induction l with
  | nil => simp [partedP]
  | cons x l ih => rw [List.cons_append, partedP, partedP, ih]
theorem partedP_glue (l : List Ln) (p : Nat) (a b : List UInt8) (h : partedP (l ++ [⟨0, [], 33, [], [], p⟩]) a b = true) : partedP l a b = true := by
  induction l with
  | nil => rfl
  | cons x l ih =>
    rw [List.cons_append, partedP] at h
    rw [partedP]
    split
    · rename_i hc
      rw [if_pos hc] at h; exact h
    · rename_i hc
      rw [if_neg hc] at h; exact ih h
theorem cutAt_bar (l : List Ln) (p : Nat) (cs : List Chr) (i : Nat) : cutAt (l ++ [⟨0, [], 124, [], [], p⟩]) cs i = cutAt l cs i := by
  unfold cutAt; rw [clsAt_op, partedP_bar]
theorem cutsTo_bar (l : List Ln) (p : Nat) (cs : List Chr) (n : Nat) : cutsTo (l ++ [⟨0, [], 124, [], [], p⟩]) cs n = cutsTo l cs n := by
  induction n with
  | zero => rfl
  | succ n ih => rw [cutsTo, cutsTo, ih, cutAt_bar]
theorem cutsR_lastBar (l : List Ln) (p : Nat) (t : List UInt8) : cutsR (l ++ [⟨0, [], 124, [], [], p⟩]) t = cutsR l t := by
  unfold cutsR; rw [cutsTo_bar]
theorem cutsR_lastNo (l : List Ln) (p : Nat) (t : List UInt8) : ∀ q ∈ cutsR (l ++ [⟨0, [], 33, [], [], p⟩]) t, q ∈ cutsR l t := by
  intro q hq
  unfold cutsR at hq ⊢
  rcases List.mem_append.1 hq with h | h
  · obtain ⟨i, h1, h2, h3⟩ := mem_cutsTo.1 h
    refine List.mem_append.2 (Or.inl (mem_cutsTo.2 ⟨i, h1, ?_, h3⟩))
    unfold cutAt at h2 ⊢
    rw [clsAt_op] at h2
    rw [Bool.or_eq_true] at h2 ⊢
    exact h2.imp id (partedP_glue l p _ _)
  · exact List.mem_append.2 (Or.inr h)
theorem cutsR_empty (l : List Ln) (t : List UInt8) : (cutsR l t).length = 0 ↔ t.length = 0 := by
  by_cases ht : 0 < t.length
  · have := (framed l ht).two; omega
  · obtain rfl : t = [] := List.length_eq_zero_iff.1 (by omega)
    simp [cutsR, cutsTo, chars_nil]
/-- A text and what comes behind it: far enough from the end the characters are the same. -/
theorem wk_far (s u : List UInt8) (i n f lo hi k : Nat) (hn : n ≤ 4) (h : i + 4 ≤ s.length) : wk (s ++ u) i n f lo hi k = wk s i n f lo hi k := by
  induction f generalizing lo hi k with
  | zero => rfl
  | succ f ih =>
    by_cases hk : k < n
    · rw [wk, wk, byt_app (show i + k < s.length by omega), ih]
      have e : (i + k < (s ++ u).length) = (i + k < s.length) := by rw [List.length_append]; apply propext; omega
      simp only [e]
    · rw [wk_stop (by omega), wk_stop (by omega)]
theorem well_far (s u : List UInt8) (i : Nat) (h : i + 4 ≤ s.length) : well (s ++ u) i = well s i := by
  unfold well
  rw [byt_app (show i < s.length by omega), wk_far _ _ _ _ _ _ _ _ (needs_le _).1 h]
theorem chN_far (s u : List UInt8) (i : Nat) (h : i + 4 ≤ s.length) : chN (s ++ u) i = chN s i := by
  unfold chN bad; rw [well_far s u i h]
theorem chCode_far (s u : List UInt8) (i : Nat) (h : i + 4 ≤ s.length) : chCode (s ++ u) i = chCode s i := by
  unfold chCode bad
  rw [well_far s u i h, code_app (show i < s.length by omega) (by have := (well_le s i).1; omega)]
theorem charsGo_far (s u : List UInt8) (f g i n : Nat) (hf : s.length ≤ i + f) (hg : (s ++ u).length ≤ i + g) : ∀ x : Chr, x.1 + 4 ≤ s.length → ((charsGo s f i)[n]? = some x ↔ (charsGo (s ++ u) g i)[n]? = some x) := by
  induction n generalizing f g i with
  | zero =>
    intro x hx
    rw [List.length_append] at hg
    constructor
    · intro h
      obtain ⟨h1, h2, _⟩ := charsGo_at h
      have e : x = (i, chN s i, chCode s i) := by
        obtain ⟨f, rfl⟩ : ∃ m, f = m + 1 := ⟨f - 1, by omega⟩
        rw [charsGo_step (by omega)] at h
        simpa [eq_comm] using h
      obtain ⟨g, rfl⟩ : ∃ m, g = m + 1 := ⟨g - 1, by omega⟩
      rw [e] at hx
      rw [charsGo_step (by rw [List.length_append]; omega), chN_far _ _ _ hx, chCode_far _ _ _ hx, e]
      rfl
    · intro h
      obtain ⟨h1, h2, _⟩ := charsGo_at h
      obtain ⟨g, rfl⟩ : ∃ m, g = m + 1 := ⟨g - 1, by omega⟩
      have e : x = (i, chN (s ++ u) i, chCode (s ++ u) i) := by
        rw [charsGo_step (by rw [List.length_append]; omega)] at h
        simpa [eq_comm] using h
      rw [e] at hx
      obtain ⟨f, rfl⟩ : ∃ m, f = m + 1 := ⟨f - 1, by omega⟩
      rw [charsGo_step (by omega), ← chN_far _ u _ hx, ← chCode_far _ u _ hx, e]
      rfl
  | succ n ih =>
    intro x hx
    rw [List.length_append] at hg
    constructor
    · intro h
      obtain ⟨h1, h2, _⟩ := charsGo_at h
      obtain ⟨f, rfl⟩ : ∃ m, f = m + 1 := ⟨f - 1, by omega⟩
      obtain ⟨g, rfl⟩ : ∃ m, g = m + 1 := ⟨g - 1, by omega⟩
      rw [charsGo_step (by omega), List.getElem?_cons_succ] at h
      have hp := (chN_pos s i).1
      obtain ⟨h3, h4, _⟩ := charsGo_at h
      rw [charsGo_step (by rw [List.length_append]; omega), List.getElem?_cons_succ, chN_far _ _ _ (by omega)]
      exact (ih f g (i + chN s i) (by omega) (by rw [List.length_append]; omega) x hx).1 h
    · intro h
      obtain ⟨h1, h2, _⟩ := charsGo_at h
      obtain ⟨f, rfl⟩ : ∃ m, f = m + 1 := ⟨f - 1, by omega⟩
      obtain ⟨g, rfl⟩ : ∃ m, g = m + 1 := ⟨g - 1, by omega⟩
      rw [charsGo_step (by rw [List.length_append]; omega), List.getElem?_cons_succ, chN_far _ _ _ (by omega)] at h
      have hp := (chN_pos s i).1
      rw [charsGo_step (by omega), List.getElem?_cons_succ]
      exact (ih f g (i + chN s i) (by omega) (by rw [List.length_append]; omega) x hx).2 h
theorem chars_far (s u : List UInt8) (n : Nat) (x : Chr) (hx : x.1 + 4 ≤ s.length) : (chars s)[n]? = some x ↔ (chars (s ++ u))[n]? = some x :=
  charsGo_far s u _ _ 0 n (by omega) (by omega) x hx
/-- The characters up to one that is far enough from the end. -/
theorem chars_take (s u : List UInt8) (n : Nat) (x : Chr) (hx : x.1 + 4 ≤ s.length) (h : (chars s)[n]? = some x) : (chars (s ++ u)).take n = (chars s).take n := by
  apply List.ext_getElem?
  intro i
  by_cases hi : i < n
  · rw [List.getElem?_take_of_lt hi, List.getElem?_take_of_lt hi]
    have hl := (List.getElem?_eq_some_iff.1 h).1
    have e : (chars s)[i]? = some (chars s)[i] := List.getElem?_eq_getElem (by omega)
    have hr := chars_rise e h hi
    rw [e]
    exact (chars_far s u i _ (by omega)).1 e
  · rw [List.getElem?_eq_none (by rw [List.length_take]; omega), List.getElem?_eq_none (by rw [List.length_take]; omega)]
theorem chars_next {s : List UInt8} {n : Nat} {x : Chr} (h : (chars s)[n]? = some x) (hx : x.1 + 4 < s.length) : ∃ y, (chars s)[n + 1]? = some y ∧ y.1 ≤ x.1 + 4 := by
  unfold chars at h ⊢
  obtain ⟨h1, h2, h3, _, m, h5, h6⟩ := charsGo_at h
  have hp := chN_pos s x.1
  have e : (charsGo s s.length 0)[n + 1]? = (charsGo s m x.1)[1]? := by rw [← h6, List.getElem?_drop]
  obtain ⟨m, rfl⟩ : ∃ k, m = k + 1 := ⟨m - 1, by omega⟩
  rw [e, charsGo_step h1, List.getElem?_cons_succ]
  obtain ⟨m, rfl⟩ : ∃ k, m = k + 1 := ⟨m - 1, by omega⟩
  rw [charsGo_step (by omega)]
  exact ⟨_, rfl, by show x.1 + chN s x.1 ≤ _; omega⟩
theorem behindP_two {l : List Atom} (hl : l.length ≤ 2) (a b : UInt8) (s r : List UInt8) : behindP l (a :: b :: s) = behindP l (a :: b :: r) := by
  match l, hl with
  | [], _ => rfl
  | [x], _ => rfl
  | [x, y], _ => rfl
theorem partedP_two {l : List Ln} (hl : ∀ x ∈ l, x.right.length ≤ 2) (c : List UInt8) (a b : UInt8) (s r : List UInt8) : partedP l c (a :: b :: s) = partedP l c (a :: b :: r) := by
  induction l with
  | nil => rfl
  | cons x l ih => rw [partedP, partedP, behindP_two (hl x (by simp)) a b s r, ih fun y hy => hl y (by simp [hy])]
theorem drop_two {α : Type} {l : List α} {n : Nat} {x y : α} (hx : l[n]? = some x) (hy : l[n + 1]? = some y) : l.drop n = x :: y :: l.drop (n + 2) := by
  obtain ⟨h1, rfl⟩ := List.getElem?_eq_some_iff.1 hx
  obtain ⟨h2, rfl⟩ := List.getElem?_eq_some_iff.1 hy
  rw [List.getElem_cons_drop h2, List.getElem_cons_drop h1]
theorem cutAt_far {l : List Ln} (hl : ∀ x ∈ l, x.right.length ≤ 2) (s u : List UInt8) (n : Nat) (x : Chr) (hx : x.1 + 12 ≤ s.length) (h : (chars s)[n]? = some x) : cutAt l (chars (s ++ u)) n = cutAt l (chars s) n := by
  obtain ⟨y, hy, hy1⟩ := chars_next h (by omega)
  have h2 := (chars_far s u n x (by omega)).1 h
  have hy2 := (chars_far s u (n + 1) y (by omega)).1 hy
  have ht := chars_take s u n x (by omega) h
  unfold cutAt clsAt
  rw [← List.map_take, ht, List.map_take, ← List.map_drop, ← List.map_drop, drop_two h hy, drop_two h2 hy2]
  simp only [List.map_cons]
  rw [partedP_two hl]
theorem rightGo_two (s : List UInt8) (i : Nat) : (rightGo s 2 i []).2.length ≤ 2 := by
  have := rightGo_len s 2 i []
  simpa using this
theorem lineAt_right (s : List UInt8) (i : Nat) : (lineAt s i).2.2.right.length ≤ 2 := by
  unfold lineAt
  split
  · simp
  · split
    · unfold ruleAt
      split
      · exact rightGo_two _ _
      · simp
    · simp
theorem readGo_right (s : List UInt8) (k i : Nat) (l : List Ln) (h : ∀ x ∈ l, x.right.length ≤ 2) : ∀ x ∈ (readGo s k i l).2.2, x.right.length ≤ 2 := by
  induction k generalizing i l with
  | zero => exact h
  | succ k ih =>
    have h2 : ∀ x ∈ l ++ [(lineAt s i).2.2], x.right.length ≤ 2 := by
      intro x hx
      rcases List.mem_append.1 hx with h1 | h1
      · exact h x h1
      · simp only [List.mem_singleton] at h1; subst h1; exact lineAt_right s i
    rw [readGo]
    split
    · simp
    · split
      · exact h2
      · split
        · simp
        · exact ih _ _ h2
/-- Whether there is a cut: far enough from the end what comes behind is not seen. -/
theorem early {l : List Ln} (hl : ∀ x ∈ l, x.right.length ≤ 2) (s u : List UInt8) (p : Nat) (hp : p + 12 ≤ s.length) : p ∈ cutsR l (s ++ u) ↔ p ∈ cutsR l s := by
  have key : ∀ t : List UInt8, p + 12 ≤ t.length → (p ∈ cutsR l t ↔ ∃ n x, (chars t)[n]? = some x ∧ x.1 = p ∧ cutAt l (chars t) n = true) := by
    intro t ht
    constructor
    · intro h
      unfold cutsR at h
      rcases List.mem_append.1 h with h | h
      · obtain ⟨i, h1, h2, h3⟩ := mem_cutsTo.1 h
        rw [List.getD_eq_getElem?_getD, List.getElem?_eq_getElem h1] at h3
        exact ⟨i, _, List.getElem?_eq_getElem h1, h3.symm, h2⟩
      · split at h
        · simp at h; omega
        · simp at h
    · rintro ⟨n, x, h1, rfl, h2⟩
      exact (mem_cutsR h1).2 h2
  rw [key s hp, key (s ++ u) (by rw [List.length_append]; omega)]
  constructor
  · rintro ⟨n, x, h1, rfl, h2⟩
    have h3 := (chars_far s u n x (by omega)).2 h1
    exact ⟨n, x, h3, rfl, by rw [← cutAt_far hl s u n x hp h3]; exact h2⟩
  · rintro ⟨n, x, h1, rfl, h2⟩
    exact ⟨n, x, (chars_far s u n x (by omega)).1 h1, rfl, by rw [cutAt_far hl s u n x hp h1]; exact h2⟩
theorem cutsR_pair (l : List Ln) (t : List UInt8) : (cutsR l t).Pairwise (· < ·) := by
  unfold cutsR
  rw [List.pairwise_append]
  refine ⟨cutsTo_rise (Nat.le_refl _), ?_, ?_⟩
  · split
    · exact List.pairwise_singleton _ _
    · exact List.Pairwise.nil
  · intro x hx y hy
    split at hy
    · simp at hy
      subst hy
      obtain ⟨i, h1, _, rfl⟩ := mem_cutsTo.1 hx
      have hc : (chars t)[i]? = some (chars t)[i] := by simp [h1]
      have := (chars_at hc).1
      rw [List.getD_eq_getElem?_getD, hc]
      exact this
    · simp at hy
end Cu
end Go.Proofs.YtbppbejigedioabGreatDoor
