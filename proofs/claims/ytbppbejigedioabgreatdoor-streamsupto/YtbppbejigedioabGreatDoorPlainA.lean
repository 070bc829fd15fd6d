/- The document's characters and lines as plain functions on bytes. No program text is imported here. -/
namespace Go.Proofs.YtbppbejigedioabGreatDoor
namespace Cu

/-- The byte at a place, as a number; 0 behind the end. -/
def byt (s : List UInt8) (i : Nat) : Nat := (s.getD i 0).toNat

/-- How many bytes a well-formed encoding that begins with c has, and the bounds of its second byte. -/
def needs (c : Nat) : Nat × Nat × Nat :=
  if c < 0x80 then (1, 0, 0)
  else if 0xc2 ≤ c ∧ c ≤ 0xdf then (2, 0x80, 0xbf)
  else if c = 0xe0 then (3, 0xa0, 0xbf)
  else if c = 0xed then (3, 0x80, 0x9f)
  else if 0xe1 ≤ c ∧ c ≤ 0xef then (3, 0x80, 0xbf)
  else if c = 0xf0 then (4, 0x90, 0xbf)
  else if 0xf1 ≤ c ∧ c ≤ 0xf3 then (4, 0x80, 0xbf)
  else if c = 0xf4 then (4, 0x80, 0x8f)
  else (0, 0, 0)

theorem needs_a {c : Nat} (h : c < 0x80) : needs c = (1, 0, 0) := by unfold needs; rw [if_pos h]
theorem needs_b {c : Nat} (h : 0xc2 ≤ c ∧ c ≤ 0xdf) : needs c = (2, 0x80, 0xbf) := by unfold needs; rw [if_neg (show ¬ c < 0x80 by omega), if_pos h]
theorem needs_c {c : Nat} (h : c = 0xe0) : needs c = (3, 0xa0, 0xbf) := by subst h; rfl
theorem needs_d {c : Nat} (h : c = 0xed) : needs c = (3, 0x80, 0x9f) := by subst h; rfl
theorem needs_e {c : Nat} (h : 0xe1 ≤ c ∧ c ≤ 0xef ∧ c ≠ 0xed) : needs c = (3, 0x80, 0xbf) := by
  unfold needs; rw [if_neg (show ¬ c < 0x80 by omega), if_neg (show ¬ (0xc2 ≤ c ∧ c ≤ 0xdf) by omega), if_neg (show ¬ c = 0xe0 by omega), if_neg h.2.2, if_pos ⟨h.1, h.2.1⟩]
theorem needs_f {c : Nat} (h : c = 0xf0) : needs c = (4, 0x90, 0xbf) := by subst h; rfl
theorem needs_g {c : Nat} (h : 0xf1 ≤ c ∧ c ≤ 0xf3) : needs c = (4, 0x80, 0xbf) := by
  unfold needs; rw [if_neg (show ¬ c < 0x80 by omega), if_neg (show ¬ (0xc2 ≤ c ∧ c ≤ 0xdf) by omega), if_neg (show ¬ c = 0xe0 by omega), if_neg (show ¬ c = 0xed by omega), if_neg (show ¬ (0xe1 ≤ c ∧ c ≤ 0xef) by omega), if_neg (show ¬ c = 0xf0 by omega), if_pos h]
theorem needs_h {c : Nat} (h : c = 0xf4) : needs c = (4, 0x80, 0x8f) := by subst h; rfl
theorem needs_i {c : Nat} (h : (0x80 ≤ c ∧ c < 0xc2) ∨ 0xf5 ≤ c) : needs c = (0, 0, 0) := by
  unfold needs; rw [if_neg (show ¬ c < 0x80 by omega), if_neg (show ¬ (0xc2 ≤ c ∧ c ≤ 0xdf) by omega), if_neg (show ¬ c = 0xe0 by omega), if_neg (show ¬ c = 0xed by omega), if_neg (show ¬ (0xe1 ≤ c ∧ c ≤ 0xef) by omega), if_neg (show ¬ c = 0xf0 by omega), if_neg (show ¬ (0xf1 ≤ c ∧ c ≤ 0xf3) by omega), if_neg (show ¬ c = 0xf4 by omega)]
theorem needs_le (c : Nat) : (needs c).1 ≤ 4 ∧ (needs c).2.1 ≤ 255 ∧ (needs c).2.2 ≤ 255 := by
  unfold needs; repeat' split
  all_goals decide

/-- Of the bytes behind the first one: how many more go on a well-formed encoding of n bytes. -/
def wk (s : List UInt8) (i n : Nat) : Nat → Nat → Nat → Nat → Nat
  | 0, _, _, k => k
  | f + 1, lo, hi, k => if k < n ∧ i + k < s.length ∧ lo ≤ byt s (i + k) ∧ byt s (i + k) ≤ hi then wk s i n f 0x80 0xbf (k + 1) else k
theorem wk_stop {s : List UInt8} {i n f lo hi k : Nat} (h : ¬ (k < n ∧ i + k < s.length ∧ lo ≤ byt s (i + k) ∧ byt s (i + k) ≤ hi)) : wk s i n f lo hi k = k := by
  cases f with
  | zero => rfl
  | succ f => unfold wk; rw [if_neg h]
theorem wk_go {s : List UInt8} {i n f lo hi k : Nat} (h : k < n ∧ i + k < s.length ∧ lo ≤ byt s (i + k) ∧ byt s (i + k) ≤ hi) : wk s i n (f + 1) lo hi k = wk s i n f 0x80 0xbf (k + 1) := by
  rw [wk, if_pos h]
theorem wk_le (s : List UInt8) (i n f lo hi k : Nat) (h : k ≤ n) : k ≤ wk s i n f lo hi k ∧ wk s i n f lo hi k ≤ n := by
  induction f generalizing lo hi k with
  | zero => exact ⟨Nat.le_refl _, h⟩
  | succ f ih =>
    unfold wk; split
    · have := ih 0x80 0xbf (k + 1) (by omega); omega
    · omega
def well (s : List UInt8) (i : Nat) : Nat × Nat :=
  if (needs (byt s i)).1 = 0 then (0, 0) else (wk s i (needs (byt s i)).1 4 (needs (byt s i)).2.1 (needs (byt s i)).2.2 1, (needs (byt s i)).1)

/-- The code point of n bytes: what the bytes up to the k-th give. -/
def codeTo (s : List UInt8) (i n : Nat) : Nat → Nat
  | 0 => byt s i % 2 ^ (7 - n)
  | k + 1 => 64 * codeTo s i n k + byt s (i + (k + 1)) % 64
def code (s : List UInt8) (i n : Nat) : Nat := if n = 1 then byt s i else codeTo s i n (n - 1)
theorem codeTo_lt (s : List UInt8) (i n k : Nat) (h : 2 ≤ n) : codeTo s i n k < 64 ^ (k + 1) := by
  induction k with
  | zero =>
    have h1 : 2 ^ (7 - n) ≤ 2 ^ 5 := Nat.pow_le_pow_right (by omega) (by omega)
    have h2 : byt s i % 2 ^ (7 - n) < 2 ^ (7 - n) := Nat.mod_lt _ (Nat.pow_pos (by omega))
    simp only [codeTo]; omega
  | succ k ih =>
    have h2 : byt s (i + (k + 1)) % 64 < 64 := Nat.mod_lt _ (by omega)
    simp only [codeTo]; rw [Nat.pow_succ]; omega

def isName (c : Nat) : Bool := decide (65 ≤ c ∧ c ≤ 90)
def isSign (c : Nat) : Bool := decide ((65 ≤ c ∧ c ≤ 90) ∨ c = 95 ∨ c = 46)
def isHow (c : Nat) : Bool := decide (c = 42 ∨ c = 43 ∨ c = 63)
def barred (c : Nat) : Bool := decide (c = 59 ∨ c = 61 ∨ c = 45 ∨ c = 33 ∨ c = 124)

/-- The character of an item: is there one, and where it ends (or where the text can't go on). -/
def itemOk (s : List UInt8) (i : Nat) : Bool := decide (i < s.length) && !barred (byt s i) && decide ((well s i).2 ≠ 0) && decide ((well s i).2 ≤ (well s i).1)
def itemEnd (s : List UInt8) (i : Nat) : Nat := if i < s.length ∧ barred (byt s i) = false then i + (well s i).1 else i
def itemN (s : List UInt8) (i : Nat) : Nat := if itemOk s i then (well s i).2 else 0
def itemCode (s : List UInt8) (i : Nat) : Nat := if itemOk s i then code s i (well s i).2 else 0
def itemAt (s : List UInt8) (i : Nat) : Nat := if itemOk s i then i else 0

theorem well_le (s : List UInt8) (i : Nat) : (well s i).2 ≤ 4 ∧ (well s i).1 ≤ (well s i).2 := by
  unfold well
  split
  · simp
  · have h := needs_le (byt s i)
    have h2 := wk_le s i (needs (byt s i)).1 4 (needs (byt s i)).2.1 (needs (byt s i)).2.2 1 (by omega)
    exact ⟨h.1, h2.2⟩
theorem wk_in (s : List UInt8) (i n f lo hi k : Nat) (h : i + k ≤ s.length) : i + wk s i n f lo hi k ≤ s.length := by
  induction f generalizing lo hi k with
  | zero => exact h
  | succ f ih =>
    unfold wk; split
    · rename_i hc; exact ih 0x80 0xbf (k + 1) (by omega)
    · exact h
theorem well_in (s : List UInt8) (i : Nat) (h : i < s.length) : i + (well s i).1 ≤ s.length := by
  unfold well
  split
  · simp; omega
  · exact wk_in s i _ 4 _ _ 1 (by omega)
theorem itemEnd_le (s : List UInt8) (i : Nat) (h : i ≤ s.length) : i ≤ itemEnd s i ∧ itemEnd s i ≤ s.length := by
  unfold itemEnd
  split
  · rename_i hc; have := well_in s i hc.1; omega
  · omega
theorem itemOk_lt {s : List UInt8} {i : Nat} (h : itemOk s i = true) : i < itemEnd s i := by
  unfold itemOk at h
  simp only [Bool.and_eq_true, decide_eq_true_eq, Bool.not_eq_true'] at h
  obtain ⟨⟨⟨h1, h2⟩, h3⟩, h4⟩ := h
  unfold itemEnd
  rw [if_pos ⟨h1, h2⟩]
  have := well_le s i; omega
theorem code_lt (s : List UInt8) (i n : Nat) (h : n ≤ 4) : code s i n < 16777216 := by
  unfold code
  split
  · unfold byt; have := UInt8.toNat_lt (s.getD i 0); omega
  · by_cases h2 : 2 ≤ n
    · have h1 := codeTo_lt s i n (n - 1) h2
      have h3 : 64 ^ (n - 1 + 1) ≤ 64 ^ 4 := Nat.pow_le_pow_right (by omega) (by omega)
      omega
    · have h0 : n = 0 := by omega
      subst h0
      have : byt s i % 2 ^ 7 < 2 ^ 7 := Nat.mod_lt _ (by decide)
      show byt s i % 2 ^ 7 < 16777216
      omega

end Cu
end Go.Proofs.YtbppbejigedioabGreatDoor
/- The reference's class, as a plain function. -/
namespace Go.Proofs.YtbppbejigedioabGreatDoor
namespace Cu

/-- An item: from, to, at. -/
abbrev Item := Nat × Nat × Nat
/-- Does the text of a class go on at i? -/
def more (s : List UInt8) (i : Nat) : Bool := decide (i < s.length) && !(byt s i == 59)
def dash (s : List UInt8) (j : Nat) : Bool := decide (j < s.length) && (byt s j == 45)

/-- The items of a class from i on: is all of it well, where it ends (or can't go on), and the items. -/
def classGo (s : List UInt8) : Nat → Nat → List Item → Bool × Nat × List Item
  | 0, i, l => (true, i, l)
  | f + 1, i, l =>
    if l ≠ [] ∧ more s i = false then (true, i, l)
    else if itemOk s i = false then (false, itemEnd s i, l)
    else if dash s (itemEnd s i) = true then
      (if itemOk s (itemEnd s i + 1) = false then (false, itemEnd s (itemEnd s i + 1), l)
       else classGo s f (itemEnd s (itemEnd s i + 1)) (l ++ [(itemCode s i, itemCode s (itemEnd s i + 1), i)]))
    else classGo s f (itemEnd s i) (l ++ [(itemCode s i, itemCode s i, i)])

theorem classGo_done {s : List UInt8} {f i : Nat} {l : List Item} (h : l ≠ [] ∧ more s i = false) : classGo s (f + 1) i l = (true, i, l) := by
  rw [classGo, if_pos h]
theorem classGo_bad {s : List UInt8} {f i : Nat} {l : List Item} (h : ¬ (l ≠ [] ∧ more s i = false)) (h1 : itemOk s i = false) : classGo s (f + 1) i l = (false, itemEnd s i, l) := by
  rw [classGo, if_neg h, if_pos h1]
theorem classGo_bad2 {s : List UInt8} {f i : Nat} {l : List Item} (h : ¬ (l ≠ [] ∧ more s i = false)) (h1 : itemOk s i = true) (h2 : dash s (itemEnd s i) = true) (h3 : itemOk s (itemEnd s i + 1) = false) :
    classGo s (f + 1) i l = (false, itemEnd s (itemEnd s i + 1), l) := by
  rw [classGo, if_neg h, if_neg (by rw [h1]; decide), if_pos h2, if_pos h3]
theorem classGo_two {s : List UInt8} {f i : Nat} {l : List Item} (h : ¬ (l ≠ [] ∧ more s i = false)) (h1 : itemOk s i = true) (h2 : dash s (itemEnd s i) = true) (h3 : itemOk s (itemEnd s i + 1) = true) :
    classGo s (f + 1) i l = classGo s f (itemEnd s (itemEnd s i + 1)) (l ++ [(itemCode s i, itemCode s (itemEnd s i + 1), i)]) := by
  rw [classGo, if_neg h, if_neg (by rw [h1]; decide), if_pos h2, if_neg (by rw [h3]; decide)]
theorem classGo_one {s : List UInt8} {f i : Nat} {l : List Item} (h : ¬ (l ≠ [] ∧ more s i = false)) (h1 : itemOk s i = true) (h2 : dash s (itemEnd s i) = false) :
    classGo s (f + 1) i l = classGo s f (itemEnd s i) (l ++ [(itemCode s i, itemCode s i, i)]) := by
  rw [classGo, if_neg h, if_neg (by rw [h1]; decide), if_neg (by rw [h2]; decide)]

end Cu
end Go.Proofs.YtbppbejigedioabGreatDoor
/- The reference's rule, as plain functions. -/
namespace Go.Proofs.YtbppbejigedioabGreatDoor
namespace Cu

/-- An atom: its sign, what stands behind it, at. -/
abbrev Atom := Nat × Nat × Nat
def sgn (s : List UInt8) (i : Nat) : Bool := decide (i < s.length) && isSign (byt s i)
def how (s : List UInt8) (i : Nat) : Bool := decide (i < s.length) && isHow (byt s i)
def mid (s : List UInt8) (i : Nat) : Bool := decide (i < s.length) && (byt s i == 33 || byt s i == 124)

def leftGo (s : List UInt8) : Nat → Nat → List Atom → Nat × List Atom
  | 0, i, l => (i, l)
  | k + 1, i, l =>
    if sgn s i = true then
      (if how s (i + 1) = true then leftGo s k (i + 2) (l ++ [(byt s i, byt s (i + 1), i)]) else leftGo s k (i + 1) (l ++ [(byt s i, 32, i)]))
    else (i, l)
def rightGo (s : List UInt8) : Nat → Nat → List Atom → Nat × List Atom
  | 0, i, l => (i, l)
  | k + 1, i, l => if sgn s i = true then rightGo s k (i + 1) (l ++ [(byt s i, 32, i)]) else (i, l)

theorem leftGo_stop {s : List UInt8} {k i : Nat} {l : List Atom} (h : sgn s i = false) : leftGo s k i l = (i, l) := by
  cases k with
  | zero => rfl
  | succ k => rw [leftGo, if_neg (by rw [h]; decide)]
theorem leftGo_how {s : List UInt8} {k i : Nat} {l : List Atom} (h : sgn s i = true) (h2 : how s (i + 1) = true) : leftGo s (k + 1) i l = leftGo s k (i + 2) (l ++ [(byt s i, byt s (i + 1), i)]) := by
  rw [leftGo, if_pos h, if_pos h2]
theorem leftGo_bare {s : List UInt8} {k i : Nat} {l : List Atom} (h : sgn s i = true) (h2 : how s (i + 1) = false) : leftGo s (k + 1) i l = leftGo s k (i + 1) (l ++ [(byt s i, 32, i)]) := by
  rw [leftGo, if_pos h, if_neg (by rw [h2]; decide)]
theorem rightGo_stop {s : List UInt8} {k i : Nat} {l : List Atom} (h : sgn s i = false) : rightGo s k i l = (i, l) := by
  cases k with
  | zero => rfl
  | succ k => rw [rightGo, if_neg (by rw [h]; decide)]
theorem rightGo_go {s : List UInt8} {k i : Nat} {l : List Atom} (h : sgn s i = true) : rightGo s (k + 1) i l = rightGo s k (i + 1) (l ++ [(byt s i, 32, i)]) := by
  rw [rightGo, if_pos h]
theorem sgn_true {s : List UInt8} {i : Nat} (h : sgn s i = true) : i < s.length ∧ isSign (byt s i) = true := by
  unfold sgn at h; simpa using h
theorem sgn_false {s : List UInt8} {i : Nat} (h : sgn s i = false) : ¬ i < s.length ∨ (i < s.length ∧ isSign (byt s i) = false) := by
  unfold sgn at h
  rw [Bool.and_eq_false_iff] at h
  by_cases h2 : i < s.length
  · right; refine ⟨h2, ?_⟩; simpa [h2] using h
  · left; exact h2
theorem how_true {s : List UInt8} {i : Nat} (h : how s i = true) : i < s.length ∧ isHow (byt s i) = true := by
  unfold how at h; simpa using h
theorem how_false {s : List UInt8} {i : Nat} (h : how s i = false) : ¬ i < s.length ∨ (i < s.length ∧ isHow (byt s i) = false) := by
  unfold how at h
  rw [Bool.and_eq_false_iff] at h
  by_cases h2 : i < s.length
  · right; refine ⟨h2, ?_⟩; simpa [h2] using h
  · left; exact h2

/-- The rule at i: is it well, where it ends (or can't go on), its op, its atoms, its signs. -/
def ruleAt (s : List UInt8) (i : Nat) : Bool × Nat × Nat × List Atom × List Atom :=
  if mid s (leftGo s 4 i []).1 = true then
    (true, (rightGo s 2 ((leftGo s 4 i []).1 + 1) []).1, byt s (leftGo s 4 i []).1, (leftGo s 4 i []).2, (rightGo s 2 ((leftGo s 4 i []).1 + 1) []).2)
  else (false, (leftGo s 4 i []).1, 0, (leftGo s 4 i []).2, [])
theorem ruleAt_no {s : List UInt8} {i : Nat} (h : mid s (leftGo s 4 i []).1 = false) : ruleAt s i = (false, (leftGo s 4 i []).1, 0, (leftGo s 4 i []).2, []) := by
  unfold ruleAt; rw [if_neg (by rw [h]; decide)]
theorem ruleAt_yes {s : List UInt8} {i : Nat} (h : mid s (leftGo s 4 i []).1 = true) :
    ruleAt s i = (true, (rightGo s 2 ((leftGo s 4 i []).1 + 1) []).1, byt s (leftGo s 4 i []).1, (leftGo s 4 i []).2, (rightGo s 2 ((leftGo s 4 i []).1 + 1) []).2) := by
  unfold ruleAt; rw [if_pos h]
theorem leftGo_le (s : List UInt8) (k i : Nat) (l : List Atom) (h : i ≤ s.length) : i ≤ (leftGo s k i l).1 ∧ (leftGo s k i l).1 ≤ s.length := by
  induction k generalizing i l with
  | zero => exact ⟨Nat.le_refl _, h⟩
  | succ k ih =>
    rw [leftGo]
    split
    · rename_i h1
      split
      · rename_i h2
        have := ih (i + 2) (l ++ [(byt s i, byt s (i + 1), i)]) (by have := (how_true h2).1; omega)
        omega
      · have := ih (i + 1) (l ++ [(byt s i, 32, i)]) (by have := (sgn_true h1).1; omega)
        omega
    · exact ⟨Nat.le_refl _, h⟩
theorem rightGo_le (s : List UInt8) (k i : Nat) (l : List Atom) (h : i ≤ s.length) : i ≤ (rightGo s k i l).1 ∧ (rightGo s k i l).1 ≤ s.length := by
  induction k generalizing i l with
  | zero => exact ⟨Nat.le_refl _, h⟩
  | succ k ih =>
    rw [rightGo]
    split
    · rename_i h1
      have := ih (i + 1) (l ++ [(byt s i, 32, i)]) (by have := (sgn_true h1).1; omega)
      omega
    · exact ⟨Nat.le_refl _, h⟩
end Cu
end Go.Proofs.YtbppbejigedioabGreatDoor
/- The reference's read, named, twice, wrong and Check, as plain functions. -/
namespace Go.Proofs.YtbppbejigedioabGreatDoor
namespace Cu

/-- A line: the name, the items, the op, the atoms, the signs, at. -/
structure Ln where
  name : Nat
  items : List Item
  op : Nat
  left : List Atom
  right : List Atom
  at_ : Nat

/-- Does a class begin at i? -/
def isClass (s : List UInt8) (i : Nat) : Bool := decide (i + 1 < s.length) && isName (byt s i) && (byt s (i + 1) == 61)

/-- The line at i: is it well, where it ends (or can't go on), and the line. -/
def lineAt (s : List UInt8) (i : Nat) : Bool × Nat × Ln :=
  if isClass s i = true then
    ((classGo s (s.length + 1) (i + 2) []).1, (classGo s (s.length + 1) (i + 2) []).2.1, ⟨byt s i, (classGo s (s.length + 1) (i + 2) []).2.2, 0, [], [], i⟩)
  else if more s i = true then
    ((ruleAt s i).1, (ruleAt s i).2.1, ⟨0, [], (ruleAt s i).2.2.1, (ruleAt s i).2.2.2.1, (ruleAt s i).2.2.2.2, i⟩)
  else (true, i, ⟨0, [], 0, [], [], i⟩)

/-- The lines from i on; k: how many more there may be. -/
def readGo (s : List UInt8) : Nat → Nat → List Ln → Bool × Nat × List Ln
  | 0, i, l => (false, i, l)
  | k + 1, i, l =>
    if (lineAt s i).1 = false then (false, (lineAt s i).2.1, [])
    else if (lineAt s i).2.1 = s.length then (true, (lineAt s i).2.1, l ++ [(lineAt s i).2.2])
    else if byt s (lineAt s i).2.1 ≠ 59 ∨ k = 0 then (false, (lineAt s i).2.1, [])
    else readGo s k ((lineAt s i).2.1 + 1) (l ++ [(lineAt s i).2.2])

def meet (a b : Item) : Bool := decide (a.1 ≤ b.2.1 ∧ b.1 ≤ a.2.1 ∧ a.1 ≤ a.2.1 ∧ b.1 ≤ b.2.1)
def named (l : List Ln) (n c : Nat) : Bool := (l.take n).any fun x => x.name == c
/-- The first name among atoms that no class ahead of line n has. -/
def unnamed (l : List Ln) (n : Nat) (a : List Atom) : Option Nat := (a.find? fun x => isName x.1 && !named l n x.1).map fun x => x.2.2

theorem lineAt_class {s : List UInt8} {i p : Nat} {b : Bool} {l : List Item} (h : isClass s i = true) (h2 : classGo s (s.length + 1) (i + 2) [] = (b, p, l)) : lineAt s i = (b, p, ⟨byt s i, l, 0, [], [], i⟩) := by
  unfold lineAt; rw [if_pos h, h2]
theorem lineAt_rule {s : List UInt8} {i p op : Nat} {b : Bool} {l r : List Atom} (h : isClass s i = false) (h1 : more s i = true) (h2 : ruleAt s i = (b, p, op, l, r)) : lineAt s i = (b, p, ⟨0, [], op, l, r, i⟩) := by
  unfold lineAt; rw [if_neg (by rw [h]; decide), if_pos h1, h2]
theorem lineAt_empty {s : List UInt8} {i : Nat} (h : isClass s i = false) (h1 : more s i = false) : lineAt s i = (true, i, ⟨0, [], 0, [], [], i⟩) := by
  unfold lineAt; rw [if_neg (by rw [h]; decide), if_neg (by rw [h1]; decide)]
theorem isClass_true {s : List UInt8} {i : Nat} (h : isClass s i = true) : i + 1 < s.length ∧ isName (byt s i) = true ∧ byt s (i + 1) = 61 := by
  unfold isClass at h
  simp only [Bool.and_eq_true, decide_eq_true_eq, beq_iff_eq] at h
  exact ⟨h.1.1, h.1.2, h.2⟩
theorem isClass_false {s : List UInt8} {i : Nat} (h : isClass s i = false) : ¬ i + 1 < s.length ∨ (i + 1 < s.length ∧ isName (byt s i) = false) ∨ (i + 1 < s.length ∧ isName (byt s i) = true ∧ byt s (i + 1) ≠ 61) := by
  unfold isClass at h
  by_cases h1 : i + 1 < s.length
  · right
    cases h2 : isName (byt s i) with
    | false => left; exact ⟨h1, rfl⟩
    | true => right; refine ⟨h1, rfl, ?_⟩; simpa [h1, h2] using h
  · left; exact h1
theorem more_true {s : List UInt8} {i : Nat} (h : more s i = true) : i < s.length ∧ byt s i ≠ 59 := by
  unfold more at h; simpa using h
theorem more_false {s : List UInt8} {i : Nat} (h : more s i = false) : ¬ i < s.length ∨ (i < s.length ∧ byt s i = 59) := by
  unfold more at h
  by_cases h1 : i < s.length
  · right; refine ⟨h1, ?_⟩; simpa [h1] using h
  · left; exact h1
theorem readGo_bad {s : List UInt8} {k i : Nat} {l : List Ln} (h : (lineAt s i).1 = false) : readGo s (k + 1) i l = (false, (lineAt s i).2.1, []) := by
  rw [readGo, if_pos h]
theorem readGo_end {s : List UInt8} {k i : Nat} {l : List Ln} (h : (lineAt s i).1 = true) (h2 : (lineAt s i).2.1 = s.length) : readGo s (k + 1) i l = (true, (lineAt s i).2.1, l ++ [(lineAt s i).2.2]) := by
  rw [readGo, if_neg (by rw [h]; decide), if_pos h2]
theorem readGo_stop {s : List UInt8} {k i : Nat} {l : List Ln} (h : (lineAt s i).1 = true) (h2 : (lineAt s i).2.1 ≠ s.length) (h3 : byt s (lineAt s i).2.1 ≠ 59 ∨ k = 0) : readGo s (k + 1) i l = (false, (lineAt s i).2.1, []) := by
  rw [readGo, if_neg (by rw [h]; decide), if_neg h2, if_pos h3]
theorem readGo_go {s : List UInt8} {k i : Nat} {l : List Ln} (h : (lineAt s i).1 = true) (h2 : (lineAt s i).2.1 ≠ s.length) (h3 : ¬ (byt s (lineAt s i).2.1 ≠ 59 ∨ k = 0)) : readGo s (k + 1) i l = readGo s k ((lineAt s i).2.1 + 1) (l ++ [(lineAt s i).2.2]) := by
  rw [readGo, if_neg (by rw [h]; decide), if_neg h2, if_neg h3]
theorem classGo_le (s : List UInt8) (f i : Nat) (l : List Item) (h : i ≤ s.length) : i ≤ (classGo s f i l).2.1 ∧ (classGo s f i l).2.1 ≤ s.length := by
  induction f generalizing i l with
  | zero => exact ⟨Nat.le_refl _, h⟩
  | succ f ih =>
    have h1 := itemEnd_le s i h
    rw [classGo]
    split
    · exact ⟨Nat.le_refl _, h⟩
    · split
      · exact h1
      · split
        · rename_i hd
          unfold dash at hd
          simp only [Bool.and_eq_true, decide_eq_true_eq] at hd
          have h2 := itemEnd_le s (itemEnd s i + 1) (by omega)
          split
          · show _ ∧ _; simp only; omega
          · have h3 := ih (itemEnd s (itemEnd s i + 1)) (l ++ [(itemCode s i, itemCode s (itemEnd s i + 1), i)]) h2.2
            omega
        · have h3 := ih (itemEnd s i) (l ++ [(itemCode s i, itemCode s i, i)]) h1.2
          omega
theorem ruleAt_le (s : List UInt8) (i : Nat) (h : i ≤ s.length) : i ≤ (ruleAt s i).2.1 ∧ (ruleAt s i).2.1 ≤ s.length := by
  have h1 := leftGo_le s 4 i [] h
  unfold ruleAt
  split
  · rename_i hm
    unfold mid at hm
    simp only [Bool.and_eq_true, decide_eq_true_eq] at hm
    have h2 := rightGo_le s 2 ((leftGo s 4 i []).1 + 1) [] (by omega)
    show _ ∧ _; simp only; omega
  · exact h1
theorem lineAt_le (s : List UInt8) (i : Nat) (h : i ≤ s.length) : i ≤ (lineAt s i).2.1 ∧ (lineAt s i).2.1 ≤ s.length := by
  unfold lineAt
  split
  · rename_i hc
    have h0 := (isClass_true hc).1
    have h1 := classGo_le s (s.length + 1) (i + 2) [] (by omega)
    show _ ∧ _; simp only; omega
  · split
    · exact ruleAt_le s i h
    · exact ⟨Nat.le_refl _, h⟩

end Cu
end Go.Proofs.YtbppbejigedioabGreatDoor
/- named, unnamed, twice, wrong: steps. -/
namespace Go.Proofs.YtbppbejigedioabGreatDoor
namespace Cu

theorem named_succ {l : List Ln} {k c : Nat} {x : Ln} (h : l[k]? = some x) : named l (k + 1) c = (named l k c || x.name == c) := by
  unfold named
  rw [List.take_add_one, h]
  simp [List.any_append]
theorem named_true {l : List Ln} {k n c : Nat} {x : Ln} (h : l[k]? = some x) (hk : k < n) (hx : (x.name == c) = true) : named l n c = true := by
  unfold named
  rw [List.any_eq_true]
  refine ⟨x, ?_, hx⟩
  rw [List.mem_iff_getElem?]
  exact ⟨k, by rw [List.getElem?_take_of_lt hk]; exact h⟩

theorem find_none_succ {α : Type} {p : α → Bool} {l : List α} {k : Nat} {x : α} (h : l[k]? = some x) (h1 : (l.take k).find? p = none) (h2 : p x = false) : (l.take (k + 1)).find? p = none := by
  rw [List.take_add_one, h, List.find?_append, h1]
  simp [h2]
theorem find_some_at {α : Type} {p : α → Bool} {l : List α} {k : Nat} {x : α} (h : l[k]? = some x) (h1 : (l.take k).find? p = none) (h2 : p x = true) : l.find? p = some x := by
  have e : l = l.take k ++ (x :: l.drop (k + 1)) := by
    have hk : k < l.length := (List.getElem?_eq_some_iff.1 h).1
    have hx : l[k] = x := (List.getElem?_eq_some_iff.1 h).2
    rw [← hx, List.getElem_cons_drop, List.take_append_drop]
  rw [e, List.find?_append, h1]
  simp [h2]

/-- The items ahead of item k of line n. -/
def ahead (l : List Ln) (n k : Nat) : List Item :=
  (l.take n).flatMap (fun x => x.items) ++ ((l[n]?.map fun x => x.items).getD []).take k
def twice (l : List Ln) (n k : Nat) : Bool :=
  (ahead l n k).any fun y => meet y ((((l[n]?.map fun x => x.items).getD [])[k]?).getD (0, 0, 0))

/-- What is wrong with an item. -/
def itemBad (l : List Ln) (n : Nat) (k : Nat) (y : Item) : Option (Nat × Nat) :=
  if twice l n k = true then some (3, y.2.2) else if y.2.1 < y.1 then some (4, y.2.2) else none
/-- The first fault among the items of a line from k on. -/
def itemsBad (l : List Ln) (n : Nat) : Nat → List Item → Option (Nat × Nat)
  | _, [] => none
  | k, y :: r => match itemBad l n k y with
    | some e => some e
    | none => itemsBad l n (k + 1) r
/-- What is wrong with line n (0: nothing), and where. -/
def wrong (l : List Ln) (n : Nat) (x : Ln) : Nat × Nat :=
  if x.name ≠ 0 ∧ named l n x.name = true then (3, x.at_)
  else match itemsBad l n 0 x.items with
    | some e => e
    | none => match unnamed l n x.left with
      | some p => (5, p)
      | none => match unnamed l n x.right with
        | some p => (5, p)
        | none => (0, 0)
/-- The first fault from line n on. -/
def wrongs (l : List Ln) : Nat → List Ln → Nat × Nat
  | _, [] => (0, 0)
  | n, x :: r => if (wrong l n x).1 ≠ 0 then wrong l n x else wrongs l (n + 1) r
def check (s : List UInt8) : Nat × Nat :=
  if 200 < s.length then (1, 0)
  else if (readGo s 12 0 []).1 = false then (2, (readGo s 12 0 []).2.1)
  else wrongs (readGo s 12 0 []).2.2 0 (readGo s 12 0 []).2.2

end Cu
end Go.Proofs.YtbppbejigedioabGreatDoor
/- What the lines that are read are bounded by. -/
namespace Go.Proofs.YtbppbejigedioabGreatDoor
namespace Cu

theorem byt_lt' (s : List UInt8) (i : Nat) : byt s i < 256 := by unfold byt; exact UInt8.toNat_lt _
theorem classGo_len (s : List UInt8) (f i : Nat) (l : List Item) (h : l.length ≤ i) (hi : i ≤ s.length) : (classGo s f i l).2.2.length ≤ (classGo s f i l).2.1 := by
  induction f generalizing i l with
  | zero => exact h
  | succ f ih =>
    rw [classGo]
    have h1 := itemEnd_le s i hi
    split
    · exact h
    · split
      · show l.length ≤ itemEnd s i; omega
      · rename_i h0
        have hok : itemOk s i = true := by cases hx : itemOk s i <;> simp_all
        have hlt := itemOk_lt hok
        split
        · rename_i hd
          unfold dash at hd
          simp only [Bool.and_eq_true, decide_eq_true_eq] at hd
          have h2 := itemEnd_le s (itemEnd s i + 1) (by omega)
          split
          · show l.length ≤ itemEnd s (itemEnd s i + 1); omega
          · exact ih _ _ (by simp; omega) h2.2
        · exact ih _ _ (by simp; omega) h1.2
theorem leftGo_len (s : List UInt8) (k i : Nat) (l : List Atom) : (leftGo s k i l).2.length ≤ l.length + k := by
  induction k generalizing i l with
  | zero => exact Nat.le_refl _
  | succ k ih =>
    rw [leftGo]
    split
    · split
      · have := ih (i + 2) (l ++ [(byt s i, byt s (i + 1), i)]); simp at this; omega
      · have := ih (i + 1) (l ++ [(byt s i, 32, i)]); simp at this; omega
    · show l.length ≤ _; omega
theorem rightGo_len (s : List UInt8) (k i : Nat) (l : List Atom) : (rightGo s k i l).2.length ≤ l.length + k := by
  induction k generalizing i l with
  | zero => exact Nat.le_refl _
  | succ k ih =>
    rw [rightGo]
    split
    · have := ih (i + 1) (l ++ [(byt s i, 32, i)]); simp at this; omega
    · show l.length ≤ _; omega
def bytes (l : List Atom) : Prop := ∀ y ∈ l, y.1 < 256
theorem bytes_snoc {l : List Atom} {x : Atom} (h : bytes l) (hx : x.1 < 256) : bytes (l ++ [x]) := by
  intro y hy
  rcases List.mem_append.1 hy with h1 | h1
  · exact h y h1
  · simp at h1; subst h1; exact hx
theorem leftGo_bytes (s : List UInt8) (k i : Nat) (l : List Atom) (h : bytes l) : bytes (leftGo s k i l).2 := by
  induction k generalizing i l with
  | zero => exact h
  | succ k ih =>
    rw [leftGo]
    split
    · split
      · exact ih _ _ (bytes_snoc h (byt_lt' _ _))
      · exact ih _ _ (bytes_snoc h (byt_lt' _ _))
    · exact h
theorem rightGo_bytes (s : List UInt8) (k i : Nat) (l : List Atom) (h : bytes l) : bytes (rightGo s k i l).2 := by
  induction k generalizing i l with
  | zero => exact h
  | succ k ih =>
    rw [rightGo]
    split
    · exact ih _ _ (bytes_snoc h (byt_lt' _ _))
    · exact h
theorem bytes_nil : bytes [] := fun y hy => by simp at hy

/-- A line within its bounds. -/
def Fine (s : List UInt8) (x : Ln) : Prop := x.items.length ≤ s.length ∧ x.left.length ≤ 4 ∧ x.right.length ≤ 4 ∧ bytes x.left ∧ bytes x.right
theorem lineAt_fine (s : List UInt8) (i : Nat) : Fine s (lineAt s i).2.2 := by
  unfold lineAt
  split
  · rename_i hc
    have h0 := (isClass_true hc).1
    have h1 := classGo_le s (s.length + 1) (i + 2) [] (by omega)
    have h2 := classGo_len s (s.length + 1) (i + 2) [] (by simp) (by omega)
    exact ⟨by show (classGo s (s.length + 1) (i + 2) []).2.2.length ≤ _; omega, Nat.zero_le _, Nat.zero_le _, bytes_nil, bytes_nil⟩
  · split
    · unfold ruleAt
      split
      · have h1 := leftGo_len s 4 i []
        have h2 := rightGo_len s 2 ((leftGo s 4 i []).1 + 1) []
        simp only [List.length_nil] at h1 h2
        exact ⟨Nat.zero_le _, by show (leftGo s 4 i []).2.length ≤ 4; omega, by show (rightGo s 2 ((leftGo s 4 i []).1 + 1) []).2.length ≤ 4; omega, leftGo_bytes _ _ _ _ bytes_nil, rightGo_bytes _ _ _ _ bytes_nil⟩
      · have h1 := leftGo_len s 4 i []
        simp only [List.length_nil] at h1
        exact ⟨Nat.zero_le _, by show (leftGo s 4 i []).2.length ≤ 4; omega, Nat.zero_le _, leftGo_bytes _ _ _ _ bytes_nil, bytes_nil⟩
    · exact ⟨Nat.zero_le _, Nat.zero_le _, Nat.zero_le _, bytes_nil, bytes_nil⟩
theorem readGo_fine (s : List UInt8) (k i : Nat) (l : List Ln) (h : ∀ x ∈ l, Fine s x) : (∀ x ∈ (readGo s k i l).2.2, Fine s x) ∧ (readGo s k i l).2.2.length ≤ l.length + k := by
  induction k generalizing i l with
  | zero => exact ⟨h, Nat.le_refl _⟩
  | succ k ih =>
    have hf := lineAt_fine s i
    have h2 : ∀ x ∈ l ++ [(lineAt s i).2.2], Fine s x := by
      intro x hx
      rcases List.mem_append.1 hx with h1 | h1
      · exact h x h1
      · simp at h1; subst h1; exact hf
    rw [readGo]
    split
    · exact ⟨fun x hx => by simp at hx, by simp⟩
    · split
      · exact ⟨h2, by simp only [List.length_append, List.length_singleton]; omega⟩
      · split
        · exact ⟨fun x hx => by simp at hx, by simp⟩
        · have := ih ((lineAt s i).2.1 + 1) (l ++ [(lineAt s i).2.2]) h2
          simp only [List.length_append, List.length_singleton] at this
          exact ⟨this.1, by omega⟩
theorem wrongs_step {l : List Ln} {n : Nat} {x : Ln} (h : l[n]? = some x) : wrongs l n (l.drop n) = if (wrong l n x).1 ≠ 0 then wrong l n x else wrongs l (n + 1) (l.drop (n + 1)) := by
  have hk : n < l.length := (List.getElem?_eq_some_iff.1 h).1
  have hx : l[n] = x := (List.getElem?_eq_some_iff.1 h).2
  rw [← List.getElem_cons_drop hk, hx]
  rfl
end Cu
end Go.Proofs.YtbppbejigedioabGreatDoor
