import Derived.Test.YtbppbejigedioabGreatDoorPlainA
import Derived.Lib.Bytealg
import Derived.Lib.DecodeNEq
/- What the program's reader takes, as plain functions. -/
namespace Go.Proofs.YtbppbejigedioabGreatDoor
namespace Cu

/-- Which of those bytes stands at a place, from 0 on; -1: none. -/
def tk (s among : List UInt8) (i : Nat) : Int := if i < s.length then Lib.indexByte among (s.getD i 0) else -1
def tkEnd (s among : List UInt8) (i : Nat) : Nat := if 0 ≤ tk s among i then i + 1 else i

theorem indexByte_ge (l : List UInt8) (c : UInt8) : -1 ≤ Lib.indexByte l c ∧ Lib.indexByte l c < l.length := by
  induction l with
  | nil => simp [Lib.indexByte]
  | cons b l ih =>
    rw [Lib.indexByte]
    simp only [List.length_cons]
    split
    · omega
    · split
      · omega
      · rename_i h1 h2
        rw [beq_iff_eq] at h2
        omega
theorem tk_ge (s among : List UInt8) (i : Nat) : -1 ≤ tk s among i ∧ (0 ≤ tk s among i → i < s.length ∧ tk s among i < among.length) := by
  unfold tk
  have h := indexByte_ge among (s.getD i 0)
  split
  · rename_i h1; exact ⟨h.1, fun _ => ⟨h1, h.2⟩⟩
  · exact ⟨Int.le_refl _, fun h2 => by omega⟩
theorem tkEnd_le (s among : List UInt8) (i : Nat) (h : i ≤ s.length) : i ≤ tkEnd s among i ∧ tkEnd s among i ≤ s.length := by
  unfold tkEnd
  split
  · rename_i h1; have := ((tk_ge s among i).2 h1).1; omega
  · omega
end Cu
end Go.Proofs.YtbppbejigedioabGreatDoor
/- Signs and what stands behind them, by their numbers. -/
namespace Go.Proofs.YtbppbejigedioabGreatDoor
namespace Cu
def signL : List UInt8 := [65, 66, 67, 68, 69, 70, 71, 72, 73, 74, 75, 76, 77, 78, 79, 80, 81, 82, 83, 84, 85, 86, 87, 88, 89, 90, 95, 46]
def nameL : List UInt8 := [65, 66, 67, 68, 69, 70, 71, 72, 73, 74, 75, 76, 77, 78, 79, 80, 81, 82, 83, 84, 85, 86, 87, 88, 89, 90]
def howL : List UInt8 := [42, 43, 63]
def midL : List UInt8 := [33, 124]
/-- The number of a sign, and of what stands behind it. -/
def sk (c : Nat) : Int := Lib.indexByte signL (UInt8.ofNat c)
def hk (c : Nat) : Int := Lib.indexByte howL (UInt8.ofNat c)

theorem ofNat_byt (s : List UInt8) (i : Nat) : UInt8.ofNat (byt s i) = s.getD i 0 := by unfold byt; simp
theorem tk_at {s am : List UInt8} {i : Nat} (h : i < s.length) : tk s am i = Lib.indexByte am (UInt8.ofNat (byt s i)) := by
  unfold tk; rw [if_pos h, ofNat_byt]
theorem tk_end {s am : List UInt8} {i : Nat} (h : ¬ i < s.length) : tk s am i = -1 := by unfold tk; rw [if_neg h]
theorem sign_all : ∀ n : Fin 256, decide (0 ≤ Lib.indexByte signL (UInt8.ofNat n.val)) = isSign n.val := by decide +kernel
theorem name_all : ∀ n : Fin 256, decide (0 ≤ Lib.indexByte nameL (UInt8.ofNat n.val)) = isName n.val := by decide +kernel
theorem name_sign : ∀ n : Fin 256, isName n.val = true → Lib.indexByte nameL (UInt8.ofNat n.val) = Lib.indexByte signL (UInt8.ofNat n.val) := by decide +kernel
theorem how_all : ∀ n : Fin 256, decide (0 ≤ Lib.indexByte howL (UInt8.ofNat n.val)) = isHow n.val := by decide +kernel
theorem mid_all : ∀ n : Fin 256, decide (0 ≤ Lib.indexByte midL (UInt8.ofNat n.val)) = (n.val == 33 || n.val == 124) := by decide +kernel
theorem mid_bar : ∀ n : Fin 256, (n.val == 33 || n.val == 124) = true → (Lib.indexByte midL (UInt8.ofNat n.val) == 1) = (n.val == 124) := by decide +kernel
theorem eq_all : ∀ n : Fin 256, decide (0 ≤ Lib.indexByte [61] (UInt8.ofNat n.val)) = (n.val == 61) := by decide +kernel
theorem hk_space : hk 32 = -1 := by decide +kernel

theorem sgn_tk (s : List UInt8) (i : Nat) : sgn s i = decide (0 ≤ tk s signL i) := by
  unfold sgn
  by_cases h : i < s.length
  · rw [tk_at h]; simp only [h, decide_true, Bool.true_and]; exact (sign_all ⟨byt s i, byt_lt' s i⟩).symm
  · rw [tk_end h]; simp [h]
theorem how_tk (s : List UInt8) (i : Nat) : how s i = decide (0 ≤ tk s howL i) := by
  unfold how
  by_cases h : i < s.length
  · rw [tk_at h]; simp only [h, decide_true, Bool.true_and]; exact (how_all ⟨byt s i, byt_lt' s i⟩).symm
  · rw [tk_end h]; simp [h]
theorem mid_tk (s : List UInt8) (i : Nat) : mid s i = decide (0 ≤ tk s midL i) := by
  unfold mid
  by_cases h : i < s.length
  · rw [tk_at h]; simp only [h, decide_true, Bool.true_and]; exact (mid_all ⟨byt s i, byt_lt' s i⟩).symm
  · rw [tk_end h]; simp [h]
theorem tk_sk {s : List UInt8} {i : Nat} (h : sgn s i = true) : tk s signL i = sk (byt s i) ∧ tkEnd s signL i = i + 1 := by
  have h1 := (sgn_true h).1
  rw [sgn_tk] at h
  exact ⟨tk_at h1, by unfold tkEnd; rw [if_pos (by simpa using h)]⟩
theorem tk_no {s am : List UInt8} {i : Nat} (h : ¬ 0 ≤ tk s am i) : tkEnd s am i = i := by unfold tkEnd; rw [if_neg h]
theorem tk_hk {s : List UInt8} {i : Nat} (h : how s i = true) : tk s howL i = hk (byt s i) ∧ tkEnd s howL i = i + 1 := by
  have h1 := (how_true h).1
  rw [how_tk] at h
  exact ⟨tk_at h1, by unfold tkEnd; rw [if_pos (by simpa using h)]⟩
theorem tk_hk_no {s : List UInt8} {i : Nat} (h : how s i = false) : tk s howL i = hk 32 ∧ tkEnd s howL i = i := by
  rw [how_tk] at h
  have h1 : ¬ 0 ≤ tk s howL i := by simpa using h
  have h2 := (tk_ge s howL i).1
  exact ⟨by rw [hk_space]; omega, tk_no h1⟩
end Cu
end Go.Proofs.YtbppbejigedioabGreatDoor
/- The document's characters against Go's decoder. -/
namespace Go.Proofs.YtbppbejigedioabGreatDoor
namespace Cu
open Go.Lib

/-- The four bytes from i on, and how many there are. -/
theorem wk_0 {s : List UInt8} {i n : Nat} {lo hi k : Nat} : wk s i n 0 lo hi k = k := rfl
theorem wk_s {s : List UInt8} {i n f lo hi k : Nat} : wk s i n (f + 1) lo hi k = if k < n ∧ i + k < s.length ∧ lo ≤ byt s (i + k) ∧ byt s (i + k) ≤ hi then wk s i n f 0x80 0xbf (k + 1) else k := rfl

/-- What is decoded at i. -/
def dec (s : List UInt8) (i : Nat) : Nat × Nat := decodeN (s.length - i) (byt s i) (byt s (i + 1)) (byt s (i + 2)) (byt s (i + 3))
def full (s : List UInt8) (i : Nat) : Prop := (well s i).2 ≠ 0 ∧ (well s i).1 = (well s i).2

theorem code_1 (s : List UInt8) (i : Nat) : code s i 1 = byt s i := rfl
theorem code_2 (s : List UInt8) (i : Nat) : code s i 2 = 64 * (byt s i % 32) + byt s (i + 1) % 64 := rfl
theorem code_3 (s : List UInt8) (i : Nat) : code s i 3 = 64 * (64 * (byt s i % 16) + byt s (i + 1) % 64) + byt s (i + 2) % 64 := rfl
theorem code_4 (s : List UInt8) (i : Nat) : code s i 4 = 64 * (64 * (64 * (byt s i % 8) + byt s (i + 1) % 64) + byt s (i + 2) % 64) + byt s (i + 3) % 64 := rfl

theorem well_2 {s : List UInt8} {i lo hi : Nat} (h : needs (byt s i) = (2, lo, hi)) : well s i = (if i + 1 < s.length ∧ lo ≤ byt s (i + 1) ∧ byt s (i + 1) ≤ hi then 2 else 1, 2) := by
  unfold well; rw [h]; simp only [wk_s]; simp
theorem well_3 {s : List UInt8} {i lo hi : Nat} (h : needs (byt s i) = (3, lo, hi)) : well s i = (if i + 1 < s.length ∧ lo ≤ byt s (i + 1) ∧ byt s (i + 1) ≤ hi then (if i + 2 < s.length ∧ 128 ≤ byt s (i + 2) ∧ byt s (i + 2) ≤ 191 then 3 else 2) else 1, 3) := by
  unfold well; rw [h]; simp only [wk_s]; simp
theorem well_4 {s : List UInt8} {i lo hi : Nat} (h : needs (byt s i) = (4, lo, hi)) : well s i = (if i + 1 < s.length ∧ lo ≤ byt s (i + 1) ∧ byt s (i + 1) ≤ hi then (if i + 2 < s.length ∧ 128 ≤ byt s (i + 2) ∧ byt s (i + 2) ≤ 191 then (if i + 3 < s.length ∧ 128 ≤ byt s (i + 3) ∧ byt s (i + 3) ≤ 191 then 4 else 3) else 2) else 1, 4) := by
  unfold well; rw [h]; simp only [wk_s]; simp
theorem well_1 {s : List UInt8} {i lo hi : Nat} (h : needs (byt s i) = (1, lo, hi)) : well s i = (1, 1) := by
  unfold well; rw [h]; simp only [wk_s]; simp
theorem well_z {s : List UInt8} {i lo hi : Nat} (h : needs (byt s i) = (0, lo, hi)) : well s i = (0, 0) := by
  unfold well; rw [h]; simp

theorem byt_end {s : List UInt8} {i : Nat} (h : ¬ i < s.length) : byt s i = 0 := by
  unfold byt
  rw [List.getD_eq_getElem?_getD, List.getElem?_eq_none (by omega)]
  rfl

theorem dec_2 {s : List UInt8} {i : Nat} (hi : i < s.length) (hb : 194 ≤ byt s i ∧ byt s i < 224) : dec s i = if (well s i).1 = (well s i).2 then (code s i 2, 2) else (65533, 1) := by
  have h1 := byt_lt' s (i + 1)
  rw [well_2 (needs_b (by omega))]
  unfold dec
  rw [← slow_C2 _ _ _ _ _ (by omega) h1 (byt_lt' _ _) (byt_lt' _ _) hb, code_2]
  unfold slowN
  have e1 := @byt_end s (i + 1)
  repeat' split
  all_goals first | rfl | (exfalso; simp_all; omega) | (apply Prod.ext <;> simp only <;> omega)
theorem dec_3 {s : List UInt8} {i lo hi : Nat} (hi' : i < s.length) (hn : needs (byt s i) = (3, lo, hi)) (hd : dec s i = slowN (s.length - i) (byt s i) (byt s (i + 1)) (byt s (i + 2)) (byt s (i + 3)) 3 lo hi) (_hlo : 128 ≤ lo) : dec s i = if (well s i).1 = (well s i).2 then (code s i 3, 3) else (65533, 1) := by
  rw [hd, well_3 hn, code_3]
  unfold slowN
  have e1 := @byt_end s (i + 1)
  have e2 := @byt_end s (i + 2)
  repeat' split
  all_goals first | rfl | (exfalso; simp_all; omega) | (apply Prod.ext <;> simp only <;> omega)
theorem dec_4 {s : List UInt8} {i lo hi : Nat} (hi' : i < s.length) (hn : needs (byt s i) = (4, lo, hi)) (hd : dec s i = slowN (s.length - i) (byt s i) (byt s (i + 1)) (byt s (i + 2)) (byt s (i + 3)) 4 lo hi) (_hlo : 128 ≤ lo) : dec s i = if (well s i).1 = (well s i).2 then (code s i 4, 4) else (65533, 1) := by
  rw [hd, well_4 hn, code_4]
  unfold slowN
  have e1 := @byt_end s (i + 1)
  have e2 := @byt_end s (i + 2)
  have e3 := @byt_end s (i + 3)
  repeat' split
  all_goals first | rfl | (exfalso; simp_all; omega) | (apply Prod.ext <;> simp only <;> omega)
end Cu
end Go.Proofs.YtbppbejigedioabGreatDoor
/- The document's characters against Go's decoder: all classes; begun. -/
namespace Go.Proofs.YtbppbejigedioabGreatDoor
namespace Cu
open Go.Lib

theorem dec_well (s : List UInt8) (i : Nat) (hi : i < s.length) : dec s i = if (well s i).2 ≠ 0 ∧ (well s i).1 = (well s i).2 then (code s i (well s i).2, (well s i).2) else (65533, 1) := by
  have h0 := byt_lt' s i
  have h1 := byt_lt' s (i + 1)
  have h2 := byt_lt' s (i + 2)
  have h3 := byt_lt' s (i + 3)
  have hn : 1 ≤ s.length - i := by omega
  by_cases a : byt s i < 128
  · rw [well_1 (needs_a a), code_1]
    simp only [ne_eq, Nat.one_ne_zero, not_false_eq_true, and_self, if_true]
    unfold dec decodeN
    rw [if_pos a]
  · by_cases b : 194 ≤ byt s i ∧ byt s i < 224
    · rw [dec_2 hi b, well_2 (needs_b (by omega))]; simp
    · by_cases c : byt s i = 224
      · rw [dec_3 hi (needs_c c) (slow_E0 _ _ _ _ _ hn h1 h2 h3 c).symm (by omega), well_3 (needs_c c)]; simp
      · by_cases d : byt s i = 237
        · rw [dec_3 hi (needs_d d) (slow_ED _ _ _ _ _ hn h1 h2 h3 d).symm (by omega), well_3 (needs_d d)]; simp
        · by_cases e : 225 ≤ byt s i ∧ byt s i < 240
          · rw [dec_3 hi (needs_e (by omega)) (slow_E1 _ _ _ _ _ hn h1 h2 h3 (by omega)).symm (by omega), well_3 (needs_e (by omega))]; simp
          · by_cases f : byt s i = 240
            · rw [dec_4 hi (needs_f f) (slow_F0 _ _ _ _ _ hn h1 h2 h3 f).symm (by omega), well_4 (needs_f f)]; simp
            · by_cases g : 241 ≤ byt s i ∧ byt s i < 244
              · rw [dec_4 hi (needs_g (by omega)) (slow_F1 _ _ _ _ _ hn h1 h2 h3 g).symm (by omega), well_4 (needs_g (by omega))]; simp
              · by_cases h : byt s i = 244
                · rw [dec_4 hi (needs_h h) (slow_F4 _ _ _ _ _ hn h1 h2 h3 h).symm (by omega), well_4 (needs_h h)]; simp
                · rw [well_z (needs_i (by omega))]
                  simp only [ne_eq, not_true, false_and, if_false]
                  exact bad_eq _ _ _ _ _ h0 (by unfold firstT; (repeat' split) <;> omega)

/-- The entry of a first byte, by what it needs. -/
theorem entry (b : Nat) (h : b < 256) : (needs b).1 = 0 ∧ firstT b = 241 ∨ (needs b).1 = 1 ∧ firstT b = 240 ∨ ((needs b).1 = firstT b % 8 ∧ 2 ≤ (needs b).1 ∧ (needs b).2.1 = accLo (firstT b / 16) ∧ (needs b).2.2 = accHi (firstT b / 16)) := by
  have hall : ∀ n : Fin 256, (needs n.val).1 = 0 ∧ firstT n.val = 241 ∨ (needs n.val).1 = 1 ∧ firstT n.val = 240 ∨ ((needs n.val).1 = firstT n.val % 8 ∧ 2 ≤ (needs n.val).1 ∧ (needs n.val).2.1 = accLo (firstT n.val / 16) ∧ (needs n.val).2.2 = accHi (firstT n.val / 16)) := by decide +kernel
  exact hall ⟨b, h⟩
end Cu
end Go.Proofs.YtbppbejigedioabGreatDoor
/- begun, as a plain function. -/
namespace Go.Proofs.YtbppbejigedioabGreatDoor
namespace Cu
open Go.Lib

/-- Is a beginning of m bytes a whole encoding, or none? c: the first byte's entry. -/
def fullB (m c b1 b2 : Nat) : Bool :=
  if c % 8 ≤ m then true else if 1 < m ∧ (b1 < accLo (c / 16) ∨ accHi (c / 16) < b1) then true else if 2 < m ∧ (b2 < 128 ∨ 191 < b2) then true else false

/-- How many bytes at i more bytes could still make a well-formed encoding. -/
def begN (s : List UInt8) (i : Nat) : Nat :=
  if ¬ i < s.length then 0 else if (needs (byt s i)).1 ≤ 1 then 0 else if (well s i).1 = (well s i).2 then (well s i).2 - 1 else (well s i).1

theorem full_beg (s : List UInt8) (i n : Nat) (hi : i + n < s.length) (hle : n ≤ begN s i) : fullB (n + 1) (firstT (byt s i)) (byt s (i + 1)) (byt s (i + 2)) = decide (begN s i ≤ n) := by
  have hil : i < s.length := by omega
  unfold begN at hle ⊢
  rw [if_neg (by omega)] at hle ⊢
  rcases entry (byt s i) (byt_lt' s i) with ⟨e1, e2⟩ | ⟨e1, e2⟩ | ⟨e1, e2, e3, e4⟩
  · rw [e1, e2]; simp [fullB]
  · rw [e1, e2]; simp [fullB]
  · have hl := (needs_le (byt s i)).1
    rw [if_neg (by omega)] at hle ⊢
    unfold fullB
    rw [← e1, ← e3, ← e4]
    generalize hnd : needs (byt s i) = nd at *
    obtain ⟨m, lo, hi'⟩ := nd
    simp only at *
    have hm : m = 2 ∨ m = 3 ∨ m = 4 := by omega
    rcases hm with rfl | rfl | rfl
    · rw [well_2 hnd] at hle ⊢
      simp only at hle ⊢
      rw [Bool.eq_iff_iff]
      repeat' split at hle
      all_goals repeat' split
      all_goals simp only [decide_eq_true_eq, Bool.false_eq_true, false_iff, true_iff]
      all_goals omega
    · rw [well_3 hnd] at hle ⊢
      simp only at hle ⊢
      rw [Bool.eq_iff_iff]
      repeat' split at hle
      all_goals repeat' split
      all_goals simp only [decide_eq_true_eq, Bool.false_eq_true, false_iff, true_iff]
      all_goals omega
    · rw [well_4 hnd] at hle ⊢
      simp only at hle ⊢
      rw [Bool.eq_iff_iff]
      repeat' split at hle
      all_goals repeat' split
      all_goals simp only [decide_eq_true_eq, Bool.false_eq_true, false_iff, true_iff]
      all_goals omega
theorem begN_le (s : List UInt8) (i : Nat) : begN s i ≤ 4 ∧ (i < s.length → i + begN s i ≤ s.length) := by
  have h := well_le s i
  unfold begN
  split
  · omega
  · rename_i h1
    have h2 := well_in s i (by omega)
    split
    · omega
    · split <;> omega
/-- Where the item's character can't go on, that is begun's answer. -/
theorem begN_bad {s : List UInt8} {i : Nat} (h : itemOk s i = false) : i + begN s i = itemEnd s i := by
  unfold itemOk at h
  unfold begN itemEnd
  by_cases hi : i < s.length
  · rw [if_neg (by omega)]
    cases hb : barred (byt s i) with
    | true =>
      have hs : byt s i < 128 := by unfold barred at hb; simp at hb; omega
      rw [if_pos (by rw [needs_a hs]; exact Nat.le_refl 1), if_neg (by simp)]; rfl
    | false =>
      rw [if_pos (show i < s.length ∧ false = false from ⟨hi, rfl⟩)]
      simp only [hi, decide_true, hb, Bool.not_false, Bool.true_and, Bool.and_eq_false_iff, decide_eq_false_iff_not] at h
      have hw := well_le s i
      have hwd : (well s i).2 = (needs (byt s i)).1 := by
        unfold well; split
        · rename_i h0; exact h0.symm
        · rfl
      by_cases h0 : (needs (byt s i)).1 ≤ 1
      · rw [if_pos h0]
        have h3 : (needs (byt s i)).1 = 0 := by
          rcases Nat.lt_or_ge (needs (byt s i)).1 1 with h4 | h4
          · omega
          · have h5 : (needs (byt s i)).1 = 1 := by omega
            generalize hnd : needs (byt s i) = nd at *
            obtain ⟨a, b, c⟩ := nd
            simp only at h5
            subst h5
            rw [well_1 hnd] at h
            simp at h
        omega
      · rw [if_neg h0, if_neg (by omega)]
  · rw [if_pos hi, if_neg (by omega)]; rfl
end Cu
end Go.Proofs.YtbppbejigedioabGreatDoor
