/- The machine: step: facts. -/
import Derived.Test.YtbppbejigedioabGreatDoorMacI
import Derived.Shelf.Spec.TrailingZeros
import Derived.Test.YtbppbejigedioabGreatDoorCutY
import Derived.Deep.DeepCutAuto
namespace Go.Proofs.YtbppbejigedioabGreatDoor
open Go.RowKit Go.Maps

/-- What is known of a machine's numbers. -/
structure MacOk (p : Nat × Ms × List Sd) : Prop where
  fi : p.1 < b64
  bh : ∀ b ∈ p.2.1.1, b < b64
  mt : ∀ k, p.2.1.2 k < b64
  len : p.2.1.1.length ≤ 64
  n12 : p.2.2.length ≤ 12
  sd : ∀ x ∈ p.2.2, x.1 < b64
  mi : ∀ k j, (p.2.1.2 k).testBit j = true → j < p.2.1.1.length
theorem MacOk.step_lt {p : Nat × Ms × List Sd} (h : MacOk p) (m k : Nat) : stepP p m k < b64 := Nat.lt_of_le_of_lt Nat.and_le_right (h.mt k)
theorem MacOk.step_bits {p : Nat × Ms × List Sd} (h : MacOk p) (m k j : Nat) (hj : (stepP p m k).testBit j = true) : j < p.2.1.1.length := by
  unfold stepP at hj
  rw [Nat.testBit_and, Bool.and_eq_true] at hj
  exact h.mi k j hj.2

theorem ctz_parts {x : Nat} (h0 : x ≠ 0) (hx : x < b64) : ∃ q, x = 2 ^ Lib.ctz 64 x * (2 * q + 1) := by
  obtain ⟨q, hq, _⟩ := Lib.ctzFrom_spec 64 x (Nat.pos_of_ne_zero h0) hx
  unfold Lib.ctz
  rw [if_neg h0]
  exact ⟨q, hq⟩
theorem low_bits {x k q : Nat} (h : x = 2 ^ k * (2 * q + 1)) (j : Nat) : (x &&& (x - 1)).testBit j = (x.testBit j && !(j == k)) := by
  have e1 : x - 1 = 2 ^ k * (2 * q) + (2 ^ k - 1) := by
    have := Nat.two_pow_pos k
    rw [h, Nat.mul_add, Nat.mul_one]
    omega
  have e2 : x = 2 ^ k * (2 * q + 1) + 0 := by omega
  have hp := Nat.two_pow_pos k
  rw [Nat.testBit_and, e1, Nat.testBit_two_pow_mul_add (2 * q) (show 2 ^ k - 1 < 2 ^ k by omega) j]
  conv => lhs; lhs; rw [e2]
  conv => rhs; rw [e2]
  rw [Nat.testBit_two_pow_mul_add (2 * q + 1) hp j]
  by_cases hjk : j < k
  · rw [if_pos hjk]; simp
  · rw [if_neg hjk, if_neg hjk]
    by_cases hj : j = k
    · subst hj; simp
    · obtain ⟨d, hd⟩ : ∃ d, j - k = d + 1 := ⟨j - k - 1, by omega⟩
      rw [hd, Nat.testBit_succ, Nat.testBit_succ]
      have : (2 * q + 1) / 2 = q := by omega
      have h2 : (2 * q) / 2 = q := by omega
      rw [this, h2]
      have hj' : (j == k) = false := by simpa using hj
      rw [hj']
      cases q.testBit d <;> rfl
theorem ctz_bit {x k q : Nat} (h : x = 2 ^ k * (2 * q + 1)) : x.testBit k = true := by
  have e2 : x = 2 ^ k * (2 * q + 1) + 0 := by omega
  rw [e2, Nat.testBit_two_pow_mul_add (2 * q + 1) (Nat.two_pow_pos k) k]
  simp
theorem orAll_low {bh : List Nat} {x k q b : Nat} (h : x = 2 ^ k * (2 * q + 1)) (hb : bh[k]? = some b) : orAll bh x = b ||| orAll bh (x &&& (x - 1)) := by
  apply Nat.eq_of_testBit_eq
  intro j
  rw [Nat.testBit_or, Bool.eq_iff_iff, Bool.or_eq_true, orAll_bit, orAll_bit]
  constructor
  · rintro ⟨i, c, h1, h2, h3⟩
    by_cases hi : i = k
    · subst hi
      rw [hb] at h2
      simp only [Option.some.injEq] at h2
      subst h2
      exact Or.inl h3
    · exact Or.inr ⟨i, c, by rw [low_bits h, h1]; simpa using hi, h2, h3⟩
  · rintro (h1 | ⟨i, c, h1, h2, h3⟩)
    · exact ⟨k, b, ctz_bit h, hb, h1⟩
    · rw [low_bits h, Bool.and_eq_true] at h1
      exact ⟨i, c, h1.1, h2, h3⟩
theorem orAll_zero (bh : List Nat) : orAll bh 0 = 0 := by
  apply Nat.eq_of_testBit_eq
  intro j
  rw [Bool.eq_iff_iff, orAll_bit]
  simp
theorem orAll_lt {bh : List Nat} (h : ∀ b ∈ bh, b < b64) (m : Nat) : orAll bh m < b64 := by
  apply Nat.lt_pow_two_of_testBit (n := 64)
  intro j hj
  cases hb : (orAll bh m).testBit j with
  | false => rfl
  | true =>
    obtain ⟨k, b, h1, h2, h3⟩ := (orAll_bit bh m j).1 hb
    have := h b (List.mem_of_getElem? h2)
    rw [Nat.testBit_lt_two_pow (Nat.lt_of_lt_of_le (show b < 2 ^ 64 from this) (Nat.pow_le_pow_right (by decide) hj))] at h3
    cases h3

/-- The rounds of step. -/
def OpenRel (p : Nat × Ms × List Sd) (m : Nat) (w : World) (v8 v9 : Value) (wr : World) : Prop :=
  ∃ o x : Nat, v8 = .int .u64 o ∧ v9 = .int .u64 x ∧ o < b64 ∧ x < b64 ∧ Below w.heap.size w wr ∧ (∀ j, x.testBit j = true → j < p.2.1.1.length) ∧ o ||| orAll p.2.1.1 x = p.1 ||| orAll p.2.1.1 m
theorem open_step {p : Nat × Ms × List Sd} {m o x k q b : Nat} (h : x = 2 ^ k * (2 * q + 1)) (hx : x < b64) (hb : p.2.1.1[k]? = some b) (ho : o < b64) (hbb : b < b64) (hj : ∀ j, x.testBit j = true → j < p.2.1.1.length) (he : o ||| orAll p.2.1.1 x = p.1 ||| orAll p.2.1.1 m) (w wr : World) (hw : Below w.heap.size w wr) :
    OpenRel p m w (.int .u64 ((o ||| b : Nat) : Int)) (.int .u64 ((x &&& (x - 1) : Nat) : Int)) wr := by
  refine ⟨o ||| b, x &&& (x - 1), rfl, rfl, or_lt ho hbb, Nat.lt_of_le_of_lt Nat.and_le_left hx, hw, ?_, ?_⟩
  · intro j h1
    rw [low_bits h, Bool.and_eq_true] at h1
    exact hj j h1.1
  · rw [← he, orAll_low h hb, Nat.or_assoc]

def setNext (sts : List St) (i k tt : Nat) : List St := (sts[i]?).elim sts fun s => sts.set i (s.1, s.2.1, fun j => if j = k then tt else s.2.2 j)
theorem setNext_get {sts : List St} {i k tt : Nat} {s : St} (h : sts[i]? = some s) : setNext sts i k tt = sts.set i (s.1, s.2.1, fun j => if j = k then tt else s.2.2 j) := by unfold setNext; rw [h]; rfl
theorem setNext_len (sts : List St) (i k tt : Nat) : (setNext sts i k tt).length = sts.length := by
  unfold setNext
  cases sts[i]? <;> simp
theorem stCell_next (a b : Nat) (nx : Nat → Nat) (k tt : Nat) (hk : k < 27) : (stCell (a, b, nx)).set (2 + k) (.int .i64 tt) = stCell (a, b, fun j => if j = k then tt else nx j) := by
  apply List.ext_getElem?
  intro j
  unfold stCell
  rw [List.getElem?_set]
  by_cases hj : 2 + k = j
  · subst hj
    rw [if_pos rfl, if_pos (by simp; omega), List.getElem?_append_right (by simp)]
    simp [hk]
  · rw [if_neg hj]
    by_cases h2 : j < 2
    · rw [List.getElem?_append_left (by simpa using h2), List.getElem?_append_left (by simpa using h2)]
    · rw [List.getElem?_append_right (by simp; omega), List.getElem?_append_right (by simp; omega)]
      simp only [List.length_cons, List.length_nil, List.getElem?_map]
      by_cases h27 : j - (0 + 1 + 1) < 27
      · rw [List.getElem?_range h27]
        simp only [Option.map_some]
        rw [if_neg (by omega)]
      · rw [List.getElem?_eq_none (by simp; omega)]; rfl
theorem stCells_set (l : List St) (i j : Nat) (v : Value) (s : St) (hi : l[i]? = some s) (hj : j < 29) (s' : St) (hs : (stCell s).set j v = stCell s') : (stCells l).set (i * 29 + j) v = stCells (l.set i s') := by
  induction l generalizing i with
  | nil => simp at hi
  | cons y l ih =>
    cases i with
    | zero =>
      simp only [List.getElem?_cons_zero, Option.some.injEq] at hi
      subst hi
      simp only [stCells, Nat.zero_mul, Nat.zero_add, List.set_cons_zero]
      rw [List.set_append_left _ _ (by rw [stCell_len]; exact hj), hs]
    | succ i =>
      simp only [List.getElem?_cons_succ] at hi
      simp only [stCells, List.set_cons_succ]
      rw [List.set_append_right _ _ (by rw [stCell_len]; omega), stCell_len, show (i + 1) * 29 + j - 29 = i * 29 + j by omega, ih i hi]
theorem setNext_other {sts : List St} {i k tt n : Nat} {t : St} (h : (setNext sts i k tt)[n]? = some t) : ∃ t0 : St, sts[n]? = some t0 ∧ t.1 = t0.1 ∧ t.2.1 = t0.2.1 ∧ ∀ j, t.2.2 j = t0.2.2 j ∨ (n = i ∧ j = k ∧ t.2.2 j = tt) := by
  cases hs : sts[i]? with
  | none =>
    have e : setNext sts i k tt = sts := by unfold setNext; rw [hs]; rfl
    rw [e] at h
    exact ⟨t, h, rfl, rfl, fun j => Or.inl rfl⟩
  | some s =>
    rw [setNext_get hs, List.getElem?_set] at h
    by_cases hn : i = n
    · subst hn
      rw [if_pos rfl, if_pos (List.getElem?_eq_some_iff.1 hs).1] at h
      simp only [Option.some.injEq] at h
      subst h
      refine ⟨s, hs, rfl, rfl, ?_⟩
      intro j
      by_cases hj : j = k
      · exact Or.inr ⟨rfl, hj, by simp [hj]⟩
      · exact Or.inl (by simp [hj])
    · rw [if_neg hn] at h
      exact ⟨t, h, rfl, rfl, fun j => Or.inl rfl⟩
theorem setNext_keep {sts : List St} {i k tt n : Nat} {t : St} (h : sts[n]? = some t) : ∃ t' : St, (setNext sts i k tt)[n]? = some t' ∧ t'.1 = t.1 := by
  have hn : n < (setNext sts i k tt).length := by rw [setNext_len]; exact (List.getElem?_eq_some_iff.1 h).1
  obtain ⟨t0, h1, h2, _⟩ := setNext_other (List.getElem?_eq_getElem hn)
  rw [h] at h1
  simp only [Option.some.injEq] at h1
  subst h1
  exact ⟨_, List.getElem?_eq_getElem hn, h2⟩
theorem Good.next_set {p : Nat × Ms × List Sd} {sts : List St} {i k tt : Nat} {s t : St} (h : Good p sts) (hs : sts[i]? = some s) (ht : sts[tt]? = some t) (hm : t.1 = stepP p s.1 k) : Good p (setNext sts i k tt) := by
  refine ⟨by rw [setNext_len]; exact h.one, ?_, ?_⟩
  · intro n u h1 hu
    obtain ⟨u0, e1, e2, e3, _⟩ := setNext_other hu
    obtain ⟨f1, f2, f3⟩ := h.fits n u0 h1 e1
    rw [e2, e3]
    exact ⟨f1, f2, f3⟩
  · intro n u j h1 hu hj hz
    obtain ⟨u0, e1, e2, e3, e4⟩ := setNext_other hu
    rcases e4 j with e5 | ⟨rfl, rfl, e5⟩
    · rw [e5] at hz ⊢
      obtain ⟨s', g1, g2⟩ := h.next n u0 j h1 e1 hj hz
      obtain ⟨s2, g3, g4⟩ := setNext_keep (i := i) (k := k) (tt := tt) g1
      exact ⟨s2, g3, by rw [g4, g2, e2]⟩
    · rw [e5]
      rw [hs] at e1
      simp only [Option.some.injEq] at e1
      subst e1
      obtain ⟨s2, g3, g4⟩ := setNext_keep (i := n) (k := j) (tt := tt) ht
      exact ⟨s2, g3, by rw [g4, hm, e2]⟩
theorem MapIs.set {D : DataW Unit} {sts : List St} {i k tt : Nat} (h : MapIs D sts) : MapIs D (setNext sts i k tt) := by
  intro m hm
  refine ⟨?_, ?_⟩
  · intro n u h1 hu hum
    obtain ⟨u0, e1, e2, _⟩ := setNext_other hu
    exact (h m hm).1 n u0 h1 e1 (by rw [← e2]; exact hum)
  · intro hall
    refine (h m hm).2 ?_
    intro n u h1 hu
    obtain ⟨u', g1, g2⟩ := setNext_keep (i := i) (k := k) (tt := tt) hu
    rw [← g2]
    exact hall n u' h1 g1
theorem Grew.set {a b : List St} (h : Grew a b) (i k tt : Nat) : Grew a (setNext b i k tt) := by
  obtain ⟨h1, h2, h3⟩ := h
  refine ⟨by rw [setNext_len]; exact h1, by rw [setNext_len]; exact h2, ?_⟩
  intro n s hs
  obtain ⟨s', e1, e2⟩ := h3 n s hs
  obtain ⟨s2, e3, e4⟩ := setNext_keep (i := i) (k := k) (tt := tt) e1
  exact ⟨s2, e3, by rw [e4, e2]⟩

/-- A state's cells. -/
theorem st_at {w : World} {base cap : Nat} {l : List St} {a : Option Addr} (ho : w.ownsRow base 262 29 (.slice a l.length cap) l.length (stCells l)) (i : Nat) (s : St) (hi : l[i]? = some s) :
    ∃ g : Nat, a = some ⟨g, 0, none⟩ ∧ g < w.heap.size ∧ base ≤ g ∧ w.cell? ⟨g, i * 29, none⟩ = some (.int .u64 s.1) ∧ w.cell? ⟨g, i * 29 + 1, none⟩ = some (.int .u16 s.2.1) ∧ (∀ k, k < 27 → w.cell? ⟨g, i * 29 + 2 + k, none⟩ = some (.int .i64 (s.2.2 k))) ∧ (∀ j, w.frozen? ⟨g, j, none⟩ = false) := by
  have hlt : i < l.length := (List.getElem?_eq_some_iff.1 hi).1
  have hs : l[i] = s := (List.getElem?_eq_some_iff.1 hi).2
  obtain ⟨g, rfl⟩ := own_some ho (by omega)
  obtain ⟨h1, h2, _⟩ := own_free ho 0
  have hc : ∀ j, j < 29 → w.cell? ⟨g, i * 29 + j, none⟩ = (stCell s)[j]? := fun j hj => by
    rw [ho.cellAt (i * 29 + j) (by omega), stCells_get l i j hlt hj, hs]
  refine ⟨g, rfl, h1, h2, hc 0 (by omega), hc 1 (by omega), ?_, fun j => (own_free ho j).2.2⟩
  intro k hk
  have := hc (2 + k) (by omega)
  rw [show i * 29 + (2 + k) = i * 29 + 2 + k by omega] at this
  rw [this]
  unfold stCell
  rw [List.getElem?_append_right (by simp)]
  simp [hk]
/-- Where a state leads is written down. -/
theorem RunAt.setNext {w : World} {M mb i k tt : Nat} {p : Nat × Ms × List Sd} {sts : List St} {s : St} (h : RunAt w M mb p sts) (hi : sts[i]? = some s) (hk : k < 27) :
    ∃ (g c : Nat), w.cell? ⟨M, 31, none⟩ = some (.slice (some ⟨g, 0, none⟩) sts.length c) ∧ g < w.heap.size ∧ w.cell? ⟨g, i * 29 + 2 + k, none⟩ = some (.int .i64 (s.2.2 k)) ∧ w.frozen? ⟨g, i * 29 + 2 + k, none⟩ = false ∧
      RunAt (w.setCell ⟨g, i * 29 + 2 + k, none⟩ (.int .i64 (tt : Int))) M mb p (setNext sts i k tt) ∧ FrmR M mb w (w.setCell ⟨g, i * 29 + 2 + k, none⟩ (.int .i64 (tt : Int))) := by
  obtain ⟨as_, at_, cs, ct, D, hMac, hoS, hoT, hown, hmap, hmb⟩ := h
  obtain ⟨vb, hBM⟩ := hMac.blk
  obtain ⟨g, rfl, hg, hbg, c0, c1, c2, cf⟩ := st_at hoT i s hi
  obtain ⟨ab, cb, m1, m2⟩ := hMac
  have hgB : some g = (Value.slice (some ⟨g, 0, none⟩) sts.length ct).ownBlock := rfl
  have hMg : M ≠ g := fun e => m1.ne_row hoT (by decide) (by rw [e]; rfl)
  have hrow : ∀ {e : TypeId} {base s n : Nat} {v : Value} {xs : List Value}, w.ownsRow base e s v n xs → e ≠ 262 → some g ≠ v.ownBlock := by
    intro e base s n v xs ho hne he
    rcases ho.2 with ⟨rfl, _⟩ | ⟨g', cap, cur, rfl, _, hh, _⟩
    · simp [Value.ownBlock] at he
    · simp [Value.ownBlock] at he
      subst he
      rcases hoT.2 with ⟨hv, _⟩ | ⟨g2, cap2, cur2, hv, _, hh2, _⟩
      · cases hv
      · simp only [Value.slice.injEq, Option.some.injEq, Addr.mk.injEq, and_true, true_and] at hv
        obtain ⟨rfl, rfl⟩ := hv
        rw [hh] at hh2
        simp at hh2
        exact hne hh2.2
  obtain ⟨s1, s2⟩ := hoT.stored (i * 29 + 2 + k) (.int .i64 (tt : Int))
  have hlen := setNext_len sts i k tt
  refine ⟨g, ct, hBM.cell 31, hg, c2 k hk, cf _, ⟨as_, some ⟨g, 0, none⟩, cs, ct, D, ?_, ?_, ?_, ?_, hmap.set, hmb⟩, ?_⟩
  · rw [hlen]
    exact ⟨ab, cb, m1.setOther _ _ (fun e => hMg e.symm), own_set_ne m2 _ _ (hrow m2 (by decide))⟩
  · exact own_set_ne hoS _ _ (hrow hoS (by decide))
  · rw [hlen]
    have e1 : (stCells sts).set (i * 29 + 2 + k) (.int .i64 (tt : Int)) = stCells (_root_.Go.Proofs.YtbppbejigedioabGreatDoor.setNext sts i k tt) := by
      rw [setNext_get hi, show i * 29 + 2 + k = i * 29 + (2 + k) by omega]
      exact stCells_set sts i (2 + k) _ s hi (by omega) _ (stCell_next s.1 s.2.1 s.2.2 k tt hk)
    rw [← e1]
    exact s1
  · rw [hlen]
    refine hown.setCell ?_ _
    intro e
    obtain ⟨es, c, hes, _⟩ := hown
    exact map_ne_row hes hoT (by rw [show mb = g from e]; rfl)
  · rcases hoT.2 with ⟨hv, _⟩ | ⟨g2, cap2, cur2, hv, hb2, hh2, _⟩
    · cases hv
    · simp only [Value.slice.injEq, Option.some.injEq, Addr.mk.injEq, and_true, true_and] at hv
      obtain ⟨rfl, rfl⟩ := hv
      exact FrmR.setRow (cs := cur2.toList) (by simpa using hh2) hb2 (by unfold rowOf; rw [show w.cell? ⟨M, 31, none⟩ = some _ from hBM.cell 31]; rfl) hMg
end Go.Proofs.YtbppbejigedioabGreatDoor
/- The machine: start, step. -/
namespace Go.Proofs.YtbppbejigedioabGreatDoor
open Go.RowKit Go.Maps

/-- The tables of math/bits lie in their variables. -/
def Tz (w : World) : Prop := (TabAt 4 Lib.deBruijn64tab w ∧ TabAt 3 Lib.deBruijn32tab w) ∧ 4 < w.heap.size
theorem Tz.below {w w' : World} {B : Nat} (h : Tz w) (hb : Below B w w') (hB : 4 < B) : Tz w' := by
  refine ⟨⟨fun j hj => ?_, fun j hj => ?_⟩, Nat.lt_of_lt_of_le h.2 hb.size⟩
  · rw [← h.1.1 j hj]
    simp only [World.cell?, hb.block 4 (by omega)]
  · rw [← h.1.2 j hj]
    simp only [World.cell?, hb.block 3 (by omega)]
set_option maxHeartbeats 1000000 in
theorem tz_core (x k idx : Nat) (w : World) (hx0 : ((x : Int) == 0) = false)
    (key : IntKind.u64.wrap (bits BinOp.and IntKind.u64 (x : Int) (IntKind.u64.wrap (-(x : Int))) * 285870213051353865) / 288230376151711744 = (idx : Int))
    (hi : idx < 64) (hk : k < 64) (hcell : w.cell? ⟨4, idx, none⟩ = some (.int .u8 k)) :
    Calls Tryz.prog 136 #[.int .u64 x] w fun e w' => e = .returned (.int .i64 k) ∧ w = w' := by
  go_enter Tryz.func136, Tryz.ntmps136
  go_wp2_with (simp only [key])
  go_ret
  exact ⟨rfl, rfl⟩
theorem tz_any (x : Nat) (hx : x < b64) (hx0 : x ≠ 0) (w : World) (hT : Tz w) :
    Calls Tryz.prog 136 #[.int .u64 x] w fun e w' => e = .returned (.int .i64 (Lib.ctz 64 x)) ∧ w = w' := by
  obtain ⟨hlow, hk⟩ := Lib.lowest_bit 64 x hx0 hx
  obtain ⟨hi, htab⟩ := Lib.deBruijn64_at _ hk
  have hcell := hT.1.1 _ hi
  rw [htab] at hcell
  exact tz_core x _ _ w (by simp; omega) (tz64_key x _ hx hx0 hlow) hi hk hcell

set_option maxHeartbeats 1000000 in
theorem tz16_core (x k idx : Nat) (w : World) (hx0 : ((x : Int) == 0) = false)
    (key : bits BinOp.and IntKind.u16 (x : Int) (IntKind.u16.wrap (-(x : Int))) % 4294967296 * 125613361 % 4294967296 / 134217728 = (idx : Int))
    (hi : idx < 32) (hk : k < 32) (hcell : w.cell? ⟨3, idx, none⟩ = some (.int .u8 k)) :
    Calls Tryz.prog 135 #[.int .u16 x] w fun e w' => e = .returned (.int .i64 k) ∧ w = w' := by
  go_enter Tryz.func135, Tryz.ntmps135
  go_wp2_with (simp only [key])
  go_ret
  exact ⟨rfl, rfl⟩
theorem tz16_key (x a : Nat) (hx : x < 65536) (hx0 : x ≠ 0) (hlow : x &&& (65536 - x) = a) :
    bits BinOp.and IntKind.u16 (x : Int) (IntKind.u16.wrap (-(x : Int))) % 4294967296 * 125613361 % 4294967296 / 134217728 = ((a * 125613361 % 4294967296 / 134217728 : Nat) : Int) := by
  have e1 : IntKind.u16.wrap (-(x : Int)) = ((65536 - x : Nat) : Int) := by rw [IntKind.wrap_u16]; omega
  have ha : a < 65536 := by rw [← hlow]; exact Nat.lt_of_le_of_lt Nat.and_le_left hx
  rw [e1, u16_and_nat x _ hx (by omega), hlow]
  omega
theorem tz16_any (x : Nat) (hx : x < 65536) (hx0 : x ≠ 0) (w : World) (hT : Tz w) :
    Calls Tryz.prog 135 #[.int .u16 x] w fun e w' => e = .returned (.int .i64 (Lib.ctz 16 x)) ∧ w = w' := by
  obtain ⟨hlow, hk⟩ := Lib.lowest_bit 16 x hx0 hx
  obtain ⟨hi, htab⟩ := Lib.deBruijn32_at _ (Nat.lt_trans hk (by decide))
  have hcell := hT.1.2 _ hi
  rw [htab] at hcell
  exact tz16_core x _ _ w (by simp; omega) (tz16_key x _ hx hx0 hlow) hi (Nat.lt_trans hk (by decide)) hcell

/-- find, and start. -/
def FindPost (p : Nat × Ms × List Sd) (sts : List St) (M mb m : Nat) (w : World) (e : Ending) (w' : World) : Prop :=
  ∃ (i : Nat) (sts' : List St) (s : St), e = .returned (.int .i64 i) ∧ RunAt w' M mb p sts' ∧ Good p sts' ∧ Grew sts sts' ∧ FrmR M mb w w' ∧ 1 ≤ i ∧ sts'[i]? = some s ∧ s.1 = m
theorem find_any (M mb m : Nat) (p : Nat × Ms × List Sd) (sts : List St) (w : World) (hR : RunAt w M mb p sts) (hG : Good p sts) (hp : MacOk p) (hm : m < b64) (hj : ∀ j, m.testBit j = true → j < p.2.1.1.length) (hlen : sts.length ≤ 4194304) :
    Calls Tryz.prog 88 #[.pointer (some ⟨M, 0, none⟩), .int .u64 m] w fun e w' => FindPost p sts M mb m w e w' := by
  by_cases h : ∃ (i : Nat) (s : St), 1 ≤ i ∧ sts[i]? = some s ∧ s.1 = m
  · obtain ⟨i, s, h1, h2, h3⟩ := h
    refine (find_hit M mb m i p sts s w hR hm h1 h2 h3).mono ?_
    rintro e w' ⟨rfl, rfl⟩
    exact ⟨i, sts, s, rfl, hR, hG, Grew.refl _, FrmR.refl _ _ _, h1, h2, h3⟩
  · refine (find_miss M mb m p sts w hR hG hm (fun i s h1 h2 h3 => h ⟨i, s, h1, h2, h3⟩) hp.n12 hp.sd hlen).mono ?_
    rintro e w' ⟨rfl, h1, h2⟩
    exact ⟨sts.length, _, (m, fitsN p m, fun _ => 0), rfl, h1, hG.snoc hm hj, Grew.snoc _ _, h2, hG.one, by simp, rfl⟩
theorem start_any (M mb : Nat) (p : Nat × Ms × List Sd) (sts : List St) (w : World) (hR : RunAt w M mb p sts) (hG : Good p sts) (hp : MacOk p) (hlen : sts.length ≤ 4194304) :
    Calls Tryz.prog 51 #[.pointer (some ⟨M, 0, none⟩)] w fun e w' => FindPost p sts M mb 0 w e w' := by
  have hf := find_any M mb 0 p sts w hR hG hp (by unfold b64; omega) (fun j h => by simp at h) hlen
  have HF := hide hf
  clear hf hR
  go_enter Tryz.func51, Tryz.ntmps51
  go_wp2_with fail
  refine (unhide HF).mono ?_
  rintro e w' ⟨i, sts', s, rfl, h⟩
  go_wp2
  go_ret
  exact ⟨i, sts', s, rfl, h⟩

set_option maxRecDepth 100000 in
set_option maxHeartbeats 1000000 in
theorem step_hit (M mb i k : Nat) (p : Nat × Ms × List Sd) (sts : List St) (s : St) (w : World) (hR : RunAt w M mb p sts) (hi : sts[i]? = some s) (hk : k < 27) (hz : s.2.2 k ≠ 0) (_hlen : sts.length ≤ 4194304) :
    Calls Tryz.prog 97 #[.pointer (some ⟨M, 0, none⟩), .int .i64 i, .int .i64 k] w fun e w' => e = .returned (.int .i64 (s.2.2 k)) ∧ w = w' := by
  obtain ⟨g, c, h31, hg, hc, hfz, _⟩ := hR.setNext (tt := 0) hi hk
  have hil : i < sts.length := (List.getElem?_eq_some_iff.1 hi).1
  have hz1 : (((s.2.2 k : Nat) : Int) == 0) = false := by simp; omega
  clear hR hi hz
  go_enter Tryz.func97, Tryz.ntmps97
  go_wp2
  go_ret
  exact ⟨rfl, rfl⟩
end Go.Proofs.YtbppbejigedioabGreatDoor
/- The machine: step. -/
namespace Go.Proofs.YtbppbejigedioabGreatDoor
open Go.RowKit Go.Maps

theorem mac_meets {w : World} {M fi : Nat} {vb vs vm vt : Value} {mt : Nat → Nat} (h : Blk w M (macCells fi vb mt vs vm vt) 121) (k : Nat) (hk : k < 27) : w.cell? ⟨M, 2 + k, none⟩ = some (.int .u64 (mt k)) := by
  rw [h.cell]
  unfold macCells
  rw [List.getElem?_append_left (by simp; omega), List.getElem?_append_right (by simp)]
  simp [hk]
/-- What step leaves. -/
def StepPost (p : Nat × Ms × List Sd) (sts : List St) (M mb m : Nat) (w : World) (e : Ending) (w' : World) : Prop := FindPost p sts M mb m w e w'

set_option maxRecDepth 100000 in
set_option maxHeartbeats 1000000 in
theorem step_miss (M mb i k : Nat) (p : Nat × Ms × List Sd) (sts : List St) (s : St) (w : World) (hR : RunAt w M mb p sts) (hG : Good p sts) (hp : MacOk p) (hT : Tz w) (h3 : 4 < mb) (hi1 : 1 ≤ i) (hi : sts[i]? = some s) (hk : k < 27) (hz : s.2.2 k = 0) (hlen : sts.length ≤ 4194304) :
    Calls Tryz.prog 97 #[.pointer (some ⟨M, 0, none⟩), .int .i64 i, .int .i64 k] w fun e w' => FindPost p sts M mb (stepP p s.1 k) w e w' := by
  have hR0 := hR
  obtain ⟨as_, at_, cs, ct, D, hMac, hoS, hoT, hown, hmap, hmb⟩ := hR
  obtain ⟨ab, cb, m1, m2⟩ := hMac
  obtain ⟨g, rfl, hg, hbg, c0, c1, c2, cf⟩ := st_at hoT i s hi
  have c2k := c2 k hk
  rw [hz] at c2k
  have h31 : w.cell? ⟨M, 31, none⟩ = some (.slice (some ⟨g, 0, none⟩) sts.length ct) := m1.cell 31
  have h0 : w.cell? ⟨M, 0, none⟩ = some (.int .u64 p.1) := m1.cell 0
  have h1 : w.cell? ⟨M, 1, none⟩ = some (.slice ab p.2.1.1.length cb) := m1.cell 1
  have hil : i < sts.length := (List.getElem?_eq_some_iff.1 hi).1
  have hMl := m1.lt
  obtain ⟨sg1, sg2, sg3⟩ := hG.fits i s hi1 hi
  have hstart := hide (show OpenRel p s.1 w (.int .u64 (p.1 : Int)) (.int .u64 (s.1 : Int)) w from ⟨p.1, s.1, rfl, rfl, hp.fi, sg1, Below.refl _ _, sg3, rfl⟩)
  have HR := hide hR0
  have HG := hide hG
  have HP := hide hp
  have HI := hide hi
  have HT := hide hT
  have HM1 := hide m1
  have HM2 := hide m2
  clear hR0 hG hp hi hT m1 m2 hoS hoT hown hmap c2 cf sg1 sg2 sg3 hz
  go_enter Tryz.func97, Tryz.ntmps97
  go_wp2
  go_loopw [8, 9] (fun v x wr => OpenRel p s.1 w v x wr) (fun _ x _ => (intOf x).toNat)
  case atStart =>
    go_light
    exact unhide hstart
  case round =>
    obtain ⟨o, x, rfl, rfl, ho, hx, hb, hbits, heq⟩ := hrel
    have h1r : wr.cell? ⟨M, 1, none⟩ = some (.slice ab p.2.1.1.length cb) := by rw [(bcell hb).1 M 1 hMl]; exact h1
    by_cases hx0 : x = 0
    · subst hx0
      rw [orAll_zero, Nat.or_zero] at heq
      have hRr := (unhide HR).below hb
      have hmk : wr.cell? ⟨M, 2 + k, none⟩ = some (.int .u64 (p.2.1.2 k)) := mac_meets ((unhide HM1).below hb hMl) k hk
      have hand : bits .and .u64 (o : Int) ((p.2.1.2 k : Nat) : Int) = ((stepP p s.1 k : Nat) : Int) := by
        rw [u64_and_nat o _ ho ((unhide HP).mt k), heq]; rfl
      have hfind := find_any M mb (stepP p s.1 k) p sts wr hRr (unhide HG) (unhide HP) ((unhide HP).step_lt _ _) (fun j => (unhide HP).step_bits _ _ j) hlen
      have HF := hide hfind
      have HB := hide hb
      clear hfind hRr heq hbits hb ho hx
      go_wp2_with fail
      refine (unhide HF).mono ?_
      rintro e w1 ⟨j, sts1, t, rfl, hR1, hG1, hgr, hf1, hj1, hjt, htm⟩
      obtain ⟨s1, hs1, hs1m⟩ := hgr.2.2 i s (unhide HI)
      have hi1l : i < sts1.length := (List.getElem?_eq_some_iff.1 hs1).1
      obtain ⟨g1, c1', d31, dg, dc, df, dR, dF⟩ := hR1.setNext (tt := j) hs1 hk
      have hfin := hide (show FindPost p sts M mb (stepP p s.1 k) w (.returned (.int .i64 j)) (w1.setCell ⟨g1, i * 29 + 2 + k, none⟩ (.int .i64 (j : Int))) from by
        obtain ⟨t2, e1, e2⟩ := setNext_keep (i := i) (k := k) (tt := j) hjt
        exact ⟨j, _, t2, rfl, dR, hG1.next_set hs1 hjt (by rw [htm, hs1m]), hgr.set i k j, ((FrmR.of (unhide HB) (by omega) hMl).trans hf1).trans dF, hj1, e1, by rw [e2, htm]⟩)
      clear hR1 hG1 hgr hf1 hjt htm hs1 hs1m dR dF
      go_wp2
      go_ret
      exact unhide hfin
    · obtain ⟨q, hq⟩ := ctz_parts hx0 hx
      have hkb := hbits _ (ctz_bit hq)
      have hcall := fun W (hW : Below wr.heap.size wr W) => tz_any x hx hx0 W (((unhide HT).below hb (by have := (unhide HT).2; omega)).below hW (by have := (unhide HT).2; have := hb.size; omega))
      generalize Lib.ctz 64 x = kk at hq hkb hcall
      obtain ⟨gb, b, rfl, hbk, hgb, hMgb, hcb, hfb⟩ := u64_cell (own_below (unhide HM2) hb) kk hkb
      have hbb := (unhide HP).bh b (List.mem_of_getElem? hbk)
      have hx1 : ((x : Int) == 0) = false := by simp; omega
      have hor : bits .or .u64 (o : Int) (b : Int) = ((o ||| b : Nat) : Int) := u64_or_nat o b ho hbb
      obtain ⟨y, hy⟩ : ∃ y, y = x - 1 := ⟨_, rfl⟩
      have hsub : IntKind.u64.wrap ((x : Int) - 1) = (y : Int) := by
        rw [IntKind.wrap_u64]
        have : x < 18446744073709551616 := hx
        omega
      have hand : bits .and .u64 (x : Int) (y : Int) = ((x &&& y : Nat) : Int) := u64_and_nat x y hx (Nat.lt_of_le_of_lt (by omega : y ≤ x) hx)
      have hlow : x &&& y < x := by
        have : x &&& y ≤ y := Nat.and_le_right
        omega
      have hstep := hide (fun W (hW : Below w.heap.size w W) => open_step (p := p) (m := s.1) hq hx hbk ho hbb hbits heq w W hW)
      rw [← hy] at hstep
      have HC := hide hcall
      have HB := hide hb
      clear hcall hbits heq hq hbk hx0 hy hb
      go_upto_region 8 with fail
      haveI hne : Nonempty (Bel wr) := ⟨⟨_, Below.refl _ _⟩⟩
      have q1 : ∀ p' : Bel wr, p'.v.cell? ⟨M, 1, none⟩ = some (.slice (some ⟨gb, 0, none⟩) p.2.1.1.length cb) := fun p' => bel_cell h1r
      have q2 : ∀ p' : Bel wr, p'.v.cell? ⟨gb, kk, none⟩ = some (.int .u64 b) := fun p' => bel_cell hcb
      refine wp_region_bel (by kernel_rfl) (by kernel_rfl) ?_
      repeat (quiet_step ((go_at_call 136; exact bel_call (fun W hW => ((unhide HC) W hW).mono (fun _ _ h => ⟨h.1, h.2 ▸ Below.refl _ _⟩)))))
      refine wpQuiet_nil ?_
      intro W' hw'
      obtain ⟨⟨wq, hwq⟩, rfl⟩ := hw'
      have hrel2 := hide (unhide hstep W' ((unhide HB).trans (hwq.mono (unhide HB).size)))
      clear hwq q1 q2
      go_wp2
      go_roundw
      case rel => first | exact unhide hrel2 | ((repeat apply Exists.intro); exact ⟨unhide hrel2, rfl⟩)
      case measure => simp [intOf]; omega

theorem step_any (M mb i k : Nat) (p : Nat × Ms × List Sd) (sts : List St) (s : St) (w : World) (hR : RunAt w M mb p sts) (hG : Good p sts) (hp : MacOk p) (hT : Tz w) (h3 : 4 < mb) (hi1 : 1 ≤ i) (hi : sts[i]? = some s) (hk : k < 27) (hlen : sts.length ≤ 4194304) :
    Calls Tryz.prog 97 #[.pointer (some ⟨M, 0, none⟩), .int .i64 i, .int .i64 k] w fun e w' => FindPost p sts M mb (stepP p s.1 k) w e w' := by
  by_cases hz : s.2.2 k = 0
  · exact step_miss M mb i k p sts s w hR hG hp hT h3 hi1 hi hk hz hlen
  · obtain ⟨s', h1, h2⟩ := hG.next i s k hi1 hi hk hz
    refine (step_hit M mb i k p sts s w hR hi hk hz hlen).mono ?_
    rintro e w' ⟨rfl, rfl⟩
    exact ⟨s.2.2 k, sts, s', rfl, hR, hG, Grew.refl _, FrmR.refl _ _ _, by omega, h1, h2⟩
end Go.Proofs.YtbppbejigedioabGreatDoor
