/- The machine: its states; find. -/
import Derived.Test.YtoolbbhbknaidaaGreatDoorMacY
import Derived.Maps.OwnOps
import Derived.Maps.OwnSet
import Derived.Maps.Views
import Derived.Test.YtoolbbhbknaidaaGreatDoorPlainX
namespace Go.Proofs.YtoolbbhbknaidaaGreatDoor
open Go.RowKit Go.Maps

/-- A state: the atoms met, the rules that fit, where each symbol leads. -/
abbrev St := Nat × Nat × (Nat → Nat)
def stCell (s : St) : List Value := [.int .u64 s.1, .int .u16 s.2.1] ++ (List.range 27).map (fun k => Value.int .i64 (s.2.2 k))
def stCells : List St → List Value
  | [] => []
  | s :: r => stCell s ++ stCells r
theorem stCells_snoc (l : List St) (s : St) : stCells (l ++ [s]) = stCells l ++ stCell s := by
  induction l with
  | nil => simp [stCells]
  | cons y l ih => simp [stCells, ih]
theorem stCell_len (s : St) : (stCell s).length = 29 := by unfold stCell; simp
theorem stCells_get (l : List St) (i j : Nat) (hi : i < l.length) (hj : j < 29) : (stCells l)[i * 29 + j]? = (stCell l[i])[j]? := by
  induction l generalizing i with
  | nil => simp at hi
  | cons y l ih =>
    cases i with
    | zero => simp only [stCells, Nat.zero_mul, Nat.zero_add]; rw [List.getElem?_append_left (by rw [stCell_len]; exact hj)]; rfl
    | succ i =>
      simp only [stCells]
      rw [List.getElem?_append_right (by rw [stCell_len]; omega), stCell_len, show (i + 1) * 29 + j - 29 = i * 29 + j by omega, ih i (by simpa using hi)]
      rfl
def MapIs (D : DataW Unit) (sts : List St) : Prop :=
  ∀ m : Nat, m < b64 → (∀ (i : Nat) (s : St), 1 ≤ i → sts[i]? = some s → s.1 = m → Maps.has D (.int .u64 m) = true ∧ D.atKey (.int .u64 m) (.lit (.int .i64 0)) = .lit (.int .i64 i)) ∧
    ((∀ (i : Nat) (s : St), 1 ≤ i → sts[i]? = some s → s.1 ≠ m) → Maps.has D (.int .u64 m) = false)
/-- The machine with its states. -/
def RunAt (w : World) (M mb : Nat) (p : Nat × Ms × List Sd) (sts : List St) : Prop :=
  ∃ (as_ at_ : Option Addr) (cs ct : Nat) (D : DataW Unit), MacAt w M p.1 p.2.1.1 p.2.1.2 (.slice as_ p.2.2.length cs) (.map (some mb)) (.slice at_ sts.length ct) ∧ w.ownsRow M 143 3 (.slice as_ p.2.2.length cs) p.2.2.length (sideCells p.2.2) ∧
    w.ownsRow mb 208 29 (.slice at_ sts.length ct) sts.length (stCells sts) ∧ w.ownsMap Tryz.prog 128 (plainElem Tryz.prog 3) mb sts.length D ∧ MapIs D sts ∧ mb < M
theorem atomsKeyed : Keyed Tryz.prog 128 := int_keyed Tryz.underlying128
theorem zeroInt (w : World) : (zeroValue 3).run Tryz.prog w = .ok (.int .i64 0) w := by kernel_rfl
theorem key_atoms (m : Nat) (h : m < b64) : keyOf Tryz.prog 128 (.int .u64 (m : Int)) = some (.int .u64 (m : Int)) := keyOf_int_mk Tryz.underlying128 (by
  have h' : (m : Int) < 18446744073709551616 := by unfold b64 at h; omega
  simp [Lit.wf, IntKind.bits, IntKind.signed, IntKind.min, IntKind.max]
  omega)

set_option maxRecDepth 100000 in
set_option maxHeartbeats 1000000 in
theorem find_hit (M mb m i : Nat) (p : Nat × Ms × List Sd) (sts : List St) (s : St) (w : World) (hR : RunAt w M mb p sts) (hm : m < b64) (hi : 1 ≤ i) (hs : sts[i]? = some s) (hsm : s.1 = m) :
    Calls Tryz.prog 96 #[.pointer (some ⟨M, 0, none⟩), .int .u64 m] w fun e w' => e = .returned (.int .i64 i) ∧ w = w' := by
  obtain ⟨as_, at_, cs, ct, D, hMac, hoS, hoT, hown, hmap, hmb⟩ := hR
  obtain ⟨hhas, hat⟩ := (hmap m hm).1 i s hi hs hsm
  obtain ⟨vb, hBM⟩ := hMac.blk
  have hc30 : w.cell? ⟨M, 30, none⟩ = some (.map (some mb)) := hBM.cell 30
  have HAT := hide hat
  have HHAS := hide hhas
  have HOWN := hide hown
  clear hMac hoS hoT hmap hBM hat hhas hown hs hsm
  go_enter Tryz.func96, Tryz.ntmps96
  go_wp2_with (at_lookup; refine wpList_lookup_own_ok_int _ rfl _ _ 125 rfl 128 3 .i64 atomsKeyed Tryz.underlying125 Tryz.underlying3 (zeroInt _) mb sts.length D rfl (unhide HOWN) _ _ rfl (key_atoms m hm) ?_; intro c hat hwc; have e1 := unhide HAT; rw [hat] at e1; simp only [DataW.lit.injEq, Lit.int.injEq, true_and] at e1; subst e1; rw [unhide HHAS]; clear hat hwc)
  go_ret
  exact ⟨rfl, rfl⟩
end Go.Proofs.YtoolbbhbknaidaaGreatDoor
/- The machine: find: facts. -/
namespace Go.Proofs.YtoolbbhbknaidaaGreatDoor
open Go.RowKit Go.Maps

/-- No machine, no state, no map. -/
def notRun : Obj → Prop
  | .cells _ t _ => t ≠ 133 ∧ t ≠ 208
  | .map _ _ => False
  | _ => True
/-- What stays while a machine runs: all ahead of its map, and all that is no machine, no state, no map. -/
def FrmR (mb : Nat) (w w' : World) : Prop := Below mb w w' ∧ ∀ (k : Nat) (o : Obj), w.heap[k]? = some o → notRun o → w'.heap[k]? = some o
theorem FrmR.refl (mb : Nat) (w : World) : FrmR mb w w := ⟨Below.refl _ _, fun _ _ h _ => h⟩
theorem FrmR.trans {mb : Nat} {a b c : World} (h : FrmR mb a b) (k : FrmR mb b c) : FrmR mb a c := ⟨h.1.trans k.1, fun i o ho hn => k.2 i o (h.2 i o ho hn) hn⟩
theorem FrmR.size {mb : Nat} {w w' : World} (h : FrmR mb w w') : w.heap.size ≤ w'.heap.size := h.1.size
theorem FrmR.of {mb : Nat} {w w' : World} (h : Below w.heap.size w w') (hM : mb ≤ w.heap.size) : FrmR mb w w' :=
  ⟨h.mono hM, fun k o ho _ => by rw [h.block k ((Array.getElem?_eq_some_iff.1 ho).1)]; exact ho⟩
theorem FrmR.set {mb b j : Nat} {w : World} {cs : List Value} {t : TypeId} {u : Value} (hB : w.heap[b]? = some (.cells cs.toArray t (0, 0))) (ht : t = 133 ∨ t = 208) (hM : mb ≤ b) : FrmR mb w (w.setCell ⟨b, j, none⟩ u) := by
  refine ⟨(Below.refl mb w).setCell hM _, ?_⟩
  intro k o ho hn
  have hkb : k ≠ b := by
    intro h
    subst h
    rw [hB] at ho
    simp only [Option.some.injEq] at ho
    subst ho
    rcases ht with h | h
    · exact hn.1 h
    · exact hn.2 h
  rw [Below.heap_setCell _ _ _ _ hkb]; exact ho
theorem FrmR.grown {mb n s : Nat} {w W : World} {v : Value} {xs : List Value} (ho : w.ownsRow mb 208 s v n xs) (hg : w.grownBy W v.ownBlock) (hM : mb ≤ w.heap.size) : FrmR mb w W := by
  refine ⟨(Below.refl mb w).grown hg hM (fun k hk => (ho.lt k hk).1), ?_⟩
  intro k o hk hn
  have hlt : k < w.heap.size := (Array.getElem?_eq_some_iff.1 hk).1
  rw [hg.block k hlt ?_]
  · exact hk
  · intro he
    rcases ho.2 with ⟨rfl, _⟩ | ⟨g, cap, cur, rfl, _, hh, _⟩
    · simp [Value.ownBlock] at he
    · simp [Value.ownBlock] at he
      subst he
      rw [hh] at hk
      simp only [Option.some.injEq] at hk
      subst hk
      exact hn.2 rfl
theorem FrmR.turned {mb : Nat} {w W : World} {es : Array MapEntry} {c : Nat} (hm : w.heap[mb]? = some (.map es c)) (hg : w.grownBy W (some mb)) : FrmR mb w W := by
  refine ⟨(Below.refl mb w).grown hg (Nat.le_of_lt (Array.getElem?_eq_some_iff.1 hm).1) (fun k hk => by simp at hk; omega), ?_⟩
  intro k o hk hn
  have hlt : k < w.heap.size := (Array.getElem?_eq_some_iff.1 hk).1
  rw [hg.block k hlt ?_]
  · exact hk
  · intro he
    simp only [Option.some.injEq] at he
    subst he
    rw [hm] at hk
    simp only [Option.some.injEq] at hk
    subst hk
    exact hn
theorem FrmR.blk {mb b : Nat} {w w' : World} {cs : List Value} {t : TypeId} (h : FrmR mb w w') (hB : Blk w b cs t) (h1 : t ≠ 133) (h2 : t ≠ 208) : Blk w' b cs t := h.2 b _ hB ⟨h1, h2⟩
theorem FrmR.own {mb base size n : Nat} {w w' : World} {e : TypeId} {v : Value} {xs : List Value} (h : FrmR mb w w') (ho : w.ownsRow base e size v n xs) (h1 : e ≠ 133) (h2 : e ≠ 208) : w'.ownsRow base e size v n xs := by
  refine ⟨ho.1, ?_⟩
  rcases ho.2 with hn | ⟨g, cap, cur, hv, hg, hh, r⟩
  · exact .inl hn
  · exact .inr ⟨g, cap, cur, hv, hg, h.2 g _ hh ⟨h1, h2⟩, r⟩
theorem FrmR.mono {mb mb' : Nat} {w w' : World} (h : FrmR mb w w') (hl : mb' ≤ mb) : FrmR mb' w w' := ⟨h.1.mono hl, h.2⟩

theorem map_ne_row {w : World} {mb base s n : Nat} {e : TypeId} {v : Value} {xs : List Value} {es : Array MapEntry} {c : Nat} (hm : w.heap[mb]? = some (.map es c)) (ho : w.ownsRow base e s v n xs) : some mb ≠ v.ownBlock := by
  intro he
  rcases ho.2 with ⟨rfl, _⟩ | ⟨g, cap, cur, rfl, _, hh, _⟩
  · simp [Value.ownBlock] at he
  · simp [Value.ownBlock] at he
    subst he
    rw [hh] at hm
    simp at hm
theorem own_turned {w W : World} {mb base s n : Nat} {e : TypeId} {v : Value} {xs : List Value} {es : Array MapEntry} {c : Nat} (hm : w.heap[mb]? = some (.map es c)) (hg : w.grownBy W (some mb)) (ho : w.ownsRow base e s v n xs) : W.ownsRow base e s v n xs :=
  ho.kept hg (Or.inr (fun h => map_ne_row hm ho h.symm))
theorem blk_turned {w W : World} {mb b : Nat} {cs : List Value} {t : TypeId} {es : Array MapEntry} {c : Nat} (hm : w.heap[mb]? = some (.map es c)) (hg : w.grownBy W (some mb)) (hB : Blk w b cs t) : Blk W b cs t := by
  refine hB.grown hg ?_
  intro h
  simp only [Option.some.injEq] at h
  subst h
  unfold Blk at hB
  rw [hm] at hB
  simp at hB
theorem mac_states {W : World} {M fi : Nat} {bh : List Nat} {mt : Nat → Nat} {vs vm vt vt' : Value} (h : MacAt W M fi bh mt vs vm vt) : MacAt (W.setCell ⟨M, 31, none⟩ vt') M fi bh mt vs vm vt' := by
  obtain ⟨ab, cb, h1, h2⟩ := h
  exact ⟨ab, cb, h1.setSame 31 _, own_set_ne h2 _ _ (h1.ne_row h2 (by decide))⟩

/-- Which rules can end behind the atoms m, among the first. -/
def fitB (m : Nat) (x : Sd) : Bool := x.2.1 || !(m &&& x.1 == 0)
def fitsTo (sd : List Sd) (m : Nat) : Nat → Nat
  | 0 => 0
  | n + 1 => if ((sd[n]?).map (fitB m)).getD false then fitsTo sd m n ||| 2 ^ n else fitsTo sd m n
theorem fitsTo_lt (sd : List Sd) (m n : Nat) : fitsTo sd m n < 2 ^ n := by
  induction n with
  | zero => simp [fitsTo]
  | succ n ih =>
    unfold fitsTo
    split
    · exact Nat.or_lt_two_pow (by omega) (by omega)
    · omega
theorem fitsTo_bit (sd : List Sd) (m n i : Nat) (hi : i < n) (x : Sd) (hx : sd[i]? = some x) : (fitsTo sd m n).testBit i = fitB m x := by
  induction n with
  | zero => omega
  | succ n ih =>
    by_cases h : i = n
    · subst h
      have h0 : (fitsTo sd m i).testBit i = false := Nat.testBit_lt_two_pow (fitsTo_lt sd m i)
      unfold fitsTo
      rw [hx]
      simp only [Option.map_some, Option.getD_some]
      by_cases hb : fitB m x = true
      · rw [if_pos hb, hb]; simp
      · rw [if_neg hb, h0]; simpa using hb
    · have := ih (by omega)
      unfold fitsTo
      split
      · rw [Nat.testBit_or, this, Nat.testBit_two_pow_of_ne (by omega), Bool.or_false]
      · exact this
def fitsN (p : Nat × Ms × List Sd) (m : Nat) : Nat := fitsTo p.2.2 m p.2.2.length
def stepP (p : Nat × Ms × List Sd) (m k : Nat) : Nat := (p.1 ||| orAll p.2.1.1 m) &&& p.2.1.2 k

/-- What is known of the states: each is what its atoms say; where it leads, leads right. -/
structure Good (p : Nat × Ms × List Sd) (sts : List St) : Prop where
  one : 1 ≤ sts.length
  fits : ∀ (i : Nat) (s : St), 1 ≤ i → sts[i]? = some s → s.1 < b64 ∧ s.2.1 = fitsN p s.1 ∧ ∀ j, s.1.testBit j = true → j < p.2.1.1.length
  next : ∀ (i : Nat) (s : St) (k : Nat), 1 ≤ i → sts[i]? = some s → k < 27 → s.2.2 k ≠ 0 → ∃ s' : St, sts[s.2.2 k]? = some s' ∧ s'.1 = stepP p s.1 k
theorem Good.snoc {p : Nat × Ms × List Sd} {sts : List St} {m : Nat} (h : Good p sts) (hm : m < b64) (hj : ∀ j, m.testBit j = true → j < p.2.1.1.length) : Good p (sts ++ [(m, fitsN p m, fun _ => 0)]) := by
  have hget : ∀ (i : Nat) (s : St), (sts ++ [(m, fitsN p m, fun _ => 0)])[i]? = some s → sts[i]? = some s ∨ s = (m, fitsN p m, fun _ => 0) := by
    intro i s hs
    by_cases hi : i < sts.length
    · rw [List.getElem?_append_left hi] at hs; exact Or.inl hs
    · have hi2 : i < (sts ++ [(m, fitsN p m, fun _ => 0)]).length := (List.getElem?_eq_some_iff.1 hs).1
      simp at hi2
      have : i = sts.length := by omega
      subst this
      simp at hs
      exact Or.inr hs.symm
  refine ⟨by have := h.one; simp, ?_, ?_⟩
  · intro i s h1 hs
    rcases hget i s hs with h2 | rfl
    · exact h.fits i s h1 h2
    · exact ⟨hm, rfl, hj⟩
  · intro i s k h1 hs hk hz
    rcases hget i s hs with h2 | rfl
    · obtain ⟨s', e1, e2⟩ := h.next i s k h1 h2 hk hz
      exact ⟨s', by rw [List.getElem?_append_left (List.getElem?_eq_some_iff.1 e1).1]; exact e1, e2⟩
    · exact absurd rfl hz
/-- More states, none lost. -/
def Grew (a b : List St) : Prop := a.length ≤ b.length ∧ b.length ≤ a.length + 1 ∧ ∀ (i : Nat) (s : St), a[i]? = some s → ∃ s' : St, b[i]? = some s' ∧ s'.1 = s.1
theorem Grew.refl (a : List St) : Grew a a := ⟨Nat.le_refl _, by omega, fun _ s h => ⟨s, h, rfl⟩⟩
theorem Grew.snoc (a : List St) (s : St) : Grew a (a ++ [s]) := ⟨by simp, by simp, fun i s' h => ⟨s', by rw [List.getElem?_append_left (List.getElem?_eq_some_iff.1 h).1]; exact h, rfl⟩⟩

theorem lit_ne {a b : Nat} (h : a ≠ b) : (Lit.int .u64 (a : Int)) ≠ Lit.int .u64 (b : Int) := by
  intro e
  simp only [Lit.int.injEq, true_and] at e
  omega
theorem mapIs_put {D : DataW Unit} {sts : List St} {m f : Nat} {nx : Nat → Nat} (hD : IsMap D) (hm : MapIs D sts) (hmb : m < b64) (hl : 1 ≤ sts.length) (hno : ∀ (i : Nat) (s : St), 1 ≤ i → sts[i]? = some s → s.1 ≠ m) :
    MapIs (D.put (.int .u64 (m : Int)) (.lit (.int .i64 (sts.length : Int)))) (sts ++ [(m, f, nx)]) := by
  have hget : ∀ (i : Nat) (s : St), (sts ++ [(m, f, nx)])[i]? = some s → sts[i]? = some s ∨ (i = sts.length ∧ s = (m, f, nx)) := by
    intro i s hs
    by_cases hi : i < sts.length
    · rw [List.getElem?_append_left hi] at hs; exact Or.inl hs
    · have hi2 : i < (sts ++ [(m, f, nx)]).length := (List.getElem?_eq_some_iff.1 hs).1
      simp at hi2
      have : i = sts.length := by omega
      subst this
      simp at hs
      exact Or.inr ⟨rfl, hs.symm⟩
  intro m' hm'
  by_cases he : m' = m
  · subst he
    refine ⟨?_, ?_⟩
    · intro i s h1 hs hsm
      rcases hget i s hs with h2 | ⟨rfl, rfl⟩
      · exact absurd hsm (hno i s h1 h2)
      · exact ⟨Maps.has_put_same hD (by simp [WideAt.IsKeyLit]) _, Maps.atKey_put_same hD (by simp [WideAt.IsKeyLit]) _ _⟩
    · intro hall
      exact absurd rfl (hall sts.length (m', f, nx) hl (by simp))
  · rw [Maps.has_put_other (lit_ne he), Maps.atKey_put_other (lit_ne he)]
    refine ⟨?_, ?_⟩
    · intro i s h1 hs hsm
      rcases hget i s hs with h2 | ⟨rfl, rfl⟩
      · exact (hm m' hm').1 i s h1 h2 hsm
      · exact absurd hsm.symm he
    · intro hall
      exact (hm m' hm').2 (fun i s h1 hs => hall i s h1 (by rw [List.getElem?_append_left (List.getElem?_eq_some_iff.1 hs).1]; exact hs))

theorem RunAt.below {w w' : World} {M mb : Nat} {p : Nat × Ms × List Sd} {sts : List St} (h : RunAt w M mb p sts) (hb : Below w.heap.size w w') : RunAt w' M mb p sts := by
  obtain ⟨as_, at_, cs, ct, D, h1, h2, h3, h4, h5, h6⟩ := h
  exact ⟨as_, at_, cs, ct, D, h1.below hb, own_below h2 hb, own_below h3 hb, h4.kept (grown_of_below hb none) (by simp), h5, h6⟩
theorem RunAt.lt {w : World} {M mb : Nat} {p : Nat × Ms × List Sd} {sts : List St} (h : RunAt w M mb p sts) : M < w.heap.size ∧ mb < M := by
  obtain ⟨as_, at_, cs, ct, D, h1, h2, h3, h4, h5, h6⟩ := h
  exact ⟨h1.lt, h6⟩

/-- 'm[k] = v' as one step of a region that draws its order. -/
theorem step_mapUpdate_own {H : Type} {P : Program} {ops : Array Oper} {o : Oper} {a : Act} {w : World} {K : Act → World → Prop} {Q : Exit → Act → World → Prop} {E : Prop}
    (hg : o.guard = none) (m x v : Operand) (t : TypeId) (hop : o.op = Op.mapUpdate t m x v)
    (k e : TypeId) (KK : Keyed P k) (ht : P.underlying t = some (.map k e)) (R : Value → Option (DataW H × List MemPlace)) (b n : Nat) (D : DataW H)
    (hm : a.eval m = .map (some b)) (hown : w.ownsMap P k R b n D) (hn : n < maxLen) (key val : Value) (kl : Lit) (hx : a.eval x = key) (hv : a.eval v = val) (hkey : keyOf P k key = some kl)
    (d : DataW H) (ps : List MemPlace) (hval : R val = some (d, ps))
    (hK : ∀ w', w'.ownsMap P k R b (n + 1) (D.put kl d) → w.grownBy w' (some b) → K (a.put o.dst undef) w') :
    if Region.wanted o (yielded ops a.tmps) = true then Oper.wp P o a w K Q else E := by
  have hw : Region.wanted o (yielded ops a.tmps) = true := by simp [Region.wanted, hg]
  rw [if_pos hw]
  obtain ⟨w', hrun, r1, r2⟩ := hown.update KK ht hn hkey hval
  unfold Oper.wp
  simp [execOp, hop, hm, hx, hv, hrun, Result.andThen]
  exact hK w' r1 r2

/-- Behind the map's store: the machine as it was, its map one further, the new state in block S. -/
def MidF (w : World) (M mb S : Nat) (p : Nat × Ms × List Sd) (sts : List St) (m : Nat) (wc : World) : Prop :=
  ∃ (as_ at_ : Option Addr) (cs ct : Nat) (D : DataW Unit), MacAt wc M p.1 p.2.1.1 p.2.1.2 (.slice as_ p.2.2.length cs) (.map (some mb)) (.slice at_ sts.length ct) ∧ wc.ownsRow M 143 3 (.slice as_ p.2.2.length cs) p.2.2.length (sideCells p.2.2) ∧
    wc.ownsRow mb 208 29 (.slice at_ sts.length ct) sts.length (stCells sts) ∧ wc.ownsMap Tryz.prog 128 (plainElem Tryz.prog 3) mb (sts.length + 1) D ∧ MapIs D (sts ++ [(m, fitsN p m, fun _ => 0)]) ∧ mb < M ∧
    Blk wc S (stCell (m, fitsN p m, fun _ => 0)) 208 ∧ FrmR mb w wc
theorem midF_done {w wr w1 : World} {M mb S m : Nat} {p : Nat × Ms × List Sd} {sts : List St} {as_ at_ : Option Addr} {cs ct : Nat} {D : DataW Unit} (hb : Below w.heap.size w wr) (hMac : MacAt wr M p.1 p.2.1.1 p.2.1.2 (.slice as_ p.2.2.length cs) (.map (some mb)) (.slice at_ sts.length ct)) (hoS : wr.ownsRow M 143 3 (.slice as_ p.2.2.length cs) p.2.2.length (sideCells p.2.2))
    (hoT : wr.ownsRow mb 208 29 (.slice at_ sts.length ct) sts.length (stCells sts)) (hown : wr.ownsMap Tryz.prog 128 (plainElem Tryz.prog 3) mb sts.length D) (hmap : MapIs D sts) (hmb : mb < M) (hMw : M < w.heap.size) (hB : Blk wr S (stCell (m, fitsN p m, fun _ => 0)) 208)
    (hm : m < b64) (hl : 1 ≤ sts.length) (hno : ∀ (i : Nat) (s : St), 1 ≤ i → sts[i]? = some s → s.1 ≠ m)
    (ho1 : w1.ownsMap Tryz.prog 128 (plainElem Tryz.prog 3) mb (sts.length + 1) (D.put (.int .u64 (m : Int)) (.lit (.int .i64 (sts.length : Int))))) (hg : wr.grownBy w1 (some mb)) : MidF w M mb S p sts m w1 := by
  have hD := hown.isMap
  obtain ⟨es, c, hes, _⟩ := hown
  obtain ⟨ab, cb, m1, m2⟩ := hMac
  refine ⟨as_, at_, cs, ct, _, ⟨ab, cb, blk_turned hes hg m1, own_turned hes hg m2⟩, own_turned hes hg hoS, own_turned hes hg hoT, ho1, mapIs_put hD hmap hm hl hno, hmb, blk_turned hes hg hB, ?_⟩
  exact (FrmR.of hb (by omega)).trans (FrmR.turned hes hg)
theorem own_grown' {w W : World} {base base' s s' n n' : Nat} {e e' : TypeId} {v v' : Value} {xs xs' : List Value} (ho : w.ownsRow base e s v n xs) (ho' : w.ownsRow base' e' s' v' n' xs') (hg : w.grownBy W v'.ownBlock) (hne : e ≠ e') : W.ownsRow base e s v n xs := own_grown ho ho' hne (Below.refl _ _) hg
theorem find_done {w wc W w2 : World} {M mb m : Nat} {p : Nat × Ms × List Sd} {sts : List St} {as_ at_ at' : Option Addr} {cs ct ct' : Nat} {D : DataW Unit} (hMac : MacAt wc M p.1 p.2.1.1 p.2.1.2 (.slice as_ p.2.2.length cs) (.map (some mb)) (.slice at_ sts.length ct)) (hoS : wc.ownsRow M 143 3 (.slice as_ p.2.2.length cs) p.2.2.length (sideCells p.2.2))
    (hoT : wc.ownsRow mb 208 29 (.slice at_ sts.length ct) sts.length (stCells sts)) (hown : wc.ownsMap Tryz.prog 128 (plainElem Tryz.prog 3) mb (sts.length + 1) D) (hmap : MapIs D (sts ++ [(m, fitsN p m, fun _ => 0)])) (hmb : mb < M) (hf : FrmR mb w wc) (hW : Below wc.heap.size wc W)
    (ho : w2.ownsRow mb 208 29 (.slice at' (sts.length + 1) ct') (sts.length + 1) (stCells sts ++ stCell (m, fitsN p m, fun _ => 0))) (hg : W.grownBy w2 (Value.slice at_ sts.length ct).ownBlock) :
    (∃ vb, Blk w2 M (macCells p.1 vb p.2.1.2 (.slice as_ p.2.2.length cs) (.map (some mb)) (.slice at_ sts.length ct)) 133) ∧ RunAt (w2.setCell ⟨M, 31, none⟩ (.slice at' (sts.length + 1) ct')) M mb p (sts ++ [(m, fitsN p m, fun _ => 0)]) ∧ FrmR mb w (w2.setCell ⟨M, 31, none⟩ (.slice at' (sts.length + 1) ct')) ∧
      (w2.setCell ⟨M, 31, none⟩ (.slice at' (sts.length + 1) ct')).ownsMap Tryz.prog 128 (plainElem Tryz.prog 3) mb (sts.length + 1) D := by
  have hoW := own_below hoT hW
  have hMW := hMac.below hW
  have hM2 := hMW.grown hoW hg (by decide) (by decide)
  obtain ⟨vb, hBM⟩ := hM2.blk
  have hoS2 := own_grown' (own_below hoS hW) hoW hg (by decide)
  have hownW := hown.kept (grown_of_below hW none) (by simp)
  have hne : some mb ≠ (Value.slice at_ sts.length ct).ownBlock := by
    obtain ⟨es, c, hes, _⟩ := hownW
    exact map_ne_row hes hoW
  have hown2 := hownW.kept hg hne
  have hMlt := hMac.lt
  have hfin : (w2.setCell ⟨M, 31, none⟩ (.slice at' (sts.length + 1) ct')).ownsMap Tryz.prog 128 (plainElem Tryz.prog 3) mb (sts.length + 1) D := hown2.setCell (by show mb ≠ M; omega) _
  refine ⟨⟨vb, hBM⟩, ⟨as_, at', cs, ct', D, ?_, ?_, ?_, ?_, hmap, hmb⟩, ?_, hfin⟩
  · simp only [List.length_append, List.length_singleton]
    exact mac_states hM2
  · exact own_set_ne hoS2 _ _ (hBM.ne_row hoS2 (by decide))
  · simp only [List.length_append, List.length_singleton]
    rw [stCells_snoc]
    exact own_set_ne ho _ _ (hBM.ne_row ho (by decide))
  · simp only [List.length_append, List.length_singleton]
    exact hfin
  · exact ((hf.trans (FrmR.of hW (by omega))).trans (FrmR.grown hoW hg (by have := hW.size; omega))).trans (FrmR.set hBM (Or.inl rfl) (by omega))
end Go.Proofs.YtoolbbhbknaidaaGreatDoor
