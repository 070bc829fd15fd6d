/- The machine: its states; find. -/
import Derived.Test.YtbppbejigedioabGreatDoorMacY
import Derived.Maps.OwnOps
import Derived.Maps.OwnSet
import Derived.Maps.Views
import Derived.Test.YtbppbejigedioabGreatDoorPlainX
namespace Go.Proofs.YtbppbejigedioabGreatDoor
open Go.RowKit Go.Maps

/-- A state: the atoms met, the rules that fit, where each symbol leads. -/
abbrev St := Nat × Nat × (Nat → Nat)
def stCell (s : St) : List Value := [.int .u64 s.1, .int .u16 s.2.1] ++ (List.range 27).map (fun k => Value.int .i64 (s.2.2 k))
def stCells : List St → List Value
  | [] => []
  | s :: r => stCell s ++ stCells r
theorem stCells_snoc (l : List St) (s : St) : stCells (l ++ [s]) = stCells l ++ stCell s := by
  induction l with
  | nil => simp [stCells]
  | cons y l ih => simp [stCells, ih]
theorem stCell_len (s : St) : (stCell s).length = 29 := by unfold stCell; simp
theorem stCells_get (l : List St) (i j : Nat) (hi : i < l.length) (hj : j < 29) : (stCells l)[i * 29 + j]? = (stCell l[i])[j]? := by
  induction l generalizing i with
  | nil => simp at hi
  | cons y l ih =>
    cases i with
    | zero => simp only [stCells, Nat.zero_mul, Nat.zero_add]; rw [List.getElem?_append_left (by rw [stCell_len]; exact hj)]; rfl
    | succ i =>
      simp only [stCells]
      rw [List.getElem?_append_right (by rw [stCell_len]; omega), stCell_len, show (i + 1) * 29 + j - 29 = i * 29 + j by omega, ih i (by simpa using hi)]
      rfl
def MapIs (D : DataW Unit) (sts : List St) : Prop :=
  ∀ m : Nat, m < b64 → (∀ (i : Nat) (s : St), 1 ≤ i → sts[i]? = some s → s.1 = m → Maps.has D (.int .u64 m) = true ∧ D.atKey (.int .u64 m) (.lit (.int .i64 0)) = .lit (.int .i64 i)) ∧
    ((∀ (i : Nat) (s : St), 1 ≤ i → sts[i]? = some s → s.1 ≠ m) → Maps.has D (.int .u64 m) = false)
/-- The machine with its states. -/
def RunAt (w : World) (M mb : Nat) (p : Nat × Ms × List Sd) (sts : List St) : Prop :=
  ∃ (as_ at_ : Option Addr) (cs ct : Nat) (D : DataW Unit), MacAt w M p.1 p.2.1.1 p.2.1.2 (.slice as_ p.2.2.length cs) (.map (some mb)) (.slice at_ sts.length ct) ∧ w.ownsRow M 131 3 (.slice as_ p.2.2.length cs) p.2.2.length (sideCells p.2.2) ∧
    w.ownsRow mb 262 29 (.slice at_ sts.length ct) sts.length (stCells sts) ∧ w.ownsMap Tryz.prog 116 (plainElem Tryz.prog 3) mb sts.length D ∧ MapIs D sts ∧ mb < M
theorem atomsKeyed : Keyed Tryz.prog 116 := int_keyed Tryz.underlying116
theorem zeroInt (w : World) : (zeroValue 3).run Tryz.prog w = .ok (.int .i64 0) w := by kernel_rfl
theorem key_atoms (m : Nat) (h : m < b64) : keyOf Tryz.prog 116 (.int .u64 (m : Int)) = some (.int .u64 (m : Int)) := keyOf_int_mk Tryz.underlying116 (by
  have h' : (m : Int) < 18446744073709551616 := by unfold b64 at h; omega
  simp [Lit.wf, IntKind.bits, IntKind.signed, IntKind.min, IntKind.max]
  omega)

set_option maxRecDepth 100000 in
set_option maxHeartbeats 1000000 in
theorem find_hit (M mb m i : Nat) (p : Nat × Ms × List Sd) (sts : List St) (s : St) (w : World) (hR : RunAt w M mb p sts) (hm : m < b64) (hi : 1 ≤ i) (hs : sts[i]? = some s) (hsm : s.1 = m) :
    Calls Tryz.prog 88 #[.pointer (some ⟨M, 0, none⟩), .int .u64 m] w fun e w' => e = .returned (.int .i64 i) ∧ w = w' := by
  obtain ⟨as_, at_, cs, ct, D, hMac, hoS, hoT, hown, hmap, hmb⟩ := hR
  obtain ⟨hhas, hat⟩ := (hmap m hm).1 i s hi hs hsm
  obtain ⟨vb, hBM⟩ := hMac.blk
  have hc30 : w.cell? ⟨M, 30, none⟩ = some (.map (some mb)) := hBM.cell 30
  have HAT := hide hat
  have HHAS := hide hhas
  have HOWN := hide hown
  clear hMac hoS hoT hmap hBM hat hhas hown hs hsm
  go_enter Tryz.func88, Tryz.ntmps88
  go_wp2_with (at_lookup; refine wpList_lookup_own_ok_int _ rfl _ _ 113 rfl 116 3 .i64 atomsKeyed Tryz.underlying113 Tryz.underlying3 (zeroInt _) mb sts.length D rfl (unhide HOWN) _ _ rfl (key_atoms m hm) ?_; intro c hat hwc; have e1 := unhide HAT; rw [hat] at e1; simp only [DataW.lit.injEq, Lit.int.injEq, true_and] at e1; subst e1; rw [unhide HHAS]; clear hat hwc)
  go_ret
  exact ⟨rfl, rfl⟩
end Go.Proofs.YtbppbejigedioabGreatDoor
/- The machine: find: facts. -/
namespace Go.Proofs.YtbppbejigedioabGreatDoor
open Go.RowKit Go.Maps

/-- No machine, no state, no map. -/
def notRun : Obj → Prop
  | .cells _ t _ => t ≠ 121 ∧ t ≠ 262
  | .map _ _ => False
  | _ => True
/-- The block where the states of the machine at M lie. -/
def rowOf (w : World) (M : Nat) : Option Nat := (w.cell? ⟨M, 31, none⟩).bind Value.ownBlock
/-- What is turned of what is old: the machine's own block, its map, its states' row; that row stays, or it is a new one. -/
def Turns (M mb : Nat) (w w' : World) : Prop := (∀ k, k < w.heap.size → k ≠ M → k ≠ mb → rowOf w M ≠ some k → w'.heap[k]? = w.heap[k]?) ∧ (∀ k, rowOf w' M = some k → rowOf w M = some k ∨ w.heap.size ≤ k) ∧ (∀ j, j < 31 → w'.cell? ⟨M, j, none⟩ = w.cell? ⟨M, j, none⟩)
/-- What stays while a machine runs: all ahead of its map, and all that is no machine, no state, no map; of those all that are not its own. -/
def FrmR (M mb : Nat) (w w' : World) : Prop := Below mb w w' ∧ (∀ (k : Nat) (o : Obj), w.heap[k]? = some o → notRun o → w'.heap[k]? = some o) ∧ Turns M mb w w'
theorem rowOf_same {w w' : World} {M : Nat} (h : w'.heap[M]? = w.heap[M]?) : rowOf w' M = rowOf w M := by
  unfold rowOf
  rw [World.cell?_of_block (a := ⟨M, 31, none⟩) h]
theorem Turns.refl (M mb : Nat) (w : World) : Turns M mb w w := ⟨fun _ _ _ _ _ => rfl, fun _ h => Or.inl h, fun _ _ => rfl⟩
theorem Turns.trans {M mb : Nat} {a b c : World} (h : Turns M mb a b) (k : Turns M mb b c) (hs : a.heap.size ≤ b.heap.size) : Turns M mb a c := by
  refine ⟨fun i hi h1 h2 h3 => ?_, fun i hi => ?_, fun j hj => (k.2.2 j hj).trans (h.2.2 j hj)⟩
  · rw [k.1 i (by omega) h1 h2 (fun e => ?_)]
    · exact h.1 i hi h1 h2 h3
    · rcases h.2.1 i e with h4 | h4
      · exact h3 h4
      · omega
  · rcases k.2.1 i hi with h4 | h4
    · exact h.2.1 i h4
    · exact Or.inr (by omega)
theorem Turns.of {M mb : Nat} {w w' : World} (h : Below w.heap.size w w') (hM : M < w.heap.size) : Turns M mb w w' :=
  ⟨fun k hk _ _ _ => h.block k hk, fun k hk => Or.inl (by rw [← rowOf_same (h.block M hM)]; exact hk), fun j _ => World.cell?_of_block (a := ⟨M, j, none⟩) (h.block M hM)⟩
theorem FrmR.refl (M mb : Nat) (w : World) : FrmR M mb w w := ⟨Below.refl _ _, fun _ _ h _ => h, Turns.refl _ _ _⟩
theorem FrmR.trans {M mb : Nat} {a b c : World} (h : FrmR M mb a b) (k : FrmR M mb b c) : FrmR M mb a c := ⟨h.1.trans k.1, fun i o ho hn => k.2.1 i o (h.2.1 i o ho hn) hn, h.2.2.trans k.2.2 h.1.size⟩
theorem FrmR.size {M mb : Nat} {w w' : World} (h : FrmR M mb w w') : w.heap.size ≤ w'.heap.size := h.1.size
theorem FrmR.of {M mb : Nat} {w w' : World} (h : Below w.heap.size w w') (hM : mb ≤ w.heap.size) (hM2 : M < w.heap.size) : FrmR M mb w w' :=
  ⟨h.mono hM, fun k o ho _ => by rw [h.block k ((Array.getElem?_eq_some_iff.1 ho).1)]; exact ho, Turns.of h hM2⟩
theorem notRun_set {b j : Nat} {w : World} {cs : List Value} {t : TypeId} {u : Value} (hB : w.heap[b]? = some (.cells cs.toArray t (0, 0))) (ht : t = 121 ∨ t = 262) : ∀ (k : Nat) (o : Obj), w.heap[k]? = some o → notRun o → (w.setCell ⟨b, j, none⟩ u).heap[k]? = some o := by
  intro k o ho hn
  have hkb : k ≠ b := by
    intro h
    subst h
    rw [hB] at ho
    simp only [Option.some.injEq] at ho
    subst ho
    rcases ht with h | h
    · exact hn.1 h
    · exact hn.2 h
  rw [Below.heap_setCell _ _ _ _ hkb]; exact ho
theorem FrmR.setRow {M mb b j : Nat} {w : World} {cs : List Value} {u : Value} (hB : w.heap[b]? = some (.cells cs.toArray 262 (0, 0))) (hM : mb ≤ b) (hr : rowOf w M = some b) (hne : M ≠ b) : FrmR M mb w (w.setCell ⟨b, j, none⟩ u) := by
  refine ⟨(Below.refl mb w).setCell hM _, notRun_set hB (Or.inr rfl), fun k _ _ _ h3 => Below.heap_setCell _ _ _ _ (fun e => h3 (by rw [hr]; exact congrArg some e.symm)), fun k hk => Or.inl ?_, fun i _ => World.cell?_of_block (a := ⟨M, i, none⟩) (Below.heap_setCell _ _ _ _ hne)⟩
  rw [← rowOf_same (w' := w.setCell ⟨b, j, none⟩ u) (Below.heap_setCell _ _ _ _ hne)]
  exact hk
theorem FrmR.grownSet {M mb n s : Nat} {w W : World} {v v' : Value} {xs cs : List Value} (ho : w.ownsRow mb 262 s v n xs) (hr : w.cell? ⟨M, 31, none⟩ = some v) (hg : w.grownBy W v.ownBlock) (hM : mb ≤ w.heap.size) (hMl : mb ≤ M) (hB : W.heap[M]? = some (.cells cs.toArray 121 (0, 0))) (h31 : 31 < cs.length) (hsame : W.heap[M]? = w.heap[M]?) (hv : v'.ownBlock = v.ownBlock ∨ ∃ k, v'.ownBlock = some k ∧ w.heap.size ≤ k) : FrmR M mb w (W.setCell ⟨M, 31, none⟩ v') := by
  have hrow : rowOf w M = v.ownBlock := by unfold rowOf; rw [hr]; rfl
  refine ⟨((Below.refl mb w).grown hg hM (fun k hk => (ho.lt k hk).1)).setCell hMl _, ?_, fun k hk h1 _ h3 => ?_, fun k hk => ?_, fun i hi => ?_⟩
  · intro k o hk hn
    refine notRun_set hB (Or.inl rfl) k o ?_ hn
    have hlt : k < w.heap.size := (Array.getElem?_eq_some_iff.1 hk).1
    rw [hg.block k hlt ?_]
    · exact hk
    · intro he
      rcases ho.2 with ⟨rfl, _⟩ | ⟨g, cap, cur, rfl, _, hh, _⟩
      · simp [Value.ownBlock] at he
      · simp [Value.ownBlock] at he
        subst he
        rw [hh] at hk
        simp only [Option.some.injEq] at hk
        subst hk
        exact hn.2 rfl
  · rw [Below.heap_setCell _ _ _ _ h1]
    exact hg.block k hk (fun e => h3 (by rw [hrow]; exact e.symm))
  · have e : rowOf (W.setCell ⟨M, 31, none⟩ v') M = v'.ownBlock := by
      unfold rowOf
      have h9 := (Blk.setSame (w := W) (b := M) (cs := cs) hB 31 v').cell 31
      rw [h9, List.getElem?_set, if_pos rfl, if_pos h31]
      rfl
    rw [e] at hk
    rcases hv with h4 | ⟨k', h4, h5⟩
    · exact Or.inl (by rw [hrow, ← h4]; exact hk)
    · rw [hk] at h4
      simp only [Option.some.injEq] at h4
      exact Or.inr (by omega)
  · have h9 := (Blk.setSame (w := W) (b := M) (cs := cs) hB 31 v').cell i
    rw [h9, List.getElem?_set, if_neg (by omega), ← World.cell?_of_block (a := ⟨M, i, none⟩) hsame]
    exact ((Blk.cell (w := W) (b := M) (cs := cs) hB i)).symm
theorem FrmR.turned {M mb : Nat} {w W : World} {es : Array MapEntry} {c : Nat} (hm : w.heap[mb]? = some (.map es c)) (hg : w.grownBy W (some mb)) (hMl : M < w.heap.size) (hne : M ≠ mb) : FrmR M mb w W := by
  refine ⟨(Below.refl mb w).grown hg (Nat.le_of_lt (Array.getElem?_eq_some_iff.1 hm).1) (fun k hk => by simp at hk; omega), ?_, fun k hk _ h2 _ => hg.block k hk (fun e => h2 (by simpa using e)), fun k hk => Or.inl ?_, fun j _ => World.cell?_of_block (a := ⟨M, j, none⟩) (hg.block M hMl (fun e => hne (by simpa using e)))⟩
  · intro k o hk hn
    have hlt : k < w.heap.size := (Array.getElem?_eq_some_iff.1 hk).1
    rw [hg.block k hlt ?_]
    · exact hk
    · intro he
      simp only [Option.some.injEq] at he
      subst he
      rw [hm] at hk
      simp only [Option.some.injEq] at hk
      subst hk
      exact hn
  · rw [← rowOf_same (hg.block M hMl (fun e => hne (by simpa using e)))]
    exact hk
theorem FrmR.blk {M mb b : Nat} {w w' : World} {cs : List Value} {t : TypeId} (h : FrmR M mb w w') (hB : Blk w b cs t) (h1 : t ≠ 121) (h2 : t ≠ 262) : Blk w' b cs t := h.2.1 b _ hB ⟨h1, h2⟩
theorem FrmR.own {M mb base size n : Nat} {w w' : World} {e : TypeId} {v : Value} {xs : List Value} (h : FrmR M mb w w') (ho : w.ownsRow base e size v n xs) (h1 : e ≠ 121) (h2 : e ≠ 262) : w'.ownsRow base e size v n xs := by
  refine ⟨ho.1, ?_⟩
  rcases ho.2 with hn | ⟨g, cap, cur, hv, hg, hh, r⟩
  · exact .inl hn
  · exact .inr ⟨g, cap, cur, hv, hg, h.2.1 g _ hh ⟨h1, h2⟩, r⟩
/-- append to a row of the call's own, as one step of a region that draws its order; the row stays, or it is a new one. -/
theorem step_append_stays {P : Program} {ops : Array Oper} {o : Oper} {a : Act} {w : World} {K : Act → World → Prop} {Q : Exit → Act → World → Prop} {E : Prop}
    (hg : o.guard = none) (s x : Operand) (t : TypeId) (hop : o.op = Op.call { callee := Callee.builtin Builtin.append, args := #[s, x], argTypes := #[t, t] })
    (base : Nat) (e : TypeId) (i : TypeInfo) (z : Value) (size bytes : Nat) (h1 : P.underlying t = some (.slice e)) (h2 : P.info? e = some i) (h3 : i.zero = some z) (h4 : i.size = size) (h5 : i.bytes = bytes) (h6 : z.cells.size = size) (h7 : 0 < size)
    (v : Value) (n : Nat) (xs : List Value) (hs : a.eval s = v) (hown : w.ownsRow base e size v n xs)
    (ad : Addr) (m c : Nat) (news : List Value) (hx : a.eval x = .slice (some ad) m c) (hn : news.length = m * size) (hc : ∀ j u, news[j]? = some u → w.cell? (ad.add j) = some u) (h1c : ∀ u ∈ news, u.oneCell' = true)
    (b1 : n + m ≤ maxLen) (b2 : (n + m) * bytes ≤ 140737488355328) (hbase : base ≤ w.heap.size) (hm0 : 0 < m)
    (hK : ∀ v' w', w'.ownsRow base e size v' (n + m) (xs ++ news) → w.grownBy w' v.ownBlock → (v'.ownBlock = v.ownBlock ∨ ∃ k, v'.ownBlock = some k ∧ w.heap.size ≤ k) → K (a.put o.dst v') w') :
    if Region.wanted o (yielded ops a.tmps) = true then Oper.wp P o a w K Q else E := by
  have hw : Region.wanted o (yielded ops a.tmps) = true := by simp [Region.wanted, hg]
  rw [if_pos hw]
  obtain ⟨v', w', hrun, r1, r2, _⟩ := run_append_own (P := P) w base t o.type e i z size bytes h1 h2 h3 h4 h5 h6 h7 v n xs hown ad m c news hn hc h1c b1 b2 hbase
  have hsmall : n + m ≤ 9223372036854775807 := by simp only [maxLen] at b1; omega
  have hrow : v'.ownBlock = v.ownBlock ∨ ∃ k, v'.ownBlock = some k ∧ w.heap.size ≤ k := by
    subst h4
    subst h5
    rcases hown.2 with ⟨rfl, rfl⟩ | ⟨g, cap, cur, rfl, hbg, hgg, hnc, hcm, hcs, htake⟩
    · have hr := run_append_nil (P := P) w t o.type e i z h1 h2 h3 ad m c news hn hc hm0 (by omega) (by simp only [Nat.zero_add] at b2; omega)
      rw [hr] at hrun
      simp only [Result.ok.injEq] at hrun
      obtain ⟨rfl, _⟩ := hrun
      exact Or.inr ⟨_, rfl, Nat.le_refl _⟩
    · by_cases hroom : n + m ≤ cap
      · have hfit : n * i.size + news.length ≤ cur.size := by rw [hn, hcs, ← Nat.add_mul]; exact Nat.mul_le_mul_right _ hroom
        have hr := run_append_room (P := P) w t o.type e i h1 h2 g n cap cur hgg ad m c news hn hc h1c hroom hfit
        rw [hr] at hrun
        simp only [Result.ok.injEq] at hrun
        obtain ⟨rfl, _⟩ := hrun
        exact Or.inl rfl
      · have holds : ∀ j u, xs[j]? = some u → w.cell? ((⟨g, 0, none⟩ : Addr).add j) = some u := hown.cells (g := g) rfl
        have hr := run_append_grow (P := P) w t o.type e i z h1 h2 h3 ⟨g, 0, none⟩ n cap xs hown.1 holds ad m c news hn hc (by omega) (by omega) (growslice_fits (by omega) b2)
        rw [hr] at hrun
        simp only [Result.ok.injEq] at hrun
        obtain ⟨rfl, _⟩ := hrun
        exact Or.inr ⟨_, rfl, Nat.le_refl _⟩
  unfold Oper.wp
  simp [execOp, hop, resolve, invoke, builtin, hs, hx, hrun, Result.andThen]
  exact hK v' w' r1 r2 hrow

theorem map_ne_row {w : World} {mb base s n : Nat} {e : TypeId} {v : Value} {xs : List Value} {es : Array MapEntry} {c : Nat} (hm : w.heap[mb]? = some (.map es c)) (ho : w.ownsRow base e s v n xs) : some mb ≠ v.ownBlock := by
  intro he
  rcases ho.2 with ⟨rfl, _⟩ | ⟨g, cap, cur, rfl, _, hh, _⟩
  · simp [Value.ownBlock] at he
  · simp [Value.ownBlock] at he
    subst he
    rw [hh] at hm
    simp at hm
theorem own_turned {w W : World} {mb base s n : Nat} {e : TypeId} {v : Value} {xs : List Value} {es : Array MapEntry} {c : Nat} (hm : w.heap[mb]? = some (.map es c)) (hg : w.grownBy W (some mb)) (ho : w.ownsRow base e s v n xs) : W.ownsRow base e s v n xs :=
  ho.kept hg (Or.inr (fun h => map_ne_row hm ho h.symm))
theorem blk_turned {w W : World} {mb b : Nat} {cs : List Value} {t : TypeId} {es : Array MapEntry} {c : Nat} (hm : w.heap[mb]? = some (.map es c)) (hg : w.grownBy W (some mb)) (hB : Blk w b cs t) : Blk W b cs t := by
  refine hB.grown hg ?_
  intro h
  simp only [Option.some.injEq] at h
  subst h
  unfold Blk at hB
  rw [hm] at hB
  simp at hB
theorem mac_states {W : World} {M fi : Nat} {bh : List Nat} {mt : Nat → Nat} {vs vm vt vt' : Value} (h : MacAt W M fi bh mt vs vm vt) : MacAt (W.setCell ⟨M, 31, none⟩ vt') M fi bh mt vs vm vt' := by
  obtain ⟨ab, cb, h1, h2⟩ := h
  exact ⟨ab, cb, h1.setSame 31 _, own_set_ne h2 _ _ (h1.ne_row h2 (by decide))⟩

/-- Which rules can end behind the atoms m, among the first. -/
def fitB (m : Nat) (x : Sd) : Bool := x.2.1 || !(m &&& x.1 == 0)
def fitsTo (sd : List Sd) (m : Nat) : Nat → Nat
  | 0 => 0
  | n + 1 => if ((sd[n]?).map (fitB m)).getD false then fitsTo sd m n ||| 2 ^ n else fitsTo sd m n
theorem fitsTo_lt (sd : List Sd) (m n : Nat) : fitsTo sd m n < 2 ^ n := by
  induction n with
  | zero => simp [fitsTo]
  | succ n ih =>
    unfold fitsTo
    split
    · exact Nat.or_lt_two_pow (by omega) (by omega)
    · omega
theorem fitsTo_bit (sd : List Sd) (m n i : Nat) (hi : i < n) (x : Sd) (hx : sd[i]? = some x) : (fitsTo sd m n).testBit i = fitB m x := by
  induction n with
  | zero => omega
  | succ n ih =>
    by_cases h : i = n
    · subst h
      have h0 : (fitsTo sd m i).testBit i = false := Nat.testBit_lt_two_pow (fitsTo_lt sd m i)
      unfold fitsTo
      rw [hx]
      simp only [Option.map_some, Option.getD_some]
      by_cases hb : fitB m x = true
      · rw [if_pos hb, hb]; simp
      · rw [if_neg hb, h0]; simpa using hb
    · have := ih (by omega)
      unfold fitsTo
      split
      · rw [Nat.testBit_or, this, Nat.testBit_two_pow_of_ne (by omega), Bool.or_false]
      · exact this
def fitsN (p : Nat × Ms × List Sd) (m : Nat) : Nat := fitsTo p.2.2 m p.2.2.length
def stepP (p : Nat × Ms × List Sd) (m k : Nat) : Nat := (p.1 ||| orAll p.2.1.1 m) &&& p.2.1.2 k

/-- What is known of the states: each is what its atoms say; where it leads, leads right. -/
structure Good (p : Nat × Ms × List Sd) (sts : List St) : Prop where
  one : 1 ≤ sts.length
  fits : ∀ (i : Nat) (s : St), 1 ≤ i → sts[i]? = some s → s.1 < b64 ∧ s.2.1 = fitsN p s.1 ∧ ∀ j, s.1.testBit j = true → j < p.2.1.1.length
  next : ∀ (i : Nat) (s : St) (k : Nat), 1 ≤ i → sts[i]? = some s → k < 27 → s.2.2 k ≠ 0 → ∃ s' : St, sts[s.2.2 k]? = some s' ∧ s'.1 = stepP p s.1 k
theorem Good.snoc {p : Nat × Ms × List Sd} {sts : List St} {m : Nat} (h : Good p sts) (hm : m < b64) (hj : ∀ j, m.testBit j = true → j < p.2.1.1.length) : Good p (sts ++ [(m, fitsN p m, fun _ => 0)]) := by
  have hget : ∀ (i : Nat) (s : St), (sts ++ [(m, fitsN p m, fun _ => 0)])[i]? = some s → sts[i]? = some s ∨ s = (m, fitsN p m, fun _ => 0) := by
    intro i s hs
    by_cases hi : i < sts.length
    · rw [List.getElem?_append_left hi] at hs; exact Or.inl hs
    · have hi2 : i < (sts ++ [(m, fitsN p m, fun _ => 0)]).length := (List.getElem?_eq_some_iff.1 hs).1
      simp at hi2
      have : i = sts.length := by omega
      subst this
      simp at hs
      exact Or.inr hs.symm
  refine ⟨by have := h.one; simp, ?_, ?_⟩
  · intro i s h1 hs
    rcases hget i s hs with h2 | rfl
    · exact h.fits i s h1 h2
    · exact ⟨hm, rfl, hj⟩
  · intro i s k h1 hs hk hz
    rcases hget i s hs with h2 | rfl
    · obtain ⟨s', e1, e2⟩ := h.next i s k h1 h2 hk hz
      exact ⟨s', by rw [List.getElem?_append_left (List.getElem?_eq_some_iff.1 e1).1]; exact e1, e2⟩
    · exact absurd rfl hz
/-- More states, none lost. -/
def Grew (a b : List St) : Prop := a.length ≤ b.length ∧ b.length ≤ a.length + 1 ∧ ∀ (i : Nat) (s : St), a[i]? = some s → ∃ s' : St, b[i]? = some s' ∧ s'.1 = s.1
theorem Grew.refl (a : List St) : Grew a a := ⟨Nat.le_refl _, by omega, fun _ s h => ⟨s, h, rfl⟩⟩
theorem Grew.snoc (a : List St) (s : St) : Grew a (a ++ [s]) := ⟨by simp, by simp, fun i s' h => ⟨s', by rw [List.getElem?_append_left (List.getElem?_eq_some_iff.1 h).1]; exact h, rfl⟩⟩

theorem lit_ne {a b : Nat} (h : a ≠ b) : (Lit.int .u64 (a : Int)) ≠ Lit.int .u64 (b : Int) := by
  intro e
  simp only [Lit.int.injEq, true_and] at e
  omega
theorem mapIs_put {D : DataW Unit} {sts : List St} {m f : Nat} {nx : Nat → Nat} (hD : IsMap D) (hm : MapIs D sts) (hmb : m < b64) (hl : 1 ≤ sts.length) (hno : ∀ (i : Nat) (s : St), 1 ≤ i → sts[i]? = some s → s.1 ≠ m) :
    MapIs (D.put (.int .u64 (m : Int)) (.lit (.int .i64 (sts.length : Int)))) (sts ++ [(m, f, nx)]) := by
  have hget : ∀ (i : Nat) (s : St), (sts ++ [(m, f, nx)])[i]? = some s → sts[i]? = some s ∨ (i = sts.length ∧ s = (m, f, nx)) := by
    intro i s hs
    by_cases hi : i < sts.length
    · rw [List.getElem?_append_left hi] at hs; exact Or.inl hs
    · have hi2 : i < (sts ++ [(m, f, nx)]).length := (List.getElem?_eq_some_iff.1 hs).1
      simp at hi2
      have : i = sts.length := by omega
      subst this
      simp at hs
      exact Or.inr ⟨rfl, hs.symm⟩
  intro m' hm'
  by_cases he : m' = m
  · subst he
    refine ⟨?_, ?_⟩
    · intro i s h1 hs hsm
      rcases hget i s hs with h2 | ⟨rfl, rfl⟩
      · exact absurd hsm (hno i s h1 h2)
      · exact ⟨Maps.has_put_same hD (by simp [WideAt.IsKeyLit]) _, Maps.atKey_put_same hD (by simp [WideAt.IsKeyLit]) _ _⟩
    · intro hall
      exact absurd rfl (hall sts.length (m', f, nx) hl (by simp))
  · rw [Maps.has_put_other (lit_ne he), Maps.atKey_put_other (lit_ne he)]
    refine ⟨?_, ?_⟩
    · intro i s h1 hs hsm
      rcases hget i s hs with h2 | ⟨rfl, rfl⟩
      · exact (hm m' hm').1 i s h1 h2 hsm
      · exact absurd hsm.symm he
    · intro hall
      exact (hm m' hm').2 (fun i s h1 hs => hall i s h1 (by rw [List.getElem?_append_left (List.getElem?_eq_some_iff.1 hs).1]; exact hs))

theorem RunAt.below {w w' : World} {M mb : Nat} {p : Nat × Ms × List Sd} {sts : List St} (h : RunAt w M mb p sts) (hb : Below w.heap.size w w') : RunAt w' M mb p sts := by
  obtain ⟨as_, at_, cs, ct, D, h1, h2, h3, h4, h5, h6⟩ := h
  exact ⟨as_, at_, cs, ct, D, h1.below hb, own_below h2 hb, own_below h3 hb, h4.kept (grown_of_below hb none) (by simp), h5, h6⟩
theorem RunAt.lt {w : World} {M mb : Nat} {p : Nat × Ms × List Sd} {sts : List St} (h : RunAt w M mb p sts) : M < w.heap.size ∧ mb < M := by
  obtain ⟨as_, at_, cs, ct, D, h1, h2, h3, h4, h5, h6⟩ := h
  exact ⟨h1.lt, h6⟩

/-- 'm[k] = v' as one step of a region that draws its order. -/
theorem step_mapUpdate_own {H : Type} {P : Program} {ops : Array Oper} {o : Oper} {a : Act} {w : World} {K : Act → World → Prop} {Q : Exit → Act → World → Prop} {E : Prop}
    (hg : o.guard = none) (m x v : Operand) (t : TypeId) (hop : o.op = Op.mapUpdate t m x v)
    (k e : TypeId) (KK : Keyed P k) (ht : P.underlying t = some (.map k e)) (R : Value → Option (DataW H × List MemPlace)) (b n : Nat) (D : DataW H)
    (hm : a.eval m = .map (some b)) (hown : w.ownsMap P k R b n D) (hn : n < maxLen) (key val : Value) (kl : Lit) (hx : a.eval x = key) (hv : a.eval v = val) (hkey : keyOf P k key = some kl)
    (d : DataW H) (ps : List MemPlace) (hval : R val = some (d, ps))
    (hK : ∀ w', w'.ownsMap P k R b (n + 1) (D.put kl d) → w.grownBy w' (some b) → K (a.put o.dst undef) w') :
    if Region.wanted o (yielded ops a.tmps) = true then Oper.wp P o a w K Q else E := by
  have hw : Region.wanted o (yielded ops a.tmps) = true := by simp [Region.wanted, hg]
  rw [if_pos hw]
  obtain ⟨w', hrun, r1, r2⟩ := hown.update KK ht hn hkey hval
  unfold Oper.wp
  simp [execOp, hop, hm, hx, hv, hrun, Result.andThen]
  exact hK w' r1 r2

/-- Behind the map's store: the machine as it was, its map one further, the new state in block S. -/
def MidF (w : World) (M mb S : Nat) (p : Nat × Ms × List Sd) (sts : List St) (m : Nat) (wc : World) : Prop :=
  ∃ (as_ at_ : Option Addr) (cs ct : Nat) (D : DataW Unit), MacAt wc M p.1 p.2.1.1 p.2.1.2 (.slice as_ p.2.2.length cs) (.map (some mb)) (.slice at_ sts.length ct) ∧ wc.ownsRow M 131 3 (.slice as_ p.2.2.length cs) p.2.2.length (sideCells p.2.2) ∧
    wc.ownsRow mb 262 29 (.slice at_ sts.length ct) sts.length (stCells sts) ∧ wc.ownsMap Tryz.prog 116 (plainElem Tryz.prog 3) mb (sts.length + 1) D ∧ MapIs D (sts ++ [(m, fitsN p m, fun _ => 0)]) ∧ mb < M ∧
    Blk wc S (stCell (m, fitsN p m, fun _ => 0)) 262 ∧ FrmR M mb w wc
theorem midF_done {w wr w1 : World} {M mb S m : Nat} {p : Nat × Ms × List Sd} {sts : List St} {as_ at_ : Option Addr} {cs ct : Nat} {D : DataW Unit} (hb : Below w.heap.size w wr) (hMac : MacAt wr M p.1 p.2.1.1 p.2.1.2 (.slice as_ p.2.2.length cs) (.map (some mb)) (.slice at_ sts.length ct)) (hoS : wr.ownsRow M 131 3 (.slice as_ p.2.2.length cs) p.2.2.length (sideCells p.2.2))
    (hoT : wr.ownsRow mb 262 29 (.slice at_ sts.length ct) sts.length (stCells sts)) (hown : wr.ownsMap Tryz.prog 116 (plainElem Tryz.prog 3) mb sts.length D) (hmap : MapIs D sts) (hmb : mb < M) (hMw : M < w.heap.size) (hB : Blk wr S (stCell (m, fitsN p m, fun _ => 0)) 262)
    (hm : m < b64) (hl : 1 ≤ sts.length) (hno : ∀ (i : Nat) (s : St), 1 ≤ i → sts[i]? = some s → s.1 ≠ m)
    (ho1 : w1.ownsMap Tryz.prog 116 (plainElem Tryz.prog 3) mb (sts.length + 1) (D.put (.int .u64 (m : Int)) (.lit (.int .i64 (sts.length : Int))))) (hg : wr.grownBy w1 (some mb)) : MidF w M mb S p sts m w1 := by
  have hD := hown.isMap
  obtain ⟨es, c, hes, _⟩ := hown
  obtain ⟨ab, cb, m1, m2⟩ := hMac
  refine ⟨as_, at_, cs, ct, _, ⟨ab, cb, blk_turned hes hg m1, own_turned hes hg m2⟩, own_turned hes hg hoS, own_turned hes hg hoT, ho1, mapIs_put hD hmap hm hl hno, hmb, blk_turned hes hg hB, ?_⟩
  exact (FrmR.of hb (by omega) hMw).trans (FrmR.turned hes hg (by have := hb.size; omega) (by omega))
theorem own_grown' {w W : World} {base base' s s' n n' : Nat} {e e' : TypeId} {v v' : Value} {xs xs' : List Value} (ho : w.ownsRow base e s v n xs) (ho' : w.ownsRow base' e' s' v' n' xs') (hg : w.grownBy W v'.ownBlock) (hne : e ≠ e') : W.ownsRow base e s v n xs := own_grown ho ho' hne (Below.refl _ _) hg
theorem find_done {w wc W w2 : World} {M mb m : Nat} {p : Nat × Ms × List Sd} {sts : List St} {as_ at_ at' : Option Addr} {cs ct ct' : Nat} {D : DataW Unit} (hMac : MacAt wc M p.1 p.2.1.1 p.2.1.2 (.slice as_ p.2.2.length cs) (.map (some mb)) (.slice at_ sts.length ct)) (hoS : wc.ownsRow M 131 3 (.slice as_ p.2.2.length cs) p.2.2.length (sideCells p.2.2))
    (hoT : wc.ownsRow mb 262 29 (.slice at_ sts.length ct) sts.length (stCells sts)) (hown : wc.ownsMap Tryz.prog 116 (plainElem Tryz.prog 3) mb (sts.length + 1) D) (hmap : MapIs D (sts ++ [(m, fitsN p m, fun _ => 0)])) (hmb : mb < M) (hf : FrmR M mb w wc) (hW : Below wc.heap.size wc W)
    (ho : w2.ownsRow mb 262 29 (.slice at' (sts.length + 1) ct') (sts.length + 1) (stCells sts ++ stCell (m, fitsN p m, fun _ => 0))) (hg : W.grownBy w2 (Value.slice at_ sts.length ct).ownBlock) (hrow : (Value.slice at' (sts.length + 1) ct').ownBlock = (Value.slice at_ sts.length ct).ownBlock ∨ ∃ k, (Value.slice at' (sts.length + 1) ct').ownBlock = some k ∧ W.heap.size ≤ k) :
    (∃ vb, Blk w2 M (macCells p.1 vb p.2.1.2 (.slice as_ p.2.2.length cs) (.map (some mb)) (.slice at_ sts.length ct)) 121) ∧ RunAt (w2.setCell ⟨M, 31, none⟩ (.slice at' (sts.length + 1) ct')) M mb p (sts ++ [(m, fitsN p m, fun _ => 0)]) ∧ FrmR M mb w (w2.setCell ⟨M, 31, none⟩ (.slice at' (sts.length + 1) ct')) ∧
      (w2.setCell ⟨M, 31, none⟩ (.slice at' (sts.length + 1) ct')).ownsMap Tryz.prog 116 (plainElem Tryz.prog 3) mb (sts.length + 1) D := by
  have hoW := own_below hoT hW
  have hMW := hMac.below hW
  have hM2 := hMW.grown hoW hg (by decide) (by decide)
  obtain ⟨vb, hBM⟩ := hM2.blk
  have hoS2 := own_grown' (own_below hoS hW) hoW hg (by decide)
  have hownW := hown.kept (grown_of_below hW none) (by simp)
  have hne : some mb ≠ (Value.slice at_ sts.length ct).ownBlock := by
    obtain ⟨es, c, hes, _⟩ := hownW
    exact map_ne_row hes hoW
  have hown2 := hownW.kept hg hne
  have hMlt := hMac.lt
  have hfin : (w2.setCell ⟨M, 31, none⟩ (.slice at' (sts.length + 1) ct')).ownsMap Tryz.prog 116 (plainElem Tryz.prog 3) mb (sts.length + 1) D := hown2.setCell (by show mb ≠ M; omega) _
  refine ⟨⟨vb, hBM⟩, ⟨as_, at', cs, ct', D, ?_, ?_, ?_, ?_, hmap, hmb⟩, ?_, hfin⟩
  · simp only [List.length_append, List.length_singleton]
    exact mac_states hM2
  · exact own_set_ne hoS2 _ _ (hBM.ne_row hoS2 (by decide))
  · simp only [List.length_append, List.length_singleton]
    rw [stCells_snoc]
    exact own_set_ne ho _ _ (hBM.ne_row ho (by decide))
  · simp only [List.length_append, List.length_singleton]
    exact hfin
  · obtain ⟨vbW, hBW⟩ := hMW.blk
    exact (hf.trans (FrmR.of hW (by omega) hMlt)).trans (FrmR.grownSet hoW (hBW.cell 31) hg (by have := hW.size; omega) (by omega) hBM (by unfold macCells; simp) (hg.block M (by have := hW.size; omega) (hBW.ne_row hoW (by decide))) hrow)
end Go.Proofs.YtbppbejigedioabGreatDoor
