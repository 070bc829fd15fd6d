/- The machine: cutsAt. -/
import Derived.Test.YtbppbejigedioabGreatDoorMacW
import Derived.Test.YtbppbejigedioabGreatDoorPlainI
import Derived.Test.YtbppbejigedioabGreatDoorClsH
import Derived.Deep.RegionHeld3
import Derived.Deep.DeepCutAuto
namespace Go.Proofs.YtbppbejigedioabGreatDoor
open Go.RowKit Go.Maps

theorem fits_lt {p : Nat × Ms × List Sd} {m : Nat} (h : p.2.2.length ≤ 12) : fitsN p m < 65536 :=
  Nat.lt_of_lt_of_le (fitsTo_lt _ _ _) (Nat.le_trans (Nat.pow_le_pow_right (by decide) h) (by decide))
theorem ctz_parts16 {x : Nat} (h0 : x ≠ 0) (hx : x < 65536) : ∃ q, x = 2 ^ Lib.ctz 16 x * (2 * q + 1) := by
  obtain ⟨q, hq, _⟩ := Lib.ctzFrom_spec 16 x (Nat.pos_of_ne_zero h0) hx
  unfold Lib.ctz
  rw [if_neg h0]
  exact ⟨q, hq⟩
/-- Is there a cut where the machine has met m and the right sides of those rules stand? -/
def cutsN (p : Nat × Ms × List Sd) (m st : Nat) : Bool := if fitsN p m &&& st = 0 then true else ((p.2.2[Lib.ctz 16 (fitsN p m &&& st)]?).map fun x => x.2.2.1.op == 124).getD true
theorem side_rule {rs : List PLn} (hh : ∀ x ∈ rs, ∀ y ∈ x.1.left, Cu.HowOk y) {t : Nat} {x : Sd} (h : (newP rs).2.2[t]? = some x) : rs[t]? = some x.2.2 := by
  obtain ⟨n1, n2, n3, n4, n5, n6⟩ := newOk_any rs hh
  have htl : t < rs.length := by rw [← n6]; exact (List.getElem?_eq_some_iff.1 h).1
  obtain ⟨la, e1, _⟩ := n5 t rs[t] (by simp [htl])
  rw [h] at e1
  simp only [Option.some.injEq] at e1
  subst e1
  simp [htl]
theorem cutsN_P {lns : List Cu.Ln} {rs : List PLn} (hr : RulesOk lns rs) (m a : Nat) (bs : List Nat) (ha : a < 27) (hb : ∀ b ∈ bs, b < 27) :
    cutsN (newP rs) m (stN rs a (symN bs)) = cutsAtP (newP rs).2.2 m ((a :: bs).map fun k : Nat => (k : Int)) := by
  have hbit : ∀ (i : Nat) (x : Sd), (newP rs).2.2[i]? = some x → (fitsN (newP rs) m &&& stN rs a (symN bs)).testBit i = ((x.2.1 || !(m &&& x.1 == 0)) && standL x.2.2.1.right ((a :: bs).map fun k : Nat => (k : Int))) := by
    intro i x hx
    have hrx := side_rule hr.how hx
    have h1 : (fitsN (newP rs) m).testBit i = fitB m x := fitsTo_bit _ _ _ _ (List.getElem?_eq_some_iff.1 hx).1 x hx
    rw [Nat.testBit_and, h1, stN_bit hrx, rst_stand _ a bs (hr.r2 _ (List.mem_of_getElem? hrx)) ha hb]
    rfl
  have hlt : fitsN (newP rs) m &&& stN rs a (symN bs) < 2 ^ (newP rs).2.2.length := Nat.lt_of_le_of_lt Nat.and_le_left (fitsTo_lt _ _ _)
  unfold cutsN
  generalize fitsN (newP rs) m &&& stN rs a (symN bs) = f at *
  by_cases h0 : f = 0
  · subst h0
    rw [if_pos rfl]
    unfold cutsAtP
    rw [find_zero _ _ hbit]
    rfl
  · rw [if_neg h0]
    obtain ⟨n1, n2, n3, n4, n5, n6⟩ := newOk_any rs hr.how
    have h16 : f < 65536 := Nat.lt_of_lt_of_le hlt (Nat.le_trans (Nat.pow_le_pow_right (by decide) (show (newP rs).2.2.length ≤ 16 by have := hr.n12; omega)) (by decide))
    obtain ⟨q, hq⟩ := ctz_parts16 h0 h16
    obtain ⟨x, e1, e2⟩ := find_low _ _ f _ q hq hbit hlt
    unfold cutsAtP
    rw [e1, e2]

set_option maxRecDepth 100000 in
set_option maxHeartbeats 1000000 in
theorem cutsAt_any (M mb i st : Nat) (p : Nat × Ms × List Sd) (sts : List St) (s : St) (w : World) (hR : RunAt w M mb p sts) (hG : Good p sts) (hp : MacOk p) (hT : Tz w) (hi1 : 1 ≤ i) (hi : sts[i]? = some s) (_hlen : sts.length ≤ 4194304) (hst : st < 65536) :
    Calls Tryz.prog 96 #[.pointer (some ⟨M, 0, none⟩), .int .i64 i, .int .u16 st] w fun e w' => e = .returned (.bool (cutsN p s.1 st)) ∧ ∃ n, w' = w.drewN n := by
  obtain ⟨as_, at_, cs, ct, D, hMac, hoS, hoT, hown, hmap, hmb⟩ := hR
  obtain ⟨vb, hBM⟩ := hMac.blk
  obtain ⟨g, rfl, hg, hbg, c0, c1, c2, cf⟩ := st_at hoT i s hi
  have hil : i < sts.length := (List.getElem?_eq_some_iff.1 hi).1
  have h12 := hp.n12
  obtain ⟨sg1, sg2, sg3⟩ := hG.fits i s hi1 hi
  rw [sg2] at c1
  have hfl := fits_lt (p := p) (m := s.1) h12
  have h29 : w.cell? ⟨M, 29, none⟩ = some (.slice as_ p.2.2.length cs) := hBM.cell 29
  have h31 : w.cell? ⟨M, 31, none⟩ = some (.slice (some ⟨g, 0, none⟩) sts.length ct) := hBM.cell 31
  have hMl := hBM.lt
  have hand : bits .and .u16 ((fitsN p s.1 : Nat) : Int) (st : Int) = ((fitsN p s.1 &&& st : Nat) : Int) := u16_and_nat _ _ hfl hst
  have hlt : fitsN p s.1 &&& st < 2 ^ p.2.2.length := Nat.lt_of_le_of_lt Nat.and_le_left (fitsTo_lt _ _ _)
  have hf16 : fitsN p s.1 &&& st < 65536 := Nat.lt_of_le_of_lt Nat.and_le_left hfl
  have hr : Hid (cutsN p s.1 st = if fitsN p s.1 &&& st = 0 then true else ((p.2.2[Lib.ctz 16 (fitsN p s.1 &&& st)]?).map fun x => x.2.2.1.op == 124).getD true) := hide rfl
  generalize hfd : fitsN p s.1 &&& st = f at *
  by_cases h0 : f = 0
  · subst h0
    have hfin : Hid (cutsN p s.1 st = true) := hide (by rw [unhide hr, if_pos rfl])
    have hand2 : bits .and .u16 ((fitsN p s.1 : Nat) : Int) (st : Int) = 0 := hand
    clear hMac hoS hoT hown hmap hBM c0 c2 cf hG hi sg1 sg2 sg3 hp hT hr hfd hand
    go_enter Tryz.func96, Tryz.ntmps96
    go_wp2
    go_quiet (fail)
    go_wp2
    go_ret
    exact ⟨by rw [unhide hfin]; rfl, _, rfl⟩
  · obtain ⟨q, hq⟩ := ctz_parts16 h0 hf16
    have hk : Lib.ctz 16 f < p.2.2.length := by
      have hb := ctz_bit hq
      by_cases h : Lib.ctz 16 f < p.2.2.length
      · exact h
      · rw [Nat.testBit_lt_two_pow (Nat.lt_of_lt_of_le hlt (Nat.pow_le_pow_right (by decide) (by omega)))] at hb
        cases hb
    have htz := fun (W : World) (hW : Below w.heap.size w W) => tz16_any f hf16 h0 W (hT.below hW hT.2)
    generalize hkd : Lib.ctz 16 f = k at *
    obtain ⟨gs, x, rfl, hx, hgs, d0, d1, d2⟩ := side_cells hoS k hk
    have hfin : Hid (cutsN p s.1 st = (x.2.2.1.op == 124)) := hide (by rw [unhide hr, if_neg h0, hx]; rfl)
    have hf0 : ((f : Int) == 0) = false := by simp; omega
    have HTZ := hide htz
    clear hMac hoS hoT hown hmap hBM c0 c2 cf hG hi sg1 sg2 sg3 hp hT hr hfd d0 d1 hx hq hkd htz h0
    go_enter Tryz.func96, Tryz.ntmps96
    go_wp2
    go_quiet ((go_at_call 135; exact (unhide HTZ _ (below_drewN (Below.refl _ _) _)).mono (fun _ _ h => ⟨h.1, _, h.2.symm⟩)))
    go_wp2
    go_ret
    exact ⟨by rw [unhide hfin]; rfl, _, rfl⟩
end Go.Proofs.YtbppbejigedioabGreatDoor
/- The machine: cuts. -/
namespace Go.Proofs.YtbppbejigedioabGreatDoor
open Go.RowKit Go.Maps

/-- What the machine is run over: the characters with their symbols, and the sets it comes to. -/
structure RunOk (p : Nat × Ms × List Sd) (its : List KItem) (rs : List PLn) (cs : List Cu.Chr) (syms : List Nat) (run : Nat → Nat) (lns : List Cu.Ln) : Prop where
  len : syms.length = cs.length
  sym : ∀ (i : Nat) (x : Cu.Chr), cs[i]? = some x → ∃ k, syms[i]? = some k ∧ symOf its x.2.2 = (k : Int) ∧ k < 27
  zero : run 0 = 0
  step : ∀ (n k : Nat), syms[n]? = some k → run (n + 1) = stepP p (run n) k
  cut : ∀ (n : Nat) (x : Cu.Chr), 0 < n → cs[n]? = some x → cutsN p (run n) (stN rs (symOf its x.2.2).toNat (symB its (cs.drop (n + 1)))) = Cu.cutAt lns cs n
  pos : ∀ (n : Nat) (x : Cu.Chr), cs[n]? = some x → (x.1 = 0 ↔ n = 0)
  n12 : rs.length ≤ 12
/-- The machine behind n characters, with K states at most ahead of them. -/
def RunTo (p : Nat × Ms × List Sd) (run : Nat → Nat) (K M mb : Nat) (w : World) (n : Nat) (v : Value) (wr : World) : Prop :=
  ∃ (j : Nat) (sts : List St) (s : St), v = .int .i64 j ∧ RunAt wr M mb p sts ∧ Good p sts ∧ sts.length ≤ K + n ∧ 1 ≤ j ∧ sts[j]? = some s ∧ s.1 = run n ∧ FrmR M mb w wr
theorem Tz.frm {M mb : Nat} {w w' : World} (h : Tz w) (hf : FrmR M mb w w') (h3 : 4 < mb) : Tz w' := h.below hf.1 h3

/-- The program's cuts. -/
def mOut (lns : List Cu.Ln) (cs : List Cu.Chr) (T : Nat) : List Nat := if T = 0 then [] else Cu.cutsTo lns cs cs.length ++ [T]
theorem RunTo.base {p : Nat × Ms × List Sd} {run : Nat → Nat} {K M mb n : Nat} {w W wr : World} {v : Value} (h : RunTo p run K M mb W n v wr) (hf : FrmR M mb w W) : RunTo p run K M mb w n v wr := by
  obtain ⟨j, sts, s, h1, h2, h3, h4, h5, h6, h7, h8⟩ := h
  exact ⟨j, sts, s, h1, h2, h3, h4, h5, h6, h7, hf.trans h8⟩
theorem RunTo.frm {p : Nat × Ms × List Sd} {run : Nat → Nat} {K M mb n : Nat} {w wr : World} {v : Value} (h : RunTo p run K M mb w n v wr) : FrmR M mb w wr := by
  obtain ⟨j, sts, s, h1, h2, h3, h4, h5, h6, h7, h8⟩ := h
  exact h8
theorem RunTo.below {p : Nat × Ms × List Sd} {run : Nat → Nat} {K M mb n : Nat} {w wr W : World} {v : Value} (h : RunTo p run K M mb w n v wr) (hb : Below wr.heap.size wr W) : RunTo p run K M mb w n v W := by
  obtain ⟨j, sts, s, h1, h2, h3, h4, h5, h6, h7, h8⟩ := h
  have := h2.lt
  exact ⟨j, sts, s, h1, h2.below hb, h3, h4, h5, h6, h7, h8.trans (FrmR.of hb (by omega) (by omega))⟩
theorem own_cap {w : World} {base s n c : Nat} {e : TypeId} {a : Option Addr} {xs : List Value} (ho : w.ownsRow base e s (.slice a n c) n xs) : n ≤ c := by
  rcases ho.2 with ⟨hv, hn⟩ | ⟨g, cap, cur, hv, _, _, hc, _⟩
  · omega
  · simp only [Value.slice.injEq, true_and] at hv
    omega
theorem run_next {p : Nat × Ms × List Sd} {its : List KItem} {rs : List PLn} {cs : List Cu.Chr} {syms : List Nat} {run : Nat → Nat} {lns : List Cu.Ln} {K M mb n k : Nat} {w w1 w2 : World} {sts : List St} {s : St} {e : Ending} (hr : RunOk p its rs cs syms run lns) (hk : syms[n]? = some k) (hl : sts.length ≤ K + n) (hm : s.1 = run n) (hf : FrmR M mb w w1) (h : FindPost p sts M mb (stepP p s.1 k) w1 e w2) :
    ∃ j : Nat, e = .returned (.int .i64 j) ∧ RunTo p run K M mb w (n + 1) (.int .i64 j) w2 ∧ FrmR M mb w1 w2 := by
  obtain ⟨j, sts2, s2, rfl, h1, h2, h3, h4, h5, h6, h7⟩ := h
  refine ⟨j, rfl, ⟨j, sts2, s2, rfl, h1, h2, by have := h3.2.1; omega, h5, h6, by rw [h7, hm, hr.step n k hk], hf.trans h4⟩, h4⟩
theorem RunTo.grown {p : Nat × Ms × List Sd} {run : Nat → Nat} {K M mb n m c : Nat} {w W w3 : World} {v : Value} {a : Option Addr} {xs : List Value} (h : RunTo p run K M mb w n v W) (ho : W.ownsRow w.heap.size 3 1 (.slice a m c) m xs) (hg : W.grownBy w3 (Value.slice a m c).ownBlock) (hmb : mb ≤ w.heap.size) : RunTo p run K M mb w n v w3 := by
  obtain ⟨j, sts, s, h1, h2, h3, h4, h5, h6, h7, h8⟩ := h
  have hMl := h2.lt
  obtain ⟨as_, at_, cs, ct, D, hMac, hoS, hoT, hown, hmap, hmbM⟩ := h2
  obtain ⟨vbM, hBM⟩ := hMac.blk
  have hMne := hBM.ne_row ho (by decide)
  have hne : some mb ≠ (Value.slice a m c).ownBlock := by
    obtain ⟨es, q, hes, _⟩ := hown
    exact map_ne_row hes ho
  refine ⟨j, sts, s, h1, ⟨as_, at_, cs, ct, D, hMac.grown ho hg (by decide) (by decide), own_grown' hoS ho hg (by decide), own_grown' hoT ho hg (by decide), hown.kept hg hne, hmap, hmbM⟩, h3, h4, h5, h6, h7, ?_⟩
  have hs := h8.size
  refine ⟨h8.1.grown hg (by omega) (fun k hk => by have := (ho.lt k hk).1; omega), ?_, fun k hk e1 e2 e3 => ?_, fun k hk => ?_, fun i hi => (World.cell?_of_block (a := ⟨M, i, none⟩) (hg.block M hMl.1 hMne)).trans (h8.2.2.2.2 i hi)⟩
  · intro k o hk hn
    have hkl : k < w.heap.size := (Array.getElem?_eq_some_iff.1 hk).1
    have h9 := h8.2.1 k o hk hn
    rw [hg.block k (by omega) ?_]
    · exact h9
    · intro e
      have := (ho.lt k e.symm).1
      omega
  · rw [hg.block k (by omega) (fun e => by have := (ho.lt k e.symm).1; omega)]
    exact h8.2.2.1 k hk e1 e2 e3
  · rw [rowOf_same (hg.block M hMl.1 hMne)] at hk
    exact h8.2.2.2.1 k hk
theorem step_to {p : Nat × Ms × List Sd} {its : List KItem} {rs : List PLn} {cs : List Cu.Chr} {syms : List Nat} {run : Nat → Nat} {lns : List Cu.Ln} {K M mb n k j : Nat} {w W : World} (hr : RunOk p its rs cs syms run lns) (hk : syms[n]? = some k) (hk27 : k < 27) (hp : MacOk p) (hT : Tz w) (h3 : 4 < mb) (h : RunTo p run K M mb w n (.int .i64 j) W) (hn : K + n ≤ 4194304) :
    Calls Tryz.prog 97 #[.pointer (some ⟨M, 0, none⟩), .int .i64 j, .int .i64 k] W fun e w2 => ∃ j2 : Nat, e = .returned (.int .i64 j2) ∧ RunTo p run K M mb w (n + 1) (.int .i64 j2) w2 ∧ FrmR M mb W w2 := by
  obtain ⟨j', sts, s, e1, hR, hG, hl, hj, hjs, hm, hf⟩ := h
  simp only [Value.int.injEq, true_and] at e1
  obtain rfl : j = j' := by omega
  refine (step_any M mb j k p sts s W hR hG hp (hT.frm hf h3) h3 hj hjs hk27 (by omega)).mono ?_
  intro e w2 h2
  exact run_next hr hk hl hm hf h2
/-- The parts, one behind the other: each a slice of characters, with what is behind it. -/
def PartsAt (w : World) (base : Nat) (its : List KItem) (rs : List PLn) : List (List Cu.Chr) → List Value → Prop
  | [], [] => True
  | l :: ls, v :: vs => (∃ (a : Option Addr) (c : Nat), v = .slice a l.length c ∧ w.ownsRow base 141 3 (.slice a l.length c) l.length (spCells its rs l ls.flatten)) ∧ PartsAt w base its rs ls vs
  | _, _ => False
theorem PartsAt.get {w : World} {base : Nat} {its : List KItem} {rs : List PLn} {P : List (List Cu.Chr)} {vs : List Value} (h : PartsAt w base its rs P vs) {k : Nat} (hk : k < P.length) :
    ∃ (l : List Cu.Chr) (a : Option Addr) (c : Nat), P[k]? = some l ∧ vs[k]? = some (.slice a l.length c) ∧ w.ownsRow base 141 3 (.slice a l.length c) l.length (spCells its rs l (P.drop (k + 1)).flatten) := by
  induction P generalizing k vs with
  | nil => simp at hk
  | cons l ls ih =>
    cases vs with
    | nil => exact absurd h (by simp [PartsAt])
    | cons v vs =>
      obtain ⟨⟨a, c, rfl, ho⟩, hr⟩ := h
      cases k with
      | zero => exact ⟨l, a, c, rfl, rfl, ho⟩
      | succ k =>
        obtain ⟨l', a', c', h1, h2, h3⟩ := ih hr (k := k) (by simpa using hk)
        exact ⟨l', a', c', h1, h2, h3⟩
theorem parts_split {P : List (List Cu.Chr)} {k : Nat} {l : List Cu.Chr} (hl : P[k]? = some l) : P = P.take k ++ l :: P.drop (k + 1) := by
  have hk : k < P.length := (List.getElem?_eq_some_iff.1 hl).1
  have h2 : P[k] = l := (List.getElem?_eq_some_iff.1 hl).2
  conv => lhs; rw [← List.take_append_drop k P]
  rw [← List.getElem_cons_drop hk, h2]
theorem parts_len {P : List (List Cu.Chr)} {k : Nat} {l : List Cu.Chr} (hl : P[k]? = some l) : (P.take (k + 1)).flatten.length = (P.take k).flatten.length + l.length := by
  rw [List.take_add_one, hl]
  simp
theorem parts_at {P : List (List Cu.Chr)} {k i : Nat} {l : List Cu.Chr} {x : Cu.Chr} (hl : P[k]? = some l) (hx : l[i]? = some x) :
    P.flatten[(P.take k).flatten.length + i]? = some x ∧ P.flatten.drop ((P.take k).flatten.length + i + 1) = l.drop (i + 1) ++ (P.drop (k + 1)).flatten := by
  have hi : i < l.length := (List.getElem?_eq_some_iff.1 hx).1
  have e : P.flatten = (P.take k).flatten ++ (l ++ (P.drop (k + 1)).flatten) := by
    conv => lhs; rw [parts_split hl]
    simp
  generalize (P.take k).flatten = pre at *
  generalize (P.drop (k + 1)).flatten = suf at *
  rw [e]
  constructor
  · rw [List.getElem?_append_right (by omega), show pre.length + i - pre.length = i by omega, List.getElem?_append_left hi]
    exact hx
  · rw [show pre.length + i + 1 = pre.length + (i + 1) by omega, List.drop_append, List.drop_eq_nil_of_le (by omega), List.nil_append, show pre.length + (i + 1) - pre.length = i + 1 by omega, List.drop_append_of_le_length (by omega)]
/-- The cuts among q characters, behind the first b. -/
def Cu.cutsFrom (l : List Cu.Ln) (cs : List Cu.Chr) (b q : Nat) : List Nat := (Cu.cutsTo l cs (b + q)).drop (Cu.cutsTo l cs b).length
theorem Cu.cutsTo_fwd (l : List Cu.Ln) (cs : List Cu.Chr) (b q : Nat) : ∃ r, Cu.cutsTo l cs (b + q) = Cu.cutsTo l cs b ++ r := by
  induction q with
  | zero => exact ⟨[], by simp⟩
  | succ q ih =>
    obtain ⟨r, hr⟩ := ih
    exact ⟨_, by rw [← Nat.add_assoc, Cu.cutsTo, hr, List.append_assoc]⟩
theorem Cu.cutsFrom_zero (l : List Cu.Ln) (cs : List Cu.Chr) (b : Nat) : Cu.cutsFrom l cs b 0 = [] := by unfold Cu.cutsFrom; simp
theorem Cu.cutsFrom_all (l : List Cu.Ln) (cs : List Cu.Chr) (b q : Nat) : Cu.cutsTo l cs b ++ Cu.cutsFrom l cs b q = Cu.cutsTo l cs (b + q) := by
  obtain ⟨r, hr⟩ := Cu.cutsTo_fwd l cs b q
  unfold Cu.cutsFrom
  rw [hr]; simp
theorem Cu.cutsFrom_len (l : List Cu.Ln) (cs : List Cu.Chr) (b q : Nat) : (Cu.cutsFrom l cs b q).length ≤ b + q := by
  have := Cu.cutsTo_len l cs (b + q)
  unfold Cu.cutsFrom
  rw [List.length_drop]
  omega
theorem Cu.cutsFrom_yes {l : List Cu.Ln} {cs : List Cu.Chr} {b q : Nat} {x : Cu.Chr} (hx : cs[b + q]? = some x) (h : Cu.cutAt l cs (b + q) = true) : Cu.cutsFrom l cs b (q + 1) = Cu.cutsFrom l cs b q ++ [x.1] := by
  obtain ⟨r, hr⟩ := Cu.cutsTo_fwd l cs b q
  unfold Cu.cutsFrom
  rw [← Nat.add_assoc, Cu.cutsTo_yes hx h, hr]
  simp
theorem Cu.cutsFrom_no {l : List Cu.Ln} {cs : List Cu.Chr} {b q : Nat} (h : Cu.cutAt l cs (b + q) = false) : Cu.cutsFrom l cs b (q + 1) = Cu.cutsFrom l cs b q := by
  unfold Cu.cutsFrom
  rw [← Nat.add_assoc, Cu.cutsTo_no h]
theorem drop_at {cs l suf : List Cu.Chr} {b q : Nat} {x : Cu.Chr} (h : cs.drop b = l ++ suf) (hx : l[q]? = some x) : cs[b + q]? = some x ∧ cs.drop (b + q + 1) = l.drop (q + 1) ++ suf := by
  have hq : q < l.length := (List.getElem?_eq_some_iff.1 hx).1
  constructor
  · rw [← List.getElem?_drop, h, List.getElem?_append_left hq]; exact hx
  · rw [Nat.add_assoc, ← List.drop_drop, h, List.drop_append_of_le_length (by omega)]
/-- Where the machine is and what it has told. -/
def AllAt (p : Nat × Ms × List Sd) (run : Nat → Nat) (K M mb : Nat) (w : World) (n : Nat) (out : List Nat) (v x : Value) (wr : World) : Prop :=
  ∃ (cap : Nat) (a : Option Addr), v = .slice a out.length cap ∧ wr.ownsRow w.heap.size 3 1 (.slice a out.length cap) out.length (intCells out) ∧ RunTo p run K M mb w n x wr
def MCutsRes (out : List Nat) (M mb : Nat) (w : World) (e : Ending) (w' : World) : Prop :=
  ∃ (a : Option Addr) (cap : Nat), e = .returned (.slice a out.length cap) ∧ w'.ownsRow w.heap.size 3 1 (.slice a out.length cap) out.length (intCells out) ∧ FrmR M mb w w'
theorem part_cell {M mb base n j : Nat} {w W : World} {g c : Nat} {a : Option Addr} {xs : List Value} {v : Value} (ho : w.ownsRow base 133 1 (.slice a n c) n xs) (hf : FrmR M mb w W) (hj : j < n) (hv : xs[j]? = some v) (ha : a = some ⟨g, 0, none⟩) : W.cell? ⟨g, j, none⟩ = some v := by
  subst ha
  have h2 := hf.own ho (by decide) (by decide)
  rw [h2.cellAt j (by omega)]
  exact hv
/-- A place's bit, told: 0 is a cut; else the machine tells. -/
theorem cut_zero {p : Nat × Ms × List Sd} {its : List KItem} {rs : List PLn} {cs : List Cu.Chr} {syms : List Nat} {run : Nat → Nat} {lns : List Cu.Ln} {n : Nat} {x : Cu.Chr} (hr : RunOk p its rs cs syms run lns) (hx : cs[n]? = some x) (h0 : x.1 = 0) : Cu.cutAt lns cs n = true := by
  obtain rfl := (hr.pos n x hx).1 h0
  rfl
/-- The rounds of pass. -/
def PassRel (p : Nat × Ms × List Sd) (run : Nat → Nat) (its : List KItem) (rs : List PLn) (lns : List Cu.Ln) (cs l suf : List Cu.Chr) (out0 : List Nat) (K M mb b base cl : Nat) (al : Option Addr) (w : World) (q : Nat) (v x : Value) (wr : World) : Prop :=
  AllAt p run K M mb w (b + q) (out0 ++ Cu.cutsFrom lns cs b q) v x wr ∧ wr.ownsRow base 141 3 (.slice al l.length cl) l.length (spCells its rs l suf)

set_option maxRecDepth 100000 in
set_option maxHeartbeats 2000000 in
theorem mpass_any (M mb K b : Nat) (p : Nat × Ms × List Sd) (its : List KItem) (rs : List PLn) (cs l suf : List Cu.Chr) (syms : List Nat) (run : Nat → Nat) (lns : List Cu.Ln) (al : Option Addr) (cl base : Nat) (out0 : List Nat) (v0 x0 : Value) (w wr : World) (hA : AllAt p run K M mb w b out0 v0 x0 wr) (hp : MacOk p) (hT : Tz w) (h3 : 4 < mb) (hmb : mb ≤ w.heap.size)
    (hr : RunOk p its rs cs syms run lns) (ho : wr.ownsRow base 141 3 (.slice al l.length cl) l.length (spCells its rs l suf)) (hcs : cs.drop b = l ++ suf) (hl : b + l.length ≤ 1048576) (hK : K ≤ 2097170) (ho0 : out0.length ≤ 2097152) :
    Calls Tryz.prog 57 #[.pointer (some ⟨M, 0, none⟩), x0, .slice al l.length cl, v0] wr fun e w' => ∃ v x, e = .returned (.tuple #[x, v]) ∧ AllAt p run K M mb w (b + l.length) (out0 ++ Cu.cutsFrom lns cs b l.length) v x w' := by
  obtain ⟨i0, ki, kz0, kz1, kz2⟩ := info_parts Tryz.info3
  have HP := hide hp
  have HT := hide hT
  have HRO := hide hr
  have HCS := hide hcs
  have HMB := hide hmb
  have hin : Hid (PassRel p run its rs lns cs l suf out0 K M mb b base cl al w 0 v0 x0 wr) := hide ⟨by rw [Cu.cutsFrom_zero, List.append_nil]; exact hA, ho⟩
  obtain ⟨cap0, a0, rfl, _, j0, sts0, s0, rfl, _⟩ := hA
  clear hr hp hT hcs hmb ho
  go_enter Tryz.func57, Tryz.ntmps57
  go_wp2
  go_loopw [1, 3, 14] (fun x v i wr => ∃ q : Nat, q ≤ l.length ∧ i = .int .i64 q ∧ PassRel p run its rs lns cs l suf out0 K M mb b base cl al w q v x wr) (fun _ _ i _ => 1048578 - (intOf i).toNat)
  case atStart =>
    go_light
    exact ⟨0, Nat.zero_le _, rfl, unhide hin⟩
  case round =>
    obtain ⟨q, hq, rfl, ⟨capq, aq, rfl, hoq, htq⟩, horow⟩ := hrel
    by_cases hql : q < l.length
    · have hol := Cu.cutsFrom_len lns cs b q
      have hoL : (out0 ++ Cu.cutsFrom lns cs b q).length = out0.length + (Cu.cutsFrom lns cs b q).length := List.length_append
      obtain ⟨g, x, rfl, hx, hgx, c0, c1, c2⟩ := sp_cells horow q hql
      obtain ⟨hcx, hdx⟩ := drop_at (unhide HCS) hx
      rw [← hdx] at c2
      obtain ⟨sy, hsy1, hsy2, hsy3⟩ := (unhide HRO).sym _ x hcx
      have hstl := stN_lt (unhide HRO).n12 (symOf its x.2.2).toNat (symB its (cs.drop (b + q + 1)))
      have hcut := fun (h : 0 < b + q) => (unhide HRO).cut _ x h hcx
      have hpos := (unhide HRO).pos _ x hcx
      generalize stN rs (symOf its x.2.2).toNat (symB its (cs.drop (b + q + 1))) = st at *
      rw [hsy2] at c1
      have HCX := hide hcx
      have hsz := htq.frm.size
      have HROW := hide horow
      have hstep := fun (W : World) (j : Nat) (hW : RunTo p run K M mb w (b + q) (.int .i64 j) W) => step_to (unhide HRO) hsy1 hsy3 (unhide HP) (unhide HT) h3 hW (by omega : K + (b + q) ≤ 4194304)
      have e3y : Hid (Cu.cutAt lns cs (b + q) = true → out0 ++ Cu.cutsFrom lns cs b (q + 1) = (out0 ++ Cu.cutsFrom lns cs b q) ++ [x.1]) := hide (fun h => by rw [Cu.cutsFrom_yes (unhide HCX) h, List.append_assoc])
      have e3n : Hid (Cu.cutAt lns cs (b + q) = false → out0 ++ Cu.cutsFrom lns cs b (q + 1) = out0 ++ Cu.cutsFrom lns cs b q) := hide (fun h => by rw [Cu.cutsFrom_no h])
      have hnew : Hid (∀ (out : List Nat) (a' : Option Addr) (cap' j2 : Nat) (w2 : World), out0 ++ Cu.cutsFrom lns cs b (q + 1) = out → w2.ownsRow w.heap.size 3 1 (.slice a' out.length cap') out.length (intCells out) → RunTo p run K M mb w (b + q + 1) (.int .i64 j2) w2 → w2.ownsRow base 141 3 (.slice (some ⟨g, 0, none⟩) l.length cl) l.length (spCells its rs l suf) →
          ∃ q' : Nat, q' ≤ l.length ∧ Value.int .i64 ((q : Int) + 1) = .int .i64 q' ∧ PassRel p run its rs lns cs l suf out0 K M mb b base cl (some ⟨g, 0, none⟩) w q' (.slice a' out.length cap') (.int .i64 j2) w2) := hide (fun out a' cap' j2 w2 he h1 h2 h4 => ⟨q + 1, by omega, by go_num, ⟨cap', a', by rw [he], by rw [he]; exact h1, h2⟩, h4⟩)
      generalize out0 ++ Cu.cutsFrom lns cs b q = out at *
      have HOQ := hide hoq
      have HTQ := hide htq
      obtain ⟨j, stsn, s, rfl, hRn, hGn, hln, hj, hjs, hm, hf⟩ := htq
      have hcall := cutsAt_any M mb j st p stsn s (wr.alloc (.cells #[.int .i64 x.1, .int .i64 sy, .int .u16 st] 141)) (hRn.below ((Below.refl _ _).alloc (Nat.le_refl _) _)) hGn (unhide HP) (((unhide HT).frm hf h3).below ((Below.refl _ _).alloc (Nat.le_refl _) _) (by have := hRn.lt; omega)) hj hjs (by omega) hstl
      rw [hm] at hcall
      have HSTEP := hide (fun W hW => hstep W j hW)
      have HAL := hide ((unhide HTQ).below ((Below.refl _ _).alloc (Nat.le_refl _) (.cells #[.int .i64 x.1, .int .i64 sy, .int .u16 st] 141)))
      have HOA := hide ((unhide HOQ).alloc (.cells #[.int .i64 x.1, .int .i64 sy, .int .u16 st] 141))
      have HRA := hide ((unhide HROW).alloc (.cells #[.int .i64 x.1, .int .i64 sy, .int .u16 st] 141))
      have hgn : g ≠ wr.heap.size := by omega
      have hcap : (out.length + 1) * 8 ≤ 140737488355328 := by omega
      have hmax : out.length + 1 ≤ maxLen := by unfold maxLen; omega
      have hlen1 : ∀ y : Nat, (out ++ [y]).length = out.length + 1 := fun y => by simp
      clear hoq hRn hGn hjs hm hf hcx hdx hsy1 hsy2 hx hstep hln hj horow hol hoL
      by_cases hz : x.1 = 0
      · have hct := cut_zero (unhide HRO) (unhide HCX) hz
        have e3 := hide (unhide e3y hct)
        have dz : ((x.1 : Int) == 0) = true := by rw [hz]; rfl
        clear hct hz hcall hcut hpos
        go_wp2_with (at_builtin; refine wpList_append_own _ rfl (.tmp 28) (.tmp 31) 30 rfl w.heap.size 3 i0 (.int .i64 0) 1 8 Tryz.underlying30 ki kz0 kz1 kz2 rfl (by decide) (.slice aq out.length capq) out.length (intCells out) rfl ((unhide HOA).alloc _) ⟨wr.heap.size + 1, 0, none⟩ 1 1 [.int .i64 x.1] rfl rfl (news_new _ _ (by simp) _ _) (one1 _) hmax hcap (by simp; omega) ?_; intro v' w4 hown' hgrow _; refine Hid.out ?_)
        refine hide ?_
        obtain ⟨a', cap', hv'⟩ := own_form hown'
        subst hv'
        have hto4 := ((unhide HAL).below ((Below.refl _ _).alloc (Nat.le_refl _) _)).grown ((unhide HOA).alloc _) hgrow (unhide HMB)
        have hB3 := (Blk.new wr [.int .i64 x.1, .int .i64 sy, .int .u16 st] 141).alloc (.cells #[.int .i64 x.1] 3)
        have hB4 := hB3.grown hgrow (hB3.ne_row ((unhide HOA).alloc _) (by decide))
        have d1 : w4.cell? ⟨wr.heap.size, 1, none⟩ = some (.int .i64 sy) := hB4.cell 1
        have HR4 := hide (own_grown' ((unhide HRA).alloc _) ((unhide HOA).alloc _) hgrow (by decide))
        have HTO4 := hide hto4
        have HOO4 := hide hown'
        clear hto4 hown' hgrow hB4 hB3
        go_wp2_with fail
        refine (unhide HSTEP w4 (unhide HTO4)).mono ?_
        rintro e w2 ⟨j2, rfl, hto2, hf2⟩
        have hrel2 := hide (unhide hnew _ a' cap' j2 w2 (unhide e3) (by rw [hlen1, intCells_snoc]; exact hf2.own (unhide HOO4) (by decide) (by decide)) hto2 (hf2.own (unhide HR4) (by decide) (by decide)))
        rw [hlen1] at hrel2
        clear hto2 hf2
        go_wp2
        go_roundw
        case rel => first | exact unhide hrel2 | ((repeat apply Exists.intro); exact ⟨unhide hrel2, rfl⟩)
        case measure => simp [intOf]; omega
      · have dz : ((x.1 : Int) == 0) = false := by simp; omega
        have hbq : 0 < b + q := Nat.pos_of_ne_zero (fun h => hz (hpos.2 h))
        rw [hcut hbq] at hcall
        have HC := hide hcall
        clear hz hcall hcut hpos
        go_wp2_with fail
        refine (unhide HC).mono ?_
        rintro e wn ⟨rfl, nq, hwn⟩
        have hBn : Blk wn wr.heap.size [.int .i64 x.1, .int .i64 sy, .int .u16 st] 141 := by rw [hwn]; exact (Blk.new wr _ _).drewN nq
        have hbn : Below (wr.alloc (.cells #[.int .i64 x.1, .int .i64 sy, .int .u16 st] 141)).heap.size (wr.alloc (.cells #[.int .i64 x.1, .int .i64 sy, .int .u16 st] 141)) wn := by rw [hwn]; exact below_drewN (Below.refl _ _) nq
        have hsn : wn.heap.size = wr.heap.size + 1 := by rw [hwn]; show (wr.alloc _).heap.size = _; simp
        have HAN := hide ((unhide HAL).below hbn)
        have HON := hide (own_below (unhide HOA) hbn)
        have HRN := hide (own_below (unhide HRA) hbn)
        have dn0 : wn.cell? ⟨wr.heap.size, 0, none⟩ = some (.int .i64 x.1) := hBn.cell 0
        have dn1 : wn.cell? ⟨wr.heap.size, 1, none⟩ = some (.int .i64 sy) := hBn.cell 1
        have HBN := hide hBn
        have hln1 : wr.heap.size < wn.heap.size := by omega
        have hln2 : wr.heap.size ≠ wn.heap.size := by omega
        have hsw : w.heap.size ≤ wn.heap.size := by omega
        clear hwn hBn hbn hsn
        cases hct : Cu.cutAt lns cs (b + q) with
        | false =>
          have e3 := hide (unhide e3n hct)
          clear hct
          go_wp2_with fail
          refine (unhide HSTEP _ (unhide HAN)).mono ?_
          rintro e w2 ⟨j2, rfl, hto2, hf2⟩
          have hrel2 := hide (unhide hnew _ aq capq j2 w2 (unhide e3) (hf2.own (unhide HON) (by decide) (by decide)) hto2 (hf2.own (unhide HRN) (by decide) (by decide)))
          clear hto2 hf2
          go_wp2
          go_roundw
          case rel => first | exact unhide hrel2 | ((repeat apply Exists.intro); exact ⟨unhide hrel2, rfl⟩)
          case measure => simp [intOf]; omega
        | true =>
          have e3 := hide (unhide e3y hct)
          clear hct
          go_wp2_with (at_builtin; refine wpList_append_own _ rfl (.tmp 28) (.tmp 31) 30 rfl w.heap.size 3 i0 (.int .i64 0) 1 8 Tryz.underlying30 ki kz0 kz1 kz2 rfl (by decide) (.slice aq out.length capq) out.length (intCells out) rfl ((unhide HON).alloc _) ⟨wn.heap.size, 0, none⟩ 1 1 [.int .i64 x.1] rfl rfl (news_new _ _ rfl _ _) (one1 _) hmax hcap (by simp; omega) ?_; intro v' w4 hown' hgrow _; refine Hid.out ?_)
          refine hide ?_
          obtain ⟨a', cap', hv'⟩ := own_form hown'
          subst hv'
          have hto4 := ((unhide HAN).below ((Below.refl _ _).alloc (Nat.le_refl _) _)).grown ((unhide HON).alloc _) hgrow (unhide HMB)
          have hB3 := (unhide HBN).alloc (.cells #[.int .i64 x.1] 3)
          have hB4 := hB3.grown hgrow (hB3.ne_row ((unhide HON).alloc _) (by decide))
          have d1 : w4.cell? ⟨wr.heap.size, 1, none⟩ = some (.int .i64 sy) := hB4.cell 1
          have HR4 := hide (own_grown' ((unhide HRN).alloc _) ((unhide HON).alloc _) hgrow (by decide))
          have HTO4 := hide hto4
          have HOO4 := hide hown'
          clear hto4 hown' hgrow hB4 hB3
          go_wp2_with fail
          refine (unhide HSTEP w4 (unhide HTO4)).mono ?_
          rintro e w2 ⟨j2, rfl, hto2, hf2⟩
          have hrel2 := hide (unhide hnew _ a' cap' j2 w2 (unhide e3) (by rw [hlen1, intCells_snoc]; exact hf2.own (unhide HOO4) (by decide) (by decide)) hto2 (hf2.own (unhide HR4) (by decide) (by decide)))
          rw [hlen1] at hrel2
          clear hto2 hf2
          go_wp2
          go_roundw
          case rel => first | exact unhide hrel2 | ((repeat apply Exists.intro); exact ⟨unhide hrel2, rfl⟩)
          case measure => simp [intOf]; omega
    · obtain rfl : q = l.length := by omega
      have hfin := hide (show AllAt p run K M mb w (b + l.length) (out0 ++ Cu.cutsFrom lns cs b l.length) (.slice aq (out0 ++ Cu.cutsFrom lns cs b l.length).length capq) _ wr from ⟨capq, aq, rfl, hoq, htq⟩)
      obtain ⟨j, stsn, s, rfl, _⟩ := htq
      clear hoq horow
      go_wp2
      go_ret2
      exact ⟨_, _, rfl, unhide hfin⟩

set_option maxRecDepth 100000 in
set_option maxHeartbeats 2000000 in
theorem mcuts_any (M mb : Nat) (p : Nat × Ms × List Sd) (sts : List St) (its : List KItem) (rs : List PLn) (P : List (List Cu.Chr)) (vs : List Value) (cs : List Cu.Chr) (syms : List Nat) (run : Nat → Nat) (lns : List Cu.Ln) (a : Option Addr) (cap base base2 T : Nat) (w : World) (hR : RunAt w M mb p sts) (hG : Good p sts) (h1 : sts.length ≤ 1) (hp : MacOk p) (hT : Tz w) (h3 : 4 < mb)
    (ho : w.ownsRow base2 133 1 (.slice a P.length cap) P.length vs) (hP : PartsAt w base its rs P vs) (hcs : P.flatten = cs) (hr : RunOk p its rs cs syms run lns) (hl : cs.length ≤ 1048576) (hPl : P.length ≤ 1048577) :
    Calls Tryz.prog 53 #[.pointer (some ⟨M, 0, none⟩), .slice a P.length cap, .int .i64 T] w fun e w' => MCutsRes (mOut lns cs T) M mb w e w' := by
  obtain ⟨i0, ki, kz0, kz1, kz2⟩ := info_parts Tryz.info3
  have hmbl := hR.lt
  by_cases h0 : T = 0
  · have d0 : ((T : Int) == 0) = true := by rw [h0]; rfl
    have hfin : Hid (MCutsRes (mOut lns cs T) M mb w (.returned (.slice none 0 0)) w) := hide (by unfold mOut; rw [if_pos h0]; exact ⟨none, 0, rfl, World.ownsRow_nil _ _ _ _, FrmR.refl _ _ _⟩)
    clear h0 hR hG ho hP hr hp hT
    go_enter Tryz.func53, Tryz.ntmps53
    go_wp2
    go_ret
    exact unhide hfin
  · have d0 : ((T : Int) == 0) = false := by rw [beq_eq_false_iff_ne]; omega
    have HST := hide (start_any M mb p sts w hR hG hp (by omega))
    have HO := hide ho
    have HPA := hide hP
    have HRZ := hide hr.zero
    have HCS := hide hcs
    have HOUT : Hid (mOut lns cs T = Cu.cutsTo lns cs cs.length ++ [T]) := hide (by unfold mOut; rw [if_neg h0])
    have HMB := hide (show mb ≤ w.heap.size by omega)
    have HPASS := hide (fun (b : Nat) (l suf : List Cu.Chr) (al : Option Addr) (cl : Nat) (out0 : List Nat) (v0 x0 : Value) (wr : World) (hA : AllAt p run 2 M mb w b out0 v0 x0 wr) (hro : wr.ownsRow base 141 3 (.slice al l.length cl) l.length (spCells its rs l suf)) (hd : cs.drop b = l ++ suf) (hbl : b + l.length ≤ 1048576) (h0l : out0.length ≤ 2097152) => mpass_any M mb 2 b p its rs cs l suf syms run lns al cl base out0 v0 x0 w wr hA hp hT h3 (by omega) hr hro hd hbl (by decide) h0l)
    clear hR hG ho hP hr hp hT h0 hcs
    go_enter Tryz.func53, Tryz.ntmps53
    go_wp2_with fail
    refine (unhide HST).mono ?_
    rintro e w1 ⟨j0, sts1, s1, rfl, hR1, hG1, hgr1, hf1, hj1, hjs1, hm1⟩
    have hstart : Hid (AllAt p run 2 M mb w 0 (Cu.cutsTo lns cs 0) (.slice none 0 0) (.int .i64 j0) w1) := hide
      ⟨0, none, rfl, World.ownsRow_nil _ _ _ _, j0, sts1, s1, rfl, hR1, hG1, by have := hgr1.2.1; omega, hj1, hjs1, by rw [hm1, unhide HRZ], hf1⟩
    clear hR1 hG1 hgr1 hf1 hj1 hjs1 hm1 HST
    go_wp2
    go_loopw [7, 8, 17] (fun v x i wr => ∃ (k b : Nat) (o : List Nat), k ≤ P.length ∧ i = .int .i64 k ∧ b = (P.take k).flatten.length ∧ o = Cu.cutsTo lns cs b ∧ AllAt p run 2 M mb w b o v x wr) (fun _ _ i _ => 1048578 - (intOf i).toNat)
    case atStart =>
      go_light
      exact ⟨0, 0, Cu.cutsTo lns cs 0, Nat.zero_le _, rfl, by simp, rfl, unhide hstart⟩
    case round =>
      obtain ⟨k, b, o, hk, rfl, hb0, ho0, hall⟩ := hrel
      by_cases hkl : k < P.length
      · obtain ⟨l, al, cl, hl1, hl2, hl3⟩ := (unhide HPA).get hkl
        obtain ⟨gp, hgp⟩ := own_some (unhide HO) (by omega)
        have hpl := parts_len hl1
        have hdrop : cs.drop b = l ++ (P.drop (k + 1)).flatten := by
          rw [hb0, ← unhide HCS]
          conv => lhs; arg 2; rw [parts_split hl1]
          simp
        have hsum : b + l.length ≤ cs.length := by
          have h9 := congrArg List.length hdrop
          rw [List.length_drop, List.length_append] at h9
          have h8 : b ≤ cs.length := by
            rw [hb0, ← unhide HCS]
            conv => rhs; rw [parts_split hl1]
            simp
          omega
        have hol := Cu.cutsTo_len lns cs b
        rw [← ho0] at hol
        obtain ⟨capo, ao, rfl, hoo, hto⟩ := id hall
        have hpc := part_cell (unhide HO) hto.frm hkl hl2 hgp
        have hgl : gp < wr.heap.size := by
          have h9 := (unhide HO)
          rw [hgp] at h9
          have := (own_free h9 0).1
          have := hto.frm.size
          omega
        have hcall := unhide HPASS b l _ al cl o _ _ wr hall (hto.frm.own hl3 (by decide) (by decide)) hdrop (by omega) (by omega)
        obtain ⟨o2, ho2⟩ : ∃ o2, o2 = o ++ Cu.cutsFrom lns cs b l.length := ⟨_, rfl⟩
        obtain ⟨b2, hb2⟩ : ∃ b2, b2 = b + l.length := ⟨_, rfl⟩
        rw [← ho2, ← hb2] at hcall
        have hnx : b2 = (P.take (k + 1)).flatten.length ∧ o2 = Cu.cutsTo lns cs b2 := ⟨by rw [hpl, hb2, hb0], by rw [ho2, ho0, hb2, Cu.cutsFrom_all]⟩
        obtain ⟨j, stsn, s, rfl, hjrest⟩ := hto
        subst hgp
        have HNX := hide hnx
        have HCALL : Hid (Calls Tryz.prog 57 #[.pointer (some ⟨M, 0, none⟩), .int .i64 j, .slice al l.length cl, .slice ao o.length capo] wr fun e w2 => ∃ (a2 : Option Addr) (cap2 j2 : Nat), e = .returned (.tuple #[.int .i64 j2, .slice a2 o2.length cap2]) ∧ AllAt p run 2 M mb w b2 o2 (.slice a2 o2.length cap2) (.int .i64 j2) w2) := hide (hcall.mono fun e w2 ⟨v2, x2, he, hall2⟩ => by
          obtain ⟨cap2, a2, rfl, h3, h4⟩ := id hall2
          obtain ⟨j2, stsn2, s2, rfl, h5⟩ := h4
          exact ⟨a2, cap2, j2, he, hall2⟩)
        clear hoo hl1 hl2 hl3 hjrest hdrop hall hpl hcall hb0 ho0 ho2 hb2 hnx hsum hol
        go_wp2_with fail
        go_at_call 57
        refine (unhide HCALL).mono ?_
        rintro e w2 ⟨a2, cap2, j2, rfl, hall2⟩
        have hfin : Hid (∃ (k' b' : Nat) (o' : List Nat), k' ≤ P.length ∧ Value.int .i64 ((k : Int) + 1) = .int .i64 k' ∧ b' = (P.take k').flatten.length ∧ o' = Cu.cutsTo lns cs b' ∧ AllAt p run 2 M mb w b' o' (.slice a2 o2.length cap2) (.int .i64 j2) w2) := hide
          ⟨k + 1, b2, o2, by omega, by go_num, (unhide HNX).1, (unhide HNX).2, hall2⟩
        clear hall2
        go_wp2
        go_roundw
        case rel => first | exact unhide hfin | ((repeat apply Exists.intro); exact ⟨unhide hfin, rfl⟩)
        case measure => simp [intOf]; omega
      · obtain rfl : k = P.length := by omega
        rw [List.take_length, unhide HCS] at hb0
        subst hb0
        have hol := Cu.cutsTo_len lns cs cs.length
        rw [← ho0] at hol
        rw [← ho0] at HOUT
        obtain ⟨capo, ao, rfl, hoo, hto⟩ := hall
        have hcap : (o.length + 1) * 8 ≤ 140737488355328 := by omega
        have hmax : o.length + 1 ≤ maxLen := by unfold maxLen; omega
        have HOO := hide hoo
        have HTO := hide hto
        have hsz := hto.frm.size
        obtain ⟨j, stsn, s, rfl, _⟩ := hto
        clear hoo ho0
        go_wp2_with (at_builtin; refine wpList_append_own _ rfl (.tmp 30) (.tmp 32) 30 rfl w.heap.size 3 i0 (.int .i64 0) 1 8 Tryz.underlying30 ki kz0 kz1 kz2 rfl (by decide) (.slice ao o.length capo) o.length (intCells o) rfl ((unhide HOO).alloc _) ⟨wr.heap.size, 0, none⟩ 1 1 [.int .i64 T] rfl rfl (news_new _ _ rfl _ _) (one1 _) hmax hcap (by simp; omega) ?_; intro v' w4 hown' hgrow _; refine Hid.out ?_)
        refine hide ?_
        obtain ⟨a', cap', hv'⟩ := own_form hown'
        subst hv'
        have hto4 := ((unhide HTO).below ((Below.refl _ _).alloc (Nat.le_refl _) _)).grown ((unhide HOO).alloc _) hgrow (unhide HMB)
        have hfin : Hid (MCutsRes (mOut lns cs T) M mb w (.returned (.slice a' (o.length + 1) cap')) w4) := hide (by
          rw [unhide HOUT]
          have hl2 : (o ++ [T]).length = o.length + 1 := by simp
          exact ⟨a', cap', by rw [hl2], by rw [hl2, intCells_snoc]; exact hown', hto4.frm⟩)
        clear hown' hgrow hto4
        go_wp2
        go_ret
        exact unhide hfin
end Go.Proofs.YtbppbejigedioabGreatDoor
