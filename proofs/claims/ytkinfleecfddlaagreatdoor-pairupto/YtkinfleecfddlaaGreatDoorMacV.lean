/- The machine: cutsAt. -/
import Derived.Test.YtkinfleecfddlaaGreatDoorMacW
import Derived.Test.YtkinfleecfddlaaGreatDoorPlainI
import Derived.Test.YtkinfleecfddlaaGreatDoorClsH
import Derived.Deep.RegionHeld3
import Derived.Deep.DeepCutAuto
namespace Go.Proofs.YtkinfleecfddlaaGreatDoor
open Go.RowKit Go.Maps

theorem and_one16 (x n : Nat) (hx : x < 65536) : bits .and .u16 ((x : Int) / 2 ^ n) 1 = if x.testBit n then 1 else 0 := by
  have e1 : ((x : Int) / 2 ^ n) = ((x / 2 ^ n : Nat) : Int) := by simp
  have hlt : x / 2 ^ n < 65536 := Nat.lt_of_le_of_lt (Nat.div_le_self _ _) hx
  have h := u16_and_nat (x / 2 ^ n) 1 hlt (by decide)
  rw [e1]
  have e2 : bits .and .u16 ((x / 2 ^ n : Nat) : Int) 1 = ((x / 2 ^ n &&& 1 : Nat) : Int) := h
  rw [e2, Nat.and_one_is_mod, Nat.testBit_eq_decide_div_mod_eq]
  rcases Nat.mod_two_eq_zero_or_one (x / 2 ^ n) with h0 | h0 <;> rw [h0] <;> simp
theorem cutsAtP_step {l : List Sd} {n m : Nat} {bs : List Int} {x : Sd} (h : l[n]? = some x) : cutsAtP (l.drop n) m bs = if fitB m x && standL x.2.2.1.right bs then x.2.2.1.op == 124 else cutsAtP (l.drop (n + 1)) m bs := by
  have hk : n < l.length := (List.getElem?_eq_some_iff.1 h).1
  rw [← List.getElem_cons_drop hk, (List.getElem?_eq_some_iff.1 h).2]
  unfold cutsAtP
  rw [List.find?_cons]
  by_cases hb : (fitB m x && standL x.2.2.1.right bs) = true
  · have h' : ((x.2.1 || !(m &&& x.1 == 0)) && standL x.2.2.1.right bs) = true := hb
    rw [if_pos hb, h']
    rfl
  · have h' : ((x.2.1 || !(m &&& x.1 == 0)) && standL x.2.2.1.right bs) = false := Bool.eq_false_iff.2 hb
    rw [if_neg hb, h']
/-- The rules' right sides lie in memory. -/
def RightsAt (w : World) (sd : List Sd) : Prop := ∀ x ∈ sd, ∃ base : Nat, w.ownsRow base 171 2 (.slice x.2.2.2.1 x.2.2.1.right.length x.2.2.2.2) x.2.2.1.right.length (signCells x.2.2.1.right) ∧ x.2.2.1.right.length ≤ 4
theorem RightsAt.below {w w' : World} {sd : List Sd} (h : RightsAt w sd) (hb : Below w.heap.size w w') : RightsAt w' sd := fun x hx => by
  obtain ⟨b, h1, h2⟩ := h x hx
  exact ⟨b, own_below h1 hb, h2⟩
theorem fits_lt {p : Nat × Ms × List Sd} {m : Nat} (h : p.2.2.length ≤ 12) : fitsN p m < 65536 :=
  Nat.lt_of_lt_of_le (fitsTo_lt _ _ _) (Nat.le_trans (Nat.pow_le_pow_right (by decide) h) (by decide))

set_option maxRecDepth 100000 in
set_option maxHeartbeats 1000000 in
theorem cutsAt_any (M mb i : Nat) (p : Nat × Ms × List Sd) (sts : List St) (s : St) (bs : List Int) (ap : Option Addr) (cb : Nat) (w : World) (hR : RunAt w M mb p sts) (hG : Good p sts) (hp : MacOk p) (hi1 : 1 ≤ i) (hi : sts[i]? = some s) (_hlen : sts.length ≤ 4194304)
    (hr : RightsAt w p.2.2) (hs : SymsAt w ap bs) (hbl : bs.length ≤ 1048576) :
    Calls Tryz.prog 55 #[.pointer (some ⟨M, 0, none⟩), .int .i64 i, .slice ap bs.length cb] w fun e w' => e = .returned (.bool (cutsAtP p.2.2 s.1 bs)) ∧ Below w.heap.size w w' := by
  obtain ⟨as_, at_, cs, ct, D, hMac, hoS, hoT, hown, hmap, hmb⟩ := hR
  obtain ⟨vb, hBM⟩ := hMac.blk
  obtain ⟨g, rfl, hg, hbg, c0, c1, c2, cf⟩ := st_at hoT i s hi
  have hil : i < sts.length := (List.getElem?_eq_some_iff.1 hi).1
  have h12 := hp.n12
  obtain ⟨sg1, sg2, sg3⟩ := hG.fits i s hi1 hi
  rw [sg2] at c1
  have hfl := fits_lt (p := p) (m := s.1) h12
  have h29 : w.cell? ⟨M, 29, none⟩ = some (.slice as_ p.2.2.length cs) := hBM.cell 29
  have hMl := hBM.lt
  have HBM := hide hBM
  have HOS := hide hoS
  have HC1 := hide c1
  have HR := hide hr
  have HS := hide hs
  clear hMac hoS hoT hown hmap hBM c0 c1 c2 cf hG hi sg1 sg2 sg3 hr hs hp
  go_enter Tryz.func55, Tryz.ntmps55
  go_wp2
  go_loopw [14] (fun v wr => ∃ n : Nat, n ≤ p.2.2.length ∧ v = .int .i64 n ∧ Below w.heap.size w wr ∧ cutsAtP (p.2.2.drop n) s.1 bs = cutsAtP p.2.2 s.1 bs) (fun v _ => 14 - (intOf v).toNat)
  case atStart =>
    go_light
    exact ⟨0, Nat.zero_le _, rfl, Below.refl _ _, rfl⟩
  case round =>
    obtain ⟨n, hn, rfl, hb, hbe⟩ := hrel
    by_cases hlt : n < p.2.2.length
    · obtain ⟨gs, x, rfl, hx, hgs, d0, d1, d2, d3⟩ := side_cells (own_below (unhide HOS) hb) n hlt
      have hstep := cutsAtP_step (m := s.1) (bs := bs) hx
      have hbit : (fitsN p s.1).testBit n = fitB s.1 x := fitsTo_bit _ _ _ _ hlt x hx
      have hand := and_one16 (fitsN p s.1) n hfl
      rw [hbit] at hand
      have h31 : wr.cell? ⟨M, 31, none⟩ = some (.slice (some ⟨g, 0, none⟩) sts.length ct) := ((unhide HBM).below hb hMl).cell 31
      have hc1 : wr.cell? ⟨g, i * 29 + 1, none⟩ = some (.int .u16 (fitsN p s.1)) := by rw [(bcell hb).1 g _ hg]; exact unhide HC1
      have hgn : gs ≠ wr.heap.size := by omega
      have hsz := hb.size
      have hMn : M ≠ wr.heap.size := by omega
      have hMl2 : M < wr.heap.size := by omega
      have hgl2 : g < wr.heap.size := by omega
      have hg2n : g ≠ wr.heap.size := by omega
      obtain ⟨base, hro, hr4⟩ := (unhide HR) x (List.mem_of_getElem? hx)
      have HRO := hide (own_below hro hb)
      have HSB := hide ((unhide HS).below hb)
      have HBE := hide hbe
      have HST := hide hstep
      have HB := hide hb
      clear hx hbit hro hbe hstep
      cases hf : fitB s.1 x with
      | false =>
        rw [hf] at hand
        simp only [Bool.false_eq_true, if_false] at hand
        have hr2 : Hid (∃ m : Nat, m ≤ p.2.2.length ∧ Value.int .i64 ((n : Int) + 1) = .int .i64 m ∧ Below w.heap.size w (wr.alloc (.cells #[.int .u64 x.1, .bool x.2.1, .slice x.2.2.2.1 x.2.2.1.right.length x.2.2.2.2, .bool (x.2.2.1.op == 124)] 128)) ∧ cutsAtP (p.2.2.drop m) s.1 bs = cutsAtP p.2.2 s.1 bs) :=
          hide ⟨n + 1, by omega, by go_num, hb.alloc hb.size _, by rw [← unhide HBE, unhide HST, hf]; rfl⟩
        clear hf hb
        go_wp2
        go_roundw
        case rel => first | exact unhide hr2 | ((repeat apply Exists.intro); exact ⟨unhide hr2, rfl⟩)
        case measure => simp [intOf]; omega
      | true =>
        rw [hf] at hand
        simp only [if_true] at hand
        clear hb
        go_wp2_with fail
        refine (stand_any x.2.2.1.right x.2.2.2.1 x.2.2.2.2 base bs ap cb _ ((unhide HRO).alloc _) ((unhide HSB).below ((Below.refl _ _).alloc (Nat.le_refl _) _)) hr4 hbl).mono ?_
        rintro e w2 ⟨rfl, hb2⟩
        have hB2 : Blk w2 wr.heap.size [.int .u64 x.1, .bool x.2.1, .slice x.2.2.2.1 x.2.2.1.right.length x.2.2.2.2, .bool (x.2.2.1.op == 124)] 128 := (Blk.new wr _ _).below hb2 (by simp)
        have e3 : w2.cell? ⟨wr.heap.size, 3, none⟩ = some (.bool (x.2.2.1.op == 124)) := hB2.cell 3
        have HB3 := hide (((unhide HB).alloc (unhide HB).size _).trans (hb2.mono (by simp; omega)))
        clear hB2 hb2
        cases hit : standL x.2.2.1.right bs with
        | true =>
          have hr2 : Hid (cutsAtP p.2.2 s.1 bs = (x.2.2.1.op == 124)) := hide (by rw [← unhide HBE, unhide HST, hf, hit]; rfl)
          clear hit hf
          go_wp2
          go_ret
          exact ⟨by rw [unhide hr2]; rfl, unhide HB3⟩
        | false =>
          have hr2 : Hid (∃ m : Nat, m ≤ p.2.2.length ∧ Value.int .i64 ((n : Int) + 1) = .int .i64 m ∧ Below w.heap.size w w2 ∧ cutsAtP (p.2.2.drop m) s.1 bs = cutsAtP p.2.2 s.1 bs) :=
            hide ⟨n + 1, by omega, by go_num, unhide HB3, by rw [← unhide HBE, unhide HST, hf, hit]; rfl⟩
          clear hit hf
          go_wp2
          go_roundw
          case rel => first | exact unhide hr2 | ((repeat apply Exists.intro); exact ⟨unhide hr2, rfl⟩)
          case measure => simp [intOf]; omega
    · have hr2 : Hid (cutsAtP p.2.2 s.1 bs = true) := hide (by rw [← hbe, List.drop_eq_nil_of_le (by omega)]; rfl)
      go_wp2
      go_ret
      exact ⟨by rw [unhide hr2]; rfl, hb⟩
end Go.Proofs.YtkinfleecfddlaaGreatDoor
/- The machine: cuts. -/
namespace Go.Proofs.YtkinfleecfddlaaGreatDoor
open Go.RowKit Go.Maps

/-- What the machine is run over: the characters with their symbols, and the sets it comes to. -/
structure RunOk (p : Nat × Ms × List Sd) (its : List KItem) (cs : List Cu.Chr) (syms : List Nat) (run : Nat → Nat) (lns : List Cu.Ln) : Prop where
  len : syms.length = cs.length
  sym : ∀ (i : Nat) (x : Cu.Chr), cs[i]? = some x → ∃ k, syms[i]? = some k ∧ symOf its x.2.2 = (k : Int) ∧ k < 27
  zero : run 0 = 0
  step : ∀ (n k : Nat), syms[n]? = some k → run (n + 1) = stepP p (run n) k
  cut : ∀ n, 0 < n → n < cs.length → cutsAtP p.2.2 (run n) ((syms.drop n).map fun k : Nat => (k : Int)) = Cu.cutAt lns cs n
  first : ∀ x : Cu.Chr, cs[0]? = some x → x.1 = 0
/-- The machine behind n characters. -/
def RunTo (p : Nat × Ms × List Sd) (run : Nat → Nat) (M mb : Nat) (w : World) (n : Nat) (v : Value) (wr : World) : Prop :=
  ∃ (j : Nat) (sts : List St) (s : St), v = .int .i64 j ∧ RunAt wr M mb p sts ∧ Good p sts ∧ sts.length ≤ n + 2 ∧ 1 ≤ j ∧ sts[j]? = some s ∧ s.1 = run n ∧ FrmR mb w wr
theorem RightsAt.frm {mb : Nat} {w w' : World} {sd : List Sd} (h : RightsAt w sd) (hf : FrmR mb w w') : RightsAt w' sd := fun x hx => by
  obtain ⟨b, h1, h2⟩ := h x hx
  exact ⟨b, hf.own h1 (by decide) (by decide), h2⟩
theorem Tz.frm {mb : Nat} {w w' : World} (h : Tz w) (hf : FrmR mb w w') (h3 : 3 < mb) : Tz w' := h.below hf.1 h3
theorem syms_at {w : World} {base cap : Nat} {its : List KItem} {cs : List Cu.Chr} {a : Option Addr} {g : Nat} {syms : List Nat} {p : Nat × Ms × List Sd} {run : Nat → Nat} {lns : List Cu.Ln} (hr : RunOk p its cs syms run lns) (ho : w.ownsRow base 62 2 (.slice a cs.length cap) cs.length (spCells its cs)) (ha : a = some ⟨g, 0, none⟩) (n : Nat) :
    SymsAt w (some ⟨g, n * 2, none⟩) ((syms.drop n).map fun k : Nat => (k : Int)) := by
  intro k v hv
  rw [List.getElem?_map, List.getElem?_drop] at hv
  cases hs : syms[n + k]? with
  | none => rw [hs] at hv; simp at hv
  | some q =>
    rw [hs] at hv
    simp only [Option.map_some, Option.some.injEq] at hv
    subst hv
    have hlt : n + k < cs.length := by rw [← hr.len]; exact (List.getElem?_eq_some_iff.1 hs).1
    obtain ⟨g', x, hg', hx, hgl, c0, c1⟩ := sp_cells ho (n + k) hlt
    obtain ⟨k', e1, e2, e3⟩ := hr.sym _ x hx
    rw [hs] at e1
    simp only [Option.some.injEq] at e1
    subst e1
    rw [ha] at hg'
    simp only [Option.some.injEq, Addr.mk.injEq, and_true] at hg'
    subst hg'
    refine ⟨g, n * 2, rfl, hgl, ?_⟩
    rw [show n * 2 + k * 2 + 1 = (n + k) * 2 + 1 by omega, c1, e2]

/-- The program's cuts. -/
def mOut (lns : List Cu.Ln) (cs : List Cu.Chr) (T : Nat) : List Nat := if cs.length = 0 then [] else Cu.cutsTo lns cs cs.length ++ [T]
theorem row_cell {mb base s n j : Nat} {w W w1 : World} {e : TypeId} {g c : Nat} {xs : List Value} {v : Value} (ho : w.ownsRow base e s (.slice (some ⟨g, 0, none⟩) n c) n xs) (h1 : e ≠ 118) (h2 : e ≠ 183) (hW : Below w.heap.size w W) (hf : FrmR mb W w1) (hc : w.cell? ⟨g, j, none⟩ = some v) : w1.cell? ⟨g, j, none⟩ = some v := by
  rcases ho.2 with ⟨hv, _⟩ | ⟨g', cap, cur, hv, _, hh, _⟩
  · cases hv
  · simp only [Value.slice.injEq, Option.some.injEq, Addr.mk.injEq, and_true, true_and] at hv
    obtain ⟨rfl, rfl⟩ := hv
    have hlt : g < w.heap.size := (Array.getElem?_eq_some_iff.1 hh).1
    have hW2 : W.heap[g]? = some (.cells cur e (0, 0)) := by rw [hW.block g hlt]; exact hh
    have h3 := hf.2 g _ hW2 ⟨h1, h2⟩
    simp only [World.cell?, hh] at hc
    simp only [World.cell?, h3]
    exact hc
theorem run_one {p : Nat × Ms × List Sd} {its : List KItem} {cs : List Cu.Chr} {syms : List Nat} {run : Nat → Nat} {lns : List Cu.Ln} {M mb k0 j2 : Nat} {w W w1 w2 : World} {sts sts1 sts2 : List St} {s1 s2 : St} (hr : RunOk p its cs syms run lns) (hk : syms[0]? = some k0) (hmb : mb ≤ w.heap.size) (h1 : sts.length ≤ 1) (hgr1 : Grew sts sts1) (hf1 : FrmR mb W.drew w1) (hm1 : s1.1 = 0)
    (hR2 : RunAt w2 M mb p sts2) (hG2 : Good p sts2) (hgr2 : Grew sts1 sts2) (hf2 : FrmR mb w1 w2) (hj2 : 1 ≤ j2) (hjs2 : sts2[j2]? = some s2) (hm2 : s2.1 = stepP p s1.1 k0) (hW : w.heap.size ≤ W.heap.size := by simp) : RunTo p run M mb W 1 (.int .i64 j2) w2 := by
  refine ⟨j2, sts2, s2, rfl, hR2, hG2, ?_, hj2, hjs2, ?_, ?_⟩
  · have := hgr1.2.1; have := hgr2.2.1; omega
  · rw [hm2, hm1, hr.step 0 k0 hk, hr.zero]
  · exact ((FrmR.of ((Below.refl _ _).drew) (by omega)).trans hf1).trans hf2
theorem RunTo.base {p : Nat × Ms × List Sd} {run : Nat → Nat} {M mb n : Nat} {w W wr : World} {v : Value} (h : RunTo p run M mb W n v wr) (hf : FrmR mb w W) : RunTo p run M mb w n v wr := by
  obtain ⟨j, sts, s, h1, h2, h3, h4, h5, h6, h7, h8⟩ := h
  exact ⟨j, sts, s, h1, h2, h3, h4, h5, h6, h7, hf.trans h8⟩
theorem RunTo.frm {p : Nat × Ms × List Sd} {run : Nat → Nat} {M mb n : Nat} {w wr : World} {v : Value} (h : RunTo p run M mb w n v wr) : FrmR mb w wr := by
  obtain ⟨j, sts, s, h1, h2, h3, h4, h5, h6, h7, h8⟩ := h
  exact h8
theorem RunTo.below {p : Nat × Ms × List Sd} {run : Nat → Nat} {M mb n : Nat} {w wr W : World} {v : Value} (h : RunTo p run M mb w n v wr) (hb : Below wr.heap.size wr W) : RunTo p run M mb w n v W := by
  obtain ⟨j, sts, s, h1, h2, h3, h4, h5, h6, h7, h8⟩ := h
  have := h2.lt
  exact ⟨j, sts, s, h1, h2.below hb, h3, h4, h5, h6, h7, h8.trans (FrmR.of hb (by omega))⟩
theorem own_cap {w : World} {base s n c : Nat} {e : TypeId} {a : Option Addr} {xs : List Value} (ho : w.ownsRow base e s (.slice a n c) n xs) : n ≤ c := by
  rcases ho.2 with ⟨hv, hn⟩ | ⟨g, cap, cur, hv, _, _, hc, _⟩
  · omega
  · simp only [Value.slice.injEq, true_and] at hv
    omega
theorem run_next {p : Nat × Ms × List Sd} {its : List KItem} {cs : List Cu.Chr} {syms : List Nat} {run : Nat → Nat} {lns : List Cu.Ln} {M mb n k : Nat} {w w1 w2 : World} {sts : List St} {s : St} {e : Ending} (hr : RunOk p its cs syms run lns) (hk : syms[n]? = some k) (hl : sts.length ≤ n + 2) (hm : s.1 = run n) (hf : FrmR mb w w1) (h : FindPost p sts M mb (stepP p s.1 k) w1 e w2) :
    ∃ j : Nat, e = .returned (.int .i64 j) ∧ RunTo p run M mb w (n + 1) (.int .i64 j) w2 ∧ FrmR mb w1 w2 := by
  obtain ⟨j, sts2, s2, rfl, h1, h2, h3, h4, h5, h6, h7⟩ := h
  refine ⟨j, rfl, ⟨j, sts2, s2, rfl, h1, h2, by have := h3.2.1; omega, h5, h6, by rw [h7, hm, hr.step n k hk], hf.trans h4⟩, h4⟩
theorem RunTo.grown {p : Nat × Ms × List Sd} {run : Nat → Nat} {M mb n m c : Nat} {w W w3 : World} {v : Value} {a : Option Addr} {xs : List Value} (h : RunTo p run M mb w n v W) (ho : W.ownsRow w.heap.size 3 1 (.slice a m c) m xs) (hg : W.grownBy w3 (Value.slice a m c).ownBlock) (hmb : mb ≤ w.heap.size) : RunTo p run M mb w n v w3 := by
  obtain ⟨j, sts, s, h1, h2, h3, h4, h5, h6, h7, h8⟩ := h
  obtain ⟨as_, at_, cs, ct, D, hMac, hoS, hoT, hown, hmap, hmbM⟩ := h2
  have hne : some mb ≠ (Value.slice a m c).ownBlock := by
    obtain ⟨es, q, hes, _⟩ := hown
    exact map_ne_row hes ho
  refine ⟨j, sts, s, h1, ⟨as_, at_, cs, ct, D, hMac.grown ho hg (by decide) (by decide), own_grown' hoS ho hg (by decide), own_grown' hoT ho hg (by decide), hown.kept hg hne, hmap, hmbM⟩, h3, h4, h5, h6, h7, ?_⟩
  have hs := h8.size
  refine ⟨h8.1.grown hg (by omega) (fun k hk => by have := (ho.lt k hk).1; omega), ?_⟩
  intro k o hk hn
  have hkl : k < w.heap.size := (Array.getElem?_eq_some_iff.1 hk).1
  have h9 := h8.2 k o hk hn
  rw [hg.block k (by omega) ?_]
  · exact h9
  · intro e
    have := (ho.lt k e.symm).1
    omega
theorem step_to {p : Nat × Ms × List Sd} {its : List KItem} {cs : List Cu.Chr} {syms : List Nat} {run : Nat → Nat} {lns : List Cu.Ln} {M mb n k j : Nat} {w W : World} (hr : RunOk p its cs syms run lns) (hk : syms[n]? = some k) (hk27 : k < 27) (hp : MacOk p) (hT : Tz w) (h3 : 3 < mb) (h : RunTo p run M mb w n (.int .i64 j) W) (hn : n ≤ 1048576) :
    Calls Tryz.prog 53 #[.pointer (some ⟨M, 0, none⟩), .int .i64 j, .int .i64 k] W fun e w2 => ∃ j2 : Nat, e = .returned (.int .i64 j2) ∧ RunTo p run M mb w (n + 1) (.int .i64 j2) w2 ∧ FrmR mb W w2 := by
  obtain ⟨j', sts, s, e1, hR, hG, hl, hj, hjs, hm, hf⟩ := h
  simp only [Value.int.injEq, true_and] at e1
  obtain rfl : j = j' := by omega
  refine (step_any M mb j k p sts s W hR hG hp (hT.frm hf h3) h3 hj hjs hk27 (by omega)).mono ?_
  intro e w2 h2
  exact run_next hr hk hl hm hf h2
/-- The rounds of cuts. -/
def AllRel (p : Nat × Ms × List Sd) (run : Nat → Nat) (lns : List Cu.Ln) (cs : List Cu.Chr) (M mb : Nat) (w : World) (v x i : Value) (wr : World) : Prop :=
  ∃ (n cap : Nat) (a : Option Addr), 1 ≤ n ∧ n ≤ cs.length ∧ i = .int .i64 n ∧ v = .slice a (Cu.cutsTo lns cs n).length cap ∧ wr.ownsRow w.heap.size 3 1 (.slice a (Cu.cutsTo lns cs n).length cap) (Cu.cutsTo lns cs n).length (intCells (Cu.cutsTo lns cs n)) ∧ RunTo p run M mb w n x wr
def MCutsRes (out : List Nat) (mb : Nat) (w : World) (e : Ending) (w' : World) : Prop :=
  ∃ (a : Option Addr) (cap : Nat), e = .returned (.slice a out.length cap) ∧ w'.ownsRow w.heap.size 3 1 (.slice a out.length cap) out.length (intCells out) ∧ FrmR mb w w'

set_option maxRecDepth 100000 in
set_option maxHeartbeats 1000000 in
theorem mcuts_any (M mb : Nat) (p : Nat × Ms × List Sd) (sts : List St) (its : List KItem) (cs : List Cu.Chr) (syms : List Nat) (run : Nat → Nat) (lns : List Cu.Ln) (a : Option Addr) (cap base T : Nat) (w : World) (hR : RunAt w M mb p sts) (hG : Good p sts) (h1 : sts.length ≤ 1) (hp : MacOk p) (hT : Tz w) (h3 : 3 < mb)
    (ho : w.ownsRow base 62 2 (.slice a cs.length cap) cs.length (spCells its cs)) (hr : RunOk p its cs syms run lns) (hrt : RightsAt w p.2.2) (hl : cs.length ≤ 1048576) :
    Calls Tryz.prog 32 #[.pointer (some ⟨M, 0, none⟩), .slice a cs.length cap, .int .i64 T] w fun e w' => MCutsRes (mOut lns cs T) mb w e w' := by
  obtain ⟨i0, ki, kz0, kz1, kz2⟩ := info_parts Tryz.info3
  have hmbl := hR.lt
  by_cases h0 : cs.length = 0
  · have d0 : ((cs.length : Int) == 0) = true := by rw [h0]; rfl
    have hfin : Hid (MCutsRes (mOut lns cs T) mb w (.returned (.slice none 0 0)) w) := hide (by unfold mOut; rw [if_pos h0]; exact ⟨none, 0, rfl, World.ownsRow_nil _ _ _ _, FrmR.refl _ _⟩)
    clear h0 hR hG ho hr hrt hp hT
    go_enter Tryz.func32, Tryz.ntmps32
    go_wp2
    go_ret
    exact unhide hfin
  · have d0 : ((cs.length : Int) == 0) = false := by rw [beq_eq_false_iff_ne]; omega
    obtain ⟨g, x0, rfl, hx0, hg, e0, e1⟩ := sp_cells ho 0 (by omega)
    obtain ⟨k0, hk0, hsy0, hk27⟩ := hr.sym 0 x0 hx0
    rw [hsy0] at e1
    have hfirst := hr.first x0 hx0
    have HR := hide hR
    have HG := hide hG
    have HP := hide hp
    have HT := hide hT
    have HO := hide ho
    have HRO := hide hr
    have HRT := hide hrt
    have HOUT : Hid (mOut lns cs T = Cu.cutsTo lns cs cs.length ++ [T]) := hide (by unfold mOut; rw [if_neg h0])
    have hC1 : Hid (Cu.cutsTo lns cs 1 = [0]) := hide (by rw [Cu.cutsTo_yes hx0 rfl, hfirst]; rfl)
    have HK0 := hide hk0
    have hgn : g ≠ w.heap.size := by omega
    have hpos : 0 < cs.length := by omega
    have hposI : (0 : Int) < (cs.length : Int) := by omega
    have HMB := hide (show mb ≤ w.heap.size by omega)
    clear hR hG ho hr hrt hp hT h0 hx0 hsy0 hfirst hk0 e0
    simp only [Nat.zero_mul, Nat.zero_add] at e1
    go_enter Tryz.func32, Tryz.ntmps32
    go_upto_region 4 with fail
    go_cut [8] (fun v wc => RunTo p run M mb (w.alloc (.cells #[.int .i64 0] 3)) 1 v wc)
    case first =>
      go_region_held3 (fun w' => w'.cell? ⟨g, 1, none⟩ = some (.int .i64 k0)) (first | go_keep | (exact unhide HKEEP)) ((first
        | (go_at_call 54; refine (start_any M mb p sts _ ((unhide HR).below (below_one1 _ _)) (unhide HG) (unhide HP) (by omega)).mono ?_; rintro e w1 ⟨j, sts1, s1, rfl, hR1, hG1, hgr1, hf1, hj1, hjs1, hm1⟩; have HKEEP := hide (row_cell (unhide HO) (by decide) (by decide) (below_one1 _ _) hf1 e1))
        | (go_at_call 53; refine (step_any M mb j k0 p sts1 s1 _ hR1 hG1 (unhide HP) (((unhide HT).below (below_one1 _ _) (unhide HT).2).frm hf1 h3) h3 hj1 hjs1 hk27 (by have := hgr1.2.1; omega)).mono ?_; rintro e w2 ⟨j2, sts2, s2, rfl, hR2, hG2, hgr2, hf2, hj2, hjs2, hm2⟩; have HKEEP := hide (row_cell (unhide HO) (by decide) (by decide) (below_one1 _ _) (hf1.trans hf2) e1); have HFIN := hide (run_one (w := w) (unhide HRO) (unhide HK0) (unhide HMB) h1 hgr1 hf1 hm1 hR2 hG2 hgr2 hf2 hj2 hjs2 hm2))))
      go_wp2_with fail
      go_meet
      case rel => exact unhide HFIN
    case rest =>
      have hall : Hid (AllRel p run lns cs M mb w (.slice (some ⟨w.heap.size, 0, none⟩) 1 1) u8 (.int .i64 1) wc) := hide (by
        have hr1 := hcut.base (FrmR.of ((Below.refl _ w).alloc (Nat.le_refl _) (.cells #[.int .i64 0] 3)) (unhide HMB))
        refine ⟨1, 1, some ⟨w.heap.size, 0, none⟩, Nat.le_refl _, hpos, rfl, by rw [unhide hC1]; rfl, ?_, hr1⟩
        rw [unhide hC1]
        exact hcut.frm.own (World.ownsRow_lit w #[.int .i64 0] 1 (Nat.le_refl _) (by decide) rfl) (by decide) (by decide))
      clear hcut
      go_wp2
      go_loopw [7, 8, 9] (fun v x i wr => AllRel p run lns cs M mb w v x i wr) (fun _ _ i _ => 1048578 - (intOf i).toNat)
      case atStart =>
        go_light
        exact unhide hall
      case round =>
        obtain ⟨n, capo, ao, hn1, hn, rfl, rfl, hoo, hto⟩ := hrel
        by_cases hlt : n < cs.length
        · obtain ⟨g', x, hg', hx, hgl, c0, c1⟩ := sp_cells (unhide HO) n hlt
          simp only [Option.some.injEq, Addr.mk.injEq, and_true] at hg'
          subst hg'
          obtain ⟨k, hk, hsy, hk27⟩ := (unhide HRO).sym n x hx
          rw [hsy] at c1
          have hcc := own_cap (unhide HO)
          have hnc : n < cap := by omega
          have hne1 : n ≠ cap := by omega
          have hne2 : cap ≠ n := by omega
          have hol := Cu.cutsTo_len lns cs n
          have hto0 := hto
          obtain ⟨j, stsn, s, rfl, hRn, hGn, hln, hj, hjs, hm, hf⟩ := hto
          have hbl : ((syms.drop n).map fun k : Nat => (k : Int)).length = cs.length - n := by rw [List.length_map, List.length_drop, (unhide HRO).len]
          have hcall := cutsAt_any M mb j p stsn s ((syms.drop n).map fun k : Nat => (k : Int)) (some ⟨g, n * 2, none⟩) (cap - n) wr hRn hGn (unhide HP) hj hjs (by omega) ((unhide HRT).frm hf) (syms_at (unhide HRO) (hf.own (unhide HO) (by decide) (by decide)) rfl n) (by omega)
          rw [hbl, hm, (unhide HRO).cut n (by omega) hlt] at hcall
          have hstep := fun (W : World) (hW : RunTo p run M mb w n (.int .i64 j) W) => step_to (unhide HRO) hk hk27 (unhide HP) (unhide HT) h3 hW (by omega : n ≤ 1048576)
          have HC := hide hcall
          have HS := hide hstep
          have HOO := hide hoo
          have HTO := hide hto0
          have HX := hide hx
          have HC0 := hide (fun (W : World) (hW : FrmR mb w W) => row_cell (unhide HO) (by decide) (by decide) (Below.refl _ _) hW c0)
          have HC1 := hide (fun (W : World) (hW : FrmR mb w W) => row_cell (unhide HO) (by decide) (by decide) (Below.refl _ _) hW c1)
          have hsz := hf.size
          clear hoo hRn hGn hjs hcall hm hf hbl hx hk hsy hstep hto0 c0 c1
          go_wp2_with fail
          refine (unhide HC).mono ?_
          rintro e w1 ⟨rfl, hb1⟩
          have hto1 := (unhide HTO).below hb1
          have hoo1 := own_below (unhide HOO) hb1
          have hs1 := hb1.size
          have HTO1 := hide hto1
          have HOO1 := hide hoo1
          have d0 := unhide HC0 w1 hto1.frm
          have d1 := unhide HC1 w1 hto1.frm
          clear hb1 hto1 hoo1
          cases hct : Cu.cutAt lns cs n with
          | false =>
            have e3 : Hid (Cu.cutsTo lns cs (n + 1) = Cu.cutsTo lns cs n) := hide (Cu.cutsTo_no hct)
            clear hct
            go_wp2_with fail
            refine (unhide HS w1 (unhide HTO1)).mono ?_
            rintro e w2 ⟨j2, rfl, hto2, hf2⟩
            have hrel2 : Hid (AllRel p run lns cs M mb w (.slice ao (Cu.cutsTo lns cs n).length capo) (.int .i64 j2) (.int .i64 ((n : Int) + 1)) w2) := hide ⟨n + 1, capo, ao, by omega, by omega, by go_num, by rw [unhide e3], by rw [unhide e3]; exact hf2.own (unhide HOO1) (by decide) (by decide), hto2⟩
            clear hto2 hf2
            go_wp2
            go_roundw
            case rel => first | exact unhide hrel2 | ((repeat apply Exists.intro); exact ⟨unhide hrel2, rfl⟩)
            case measure => simp [intOf]; omega
          | true =>
            have e3 : Hid (Cu.cutsTo lns cs (n + 1) = Cu.cutsTo lns cs n ++ [x.1]) := hide (Cu.cutsTo_yes (unhide HX) hct)
            have hcap : ((Cu.cutsTo lns cs n).length + 1) * 8 ≤ 140737488355328 := by omega
            have hmax : (Cu.cutsTo lns cs n).length + 1 ≤ maxLen := by unfold maxLen; omega
            clear hct
            go_wp2_with (at_builtin; refine wpList_append_own _ rfl (.tmp 34) (.tmp 40) 34 rfl w.heap.size 3 i0 (.int .i64 0) 1 8 Tryz.underlying34 ki kz0 kz1 kz2 rfl (by decide) (.slice ao (Cu.cutsTo lns cs n).length capo) (Cu.cutsTo lns cs n).length (intCells (Cu.cutsTo lns cs n)) rfl ((unhide HOO1).alloc _) ⟨w1.heap.size, 0, none⟩ 1 1 [.int .i64 x.1] rfl rfl (news_new _ _ rfl _ _) (one1 _) hmax hcap (by simp; omega) ?_; intro v' w4 hown' hgrow _; refine Hid.out ?_)
            refine hide ?_
            obtain ⟨a', cap', hv'⟩ := own_form hown'
            subst hv'
            have hto4 := ((unhide HTO1).below ((Below.refl _ _).alloc (Nat.le_refl _) _)).grown ((unhide HOO1).alloc _) hgrow (unhide HMB)
            have HTO4 := hide hto4
            have HOO4 := hide hown'
            have d4 := unhide HC1 w4 hto4.frm
            clear hto4 hown' hgrow
            go_wp2_with fail
            refine (unhide HS w4 (unhide HTO4)).mono ?_
            rintro e w2 ⟨j2, rfl, hto2, hf2⟩
            have hrel2 : Hid (AllRel p run lns cs M mb w (.slice a' ((Cu.cutsTo lns cs n).length + 1) cap') (.int .i64 j2) (.int .i64 ((n : Int) + 1)) w2) := hide (by
              have hl2 : (Cu.cutsTo lns cs (n + 1)).length = (Cu.cutsTo lns cs n).length + 1 := by rw [unhide e3]; simp
              exact ⟨n + 1, cap', a', by omega, by omega, by go_num, by rw [hl2], by rw [hl2, unhide e3, intCells_snoc]; exact hf2.own (unhide HOO4) (by decide) (by decide), hto2⟩)
            clear hto2 hf2
            go_wp2
            go_roundw
            case rel => first | exact unhide hrel2 | ((repeat apply Exists.intro); exact ⟨unhide hrel2, rfl⟩)
            case measure => simp [intOf]; omega
        · obtain rfl : n = cs.length := by omega
          have hol := Cu.cutsTo_len lns cs cs.length
          have hcap : ((Cu.cutsTo lns cs cs.length).length + 1) * 8 ≤ 140737488355328 := by omega
          have hmax : (Cu.cutsTo lns cs cs.length).length + 1 ≤ maxLen := by unfold maxLen; omega
          have HOO := hide hoo
          have HTO := hide hto
          have hsz := hto.frm.size
          obtain ⟨j, stsn, s, rfl, _⟩ := hto
          clear hoo
          go_wp2_with (at_builtin; refine wpList_append_own _ rfl (.tmp 50) (.tmp 52) 34 rfl w.heap.size 3 i0 (.int .i64 0) 1 8 Tryz.underlying34 ki kz0 kz1 kz2 rfl (by decide) (.slice ao (Cu.cutsTo lns cs cs.length).length capo) (Cu.cutsTo lns cs cs.length).length (intCells (Cu.cutsTo lns cs cs.length)) rfl ((unhide HOO).alloc _) ⟨wr.heap.size, 0, none⟩ 1 1 [.int .i64 T] rfl rfl (news_new _ _ rfl _ _) (one1 _) hmax hcap (by simp; omega) ?_; intro v' w4 hown' hgrow _; refine Hid.out ?_)
          refine hide ?_
          obtain ⟨a', cap', hv'⟩ := own_form hown'
          subst hv'
          have hto4 := ((unhide HTO).below ((Below.refl _ _).alloc (Nat.le_refl _) _)).grown ((unhide HOO).alloc _) hgrow (unhide HMB)
          have hfin : Hid (MCutsRes (mOut lns cs T) mb w (.returned (.slice a' ((Cu.cutsTo lns cs cs.length).length + 1) cap')) w4) := hide (by
            rw [unhide HOUT]
            have hl2 : (Cu.cutsTo lns cs cs.length ++ [T]).length = (Cu.cutsTo lns cs cs.length).length + 1 := by simp
            exact ⟨a', cap', by rw [hl2], by rw [hl2, intCells_snoc]; exact hown', hto4.frm⟩)
          clear hown' hgrow hto4
          go_wp2
          go_ret
          exact unhide hfin
end Go.Proofs.YtkinfleecfddlaaGreatDoor
