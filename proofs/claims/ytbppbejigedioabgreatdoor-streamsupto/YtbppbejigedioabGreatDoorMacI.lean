/- The machine: find. -/
import Derived.Test.YtbppbejigedioabGreatDoorMacZ
import Derived.Deep.RegionLaw
import Derived.Deep.DeepCutAuto
import Derived.Deep.MidRow
namespace Go.Proofs.YtbppbejigedioabGreatDoor
open Go.RowKit Go.Maps

theorem side_cells {w : World} {base cap : Nat} {l : List Sd} {a : Option Addr} (ho : w.ownsRow base 131 3 (.slice a l.length cap) l.length (sideCells l)) (i : Nat) (hi : i < l.length) :
    ∃ (g : Nat) (x : Sd), a = some ⟨g, 0, none⟩ ∧ l[i]? = some x ∧ g < w.heap.size ∧ w.cell? ⟨g, i * 3, none⟩ = some (.int .u64 x.1) ∧ w.cell? ⟨g, i * 3 + 1, none⟩ = some (.bool x.2.1) ∧ w.cell? ⟨g, i * 3 + 2, none⟩ = some (.bool (x.2.2.1.op == 124)) := by
  have hget : ∀ (l : List Sd) (i j : Nat) (hi : i < l.length), j < 3 → (sideCells l)[i * 3 + j]? = ([.int .u64 l[i].1, .bool l[i].2.1, .bool (l[i].2.2.1.op == 124)] : List Value)[j]? := by
    intro l
    induction l with
    | nil => intro i j hi; simp at hi
    | cons y l ih =>
      intro i j hi hj
      cases i with
      | zero => simp only [sideCells, Nat.zero_mul, Nat.zero_add]; rw [List.getElem?_append_left (by simp; omega)]; rfl
      | succ i =>
        simp only [sideCells]
        rw [List.getElem?_append_right (by simp; omega), show (i + 1) * 3 + j - [Value.int .u64 y.1, Value.bool y.2.1, Value.bool (y.2.2.1.op == 124)].length = i * 3 + j by simp; omega, ih i j (by simpa using hi) hj]
        rfl
  rcases ho.2 with ⟨_, h2⟩ | ⟨g, cap', cur, hv, _, hh, h3, h4, _⟩
  · omega
  · simp only [Value.slice.injEq, true_and] at hv
    obtain ⟨rfl, rfl⟩ := hv
    have hc : ∀ j, j < 3 → w.cell? ⟨g, i * 3 + j, none⟩ = ([.int .u64 l[i].1, .bool l[i].2.1, .bool (l[i].2.2.1.op == 124)] : List Value)[j]? := fun j hj => by
      rw [ho.cellAt (i * 3 + j) (by omega), hget l i j hi hj]
    exact ⟨g, l[i], rfl, by simp [hi], (Array.getElem?_eq_some_iff.1 hh).1, hc 0 (by omega), hc 1 (by omega), hc 2 (by omega)⟩

theorem setRow_alloc (w : World) (z arr : Array Value) (t : TypeId) : (w.alloc (.cells z t)).setRow w.heap.size arr = w.alloc (.cells arr t) := by
  unfold World.setRow World.alloc
  simp only
  congr 1
  apply Array.ext
  · simp
  · intro k h1 h2
    simp only [Array.getElem_modify, Array.getElem_push]
    by_cases hk : w.heap.size = k
    · subst hk; simp
    · have hk2 : k < w.heap.size := by simp at h2; omega
      rw [if_neg hk, dif_pos hk2, dif_pos hk2]
theorem oneC_all (a : Int) (b : Int) (f : Nat → Int) : (([.int .u64 a, .int .u16 b] ++ (List.range 27).map (fun k => Value.int .i64 (f k)) : List Value).toArray).all (·.oneCell') = true := by
  rw [List.all_toArray, List.all_append]
  simp [Value.oneCell', List.all_map, Function.comp_def]
theorem build_state (m : Nat) (w : World) : (Instr.build 262 #[(0, .int .u64 (m : Int))]).run Tryz.prog w = .ok (.agg (stCell (m, 0, fun _ => 0)).toArray) w := run_build w 262 _ _ (by kernel_rfl)
theorem alloc_state (w : World) : (Instr.alloc 262 true (.tuple #[])).run Tryz.prog w = .ok (.pointer (some ⟨w.heap.size, 0, none⟩)) (w.alloc (.cells state0.toArray 262)) := by kernel_rfl
theorem store_state (m : Nat) (w : World) : (Instr.storeAt 262 (.pointer (some ⟨w.heap.size, 0, none⟩)) (.agg (stCell (m, 0, fun _ => 0)).toArray)).run Tryz.prog (w.alloc (.cells state0.toArray 262)) = .ok () (w.alloc (.cells (stCell (m, 0, fun _ => 0)).toArray 262)) := by
  have h := run_storeVar_row (P := Tryz.prog) (w.alloc (.cells state0.toArray 262)) w.heap.size 262 262 state0.toArray (stCell (m, 0, fun _ => 0)).toArray (heap_alloc_new w _) (by kernel_rfl) (by kernel_rfl) (oneC_all _ _ _)
  rw [setRow_alloc] at h
  simp only [Instr.storeAt, Instr.sureAddr, Sem.run_bind, Sem.run_pure, Result.andThen_ok, h]
section
variable {ops : Array Oper} {rest : List Oper} {o : Oper} {a : Act} {w : World} {Q : Exit → Act → World → Prop}
theorem wpList_build_st (hg : o.guard = none) (x : Operand) (hop : o.op = Op.build 262 #[(0, x)]) (m : Nat) (hx : a.eval x = .int .u64 (m : Int)) (h : wpList Tryz.prog ops Q rest (a.put o.dst (.agg (stCell (m, 0, fun _ => 0)).toArray)) w) : wpList Tryz.prog ops Q (o :: rest) a w := by
  refine wpList_plain hg fun K' hK' => ?_
  have hrun := build_state m w
  unfold Oper.wp
  simp [execOp, hop, hx, hrun, Result.andThen]
  exact hK' _ _ h
theorem wpList_alloc_st (hg : o.guard = none) (hop : o.op = Op.alloc 262) (h : wpList Tryz.prog ops Q rest (a.put o.dst (.pointer (some ⟨w.heap.size, 0, none⟩))) (w.alloc (.cells state0.toArray 262))) : wpList Tryz.prog ops Q (o :: rest) a w := by
  refine wpList_plain hg fun K' hK' => ?_
  have hrun := alloc_state w
  unfold Oper.wp
  simp [execOp, hop, hrun, Result.andThen]
  exact hK' _ _ h
theorem wpList_store_st (hg : o.guard = none) (x y : Operand) (hop : o.op = Op.store 262 x y) (hx : a.eval x = .pointer (some ⟨w.heap.size, 0, none⟩)) (m : Nat) (hy : a.eval y = .agg (stCell (m, 0, fun _ => 0)).toArray) (h : wpList Tryz.prog ops Q rest (a.put o.dst undef) (w.alloc (.cells (stCell (m, 0, fun _ => 0)).toArray 262))) : wpList Tryz.prog ops Q (o :: rest) a (w.alloc (.cells state0.toArray 262)) := by
  refine wpList_plain hg fun K' hK' => ?_
  have hrun := store_state m w
  unfold Oper.wp
  simp [execOp, hop, hx, hy, hrun, Result.andThen]
  exact hK' _ _ h
end

theorem wf_len (n : Nat) (h : n ≤ 4194304) : (Lit.int .i64 (n : Int)).wf = true := by
  have h' : (n : Int) ≤ 4194304 := by omega
  simp [Lit.wf, IntKind.bits, IntKind.signed, IntKind.min, IntKind.max]
  omega
theorem Tryz.info262 : (Tryz.prog.info? 262).map (fun i => (i.zero, i.size, i.bytes)) = some (some (.agg state0.toArray), 29, 232) := by kernel_rfl
theorem step_load_st {ops : Array Oper} {o : Oper} {a : Act} {w : World} {K : Act → World → Prop} {Q : Exit → Act → World → Prop} {E : Prop} (hg : o.guard = none) (x : Operand) (hop : o.op = Op.load 262 x) (b : Nat) (hx : a.eval x = .pointer (some ⟨b, 0, none⟩)) (s : St) (hB : Blk w b (stCell s) 262) (hK : K (a.put o.dst (.agg (stCell s).toArray)) w) :
    if Region.wanted o (yielded ops a.tmps) = true then Oper.wp Tryz.prog o a w K Q else E := by
  have hw : Region.wanted o (yielded ops a.tmps) = true := by simp [Region.wanted, hg]
  rw [if_pos hw]
  refine wp_load_mid 262 x hop b 0 hx (stCell s) _ ?_ Tryz.underlying262 rfl ?_ hK
  · intro j v hv
    have h := hB.cell j
    rw [hv] at h
    simpa using h
  · rw [stCell_len]; kernel_rfl
theorem slice_state (m f : Nat) (w : World) : (Instr.buildSlice 114 1 #[(0, .agg (stCell (m, f, fun _ => 0)).toArray)]).run Tryz.prog w = .ok (.slice (some ⟨w.heap.size, 0, none⟩) 1 1) (w.alloc (.cells (stCell (m, f, fun _ => 0)).toArray 262)) := by kernel_rfl
theorem step_slice_st {ops : Array Oper} {o : Oper} {a : Act} {w : World} {K : Act → World → Prop} {Q : Exit → Act → World → Prop} {E : Prop} (hg : o.guard = none) (x : Operand) (hop : o.op = Op.buildSlice 114 1 #[(0, x)]) (m f : Nat) (hx : a.eval x = .agg (stCell (m, f, fun _ => 0)).toArray) (hK : K (a.put o.dst (.slice (some ⟨w.heap.size, 0, none⟩) 1 1)) ((w.alloc (.cells (stCell (m, f, fun _ => 0)).toArray 262)).drew)) :
    if Region.wanted o (yielded ops a.tmps) = true then Oper.wp Tryz.prog o a w.drew K Q else E := by
  have hw : Region.wanted o (yielded ops a.tmps) = true := by simp [Region.wanted, hg]
  rw [if_pos hw]
  have hrun := slice_state m f w.drew
  unfold Oper.wp
  simp [execOp, hop, hx, hrun, Result.andThen]
  exact hK
theorem oneL (a : Int) (b : Int) (f : Nat → Int) : ∀ u ∈ ([.int .u64 a, .int .u16 b] ++ (List.range 27).map (fun k => Value.int .i64 (f k)) : List Value), u.oneCell' = true := by
  intro u hu
  have h := oneC_all a b f
  rw [List.all_toArray, List.all_eq_true] at h
  exact h u hu
theorem map_new {sts : List St} {m f : Nat} {nx : Nat → Nat} (hm : m < b64) (hl : 1 ≤ sts.length) (D : DataW Unit) (h : MapIs D (sts ++ [(m, f, nx)])) : Maps.has D (.int .u64 (m : Int)) = true ∧ D.atKey (.int .u64 (m : Int)) (.lit (.int .i64 0)) = .lit (.int .i64 (sts.length : Int)) :=
  (h m hm).1 sts.length (m, f, nx) hl (by simp) rfl
def FitRel (sd : List Sd) (m S : Nat) (w : World) (v : Value) (wr : World) : Prop :=
  ∃ n : Nat, n ≤ sd.length ∧ v = .int .i64 n ∧ Blk wr S (stCell (m, fitsTo sd m n, fun _ => 0)) 262 ∧ Below w.heap.size w wr

theorem fit_or {sd : List Sd} {m n : Nat} {x : Sd} (hx : sd[n]? = some x) (hn : n < 12) (hf : fitB m x = true) : bits .or .u16 ((fitsTo sd m n : Nat) : Int) (IntKind.u16.wrap (2 ^ n)) = ((fitsTo sd m (n + 1) : Nat) : Int) := by
  have h2 : 2 ^ n < 65536 := Nat.lt_of_lt_of_le (Nat.pow_lt_pow_right (by omega) hn) (by decide)
  have h3 : fitsTo sd m n < 65536 := Nat.lt_trans (fitsTo_lt sd m n) h2
  have e1 : IntKind.u16.wrap (2 ^ n) = ((2 ^ n : Nat) : Int) := by
    rw [IntKind.wrap_u16]
    have : ((2 : Int) ^ n) = ((2 ^ n : Nat) : Int) := by simp
    rw [this]
    exact Int.emod_eq_of_lt (Int.natCast_nonneg _) (Int.ofNat_lt.2 h2)
  rw [e1, u16_or_nat _ _ h3 h2]
  have e2 : fitsTo sd m (n + 1) = fitsTo sd m n ||| 2 ^ n := by
    rw [fitsTo, hx]
    simp [hf]
  rw [e2]
theorem fit_yes {sd : List Sd} {m n S : Nat} {x : Sd} {w wr : World} {o : Obj} (hx : sd[n]? = some x) (hn : n < 12) (hf : fitB m x = true) (hB : Blk wr S (stCell (m, fitsTo sd m n, fun _ => 0)) 262) (hb : Below w.heap.size w wr) (hS : w.heap.size ≤ S) :
    FitRel sd m S w (.int .i64 ((n : Int) + 1)) ((wr.setCell ⟨S, 1, none⟩ (.int .u16 (bits .or .u16 ((fitsTo sd m n : Nat) : Int) (IntKind.u16.wrap (2 ^ n))))).alloc o).drew := by
  rw [fit_or hx hn hf]
  refine ⟨n + 1, (List.getElem?_eq_some_iff.1 hx).1, by go_num, ?_, ?_⟩
  · exact ((hB.setSame 1 _).alloc o).drewN 1
  · exact (hb.setCell hS _).trans ((below_one1 _ o).mono (by simp; exact hb.size))
theorem fit_no {sd : List Sd} {m n S : Nat} {x : Sd} {w wr : World} {o : Obj} (hx : sd[n]? = some x) (hf : fitB m x = false) (hB : Blk wr S (stCell (m, fitsTo sd m n, fun _ => 0)) 262) (hb : Below w.heap.size w wr) :
    FitRel sd m S w (.int .i64 ((n : Int) + 1)) (wr.alloc o) := by
  refine ⟨n + 1, (List.getElem?_eq_some_iff.1 hx).1, by go_num, ?_, hb.alloc hb.size _⟩
  have e2 : fitsTo sd m (n + 1) = fitsTo sd m n := by
    rw [fitsTo, hx]
    simp [hf]
  rw [e2]
  exact hB.alloc o

set_option maxRecDepth 100000 in
set_option maxHeartbeats 1000000 in
theorem find_miss (M mb m : Nat) (p : Nat × Ms × List Sd) (sts : List St) (w : World) (hR : RunAt w M mb p sts) (hG : Good p sts) (hm : m < b64) (hno : ∀ (i : Nat) (s : St), 1 ≤ i → sts[i]? = some s → s.1 ≠ m) (h12 : p.2.2.length ≤ 12) (hsd : ∀ x ∈ p.2.2, x.1 < b64) (hlen : sts.length ≤ 4194304) :
    Calls Tryz.prog 88 #[.pointer (some ⟨M, 0, none⟩), .int .u64 m] w fun e w' => e = .returned (.int .i64 sts.length) ∧ RunAt w' M mb p (sts ++ [(m, fitsN p m, fun _ => 0)]) ∧ FrmR M mb w w' := by
  obtain ⟨hMw, hmbM⟩ := hR.lt
  obtain ⟨as_, at_, cs, ct, D, hMac, hoS, hoT, hown, hmap, hmb⟩ := hR
  have hhas := (hmap m hm).2 hno
  obtain ⟨vb, hBM⟩ := hMac.blk
  have hc30 : w.cell? ⟨M, 30, none⟩ = some (.map (some mb)) := hBM.cell 30
  have hc29 : w.cell? ⟨M, 29, none⟩ = some (.slice as_ p.2.2.length cs) := hBM.cell 29
  have hMn : M ≠ w.heap.size := by omega
  obtain ⟨i0, ki, kz0, kz1, kz2⟩ := info_parts Tryz.info262
  have HNEW := hide (map_new (f := fitsN p m) (nx := fun _ => 0) (sts := sts) hm hG.one)
  have HHAS := hide hhas
  have HOWN := hide hown
  have HMAC := hide hMac
  have HOS := hide hoS
  have HOT := hide hoT
  have HMAP := hide hmap
  have HNO := hide hno
  have HSD := hide hsd
  have HG := hide hG
  clear hMac hoS hoT hmap hBM hhas hown hno hsd hG
  go_enter Tryz.func88, Tryz.ntmps88
  go_wp2_with (first | (at_lookup; refine wpList_lookup_own_ok_int _ rfl _ _ 113 rfl 116 3 .i64 atomsKeyed Tryz.underlying113 Tryz.underlying3 (zeroInt _) mb sts.length D rfl (unhide HOWN) _ _ rfl (key_atoms m hm) ?_; intro c hat hwc; rw [unhide HHAS]; clear hat hwc) | (refine wpList_build_st rfl (.tmp 21) rfl m rfl ?_) | (refine wpList_alloc_st rfl rfl ?_) | (refine wpList_store_st rfl (.tmp 7) (.tmp 22) rfl rfl m rfl ?_))
  go_loopw [28] (fun v wr => FitRel p.2.2 m w.heap.size w v wr) (fun v _ => 14 - (intOf v).toNat)
  case atStart =>
    go_light
    exact ⟨0, Nat.zero_le _, rfl, Blk.new w _ _, (Below.refl _ _).alloc (Nat.le_refl _) _⟩
  case round =>
    obtain ⟨n, hn, rfl, hB, hb⟩ := hrel
    have hSlt := hB.lt
    by_cases hlt : n < p.2.2.length
    · obtain ⟨g, x, rfl, hx, hg, c0, c1, c2⟩ := side_cells (own_below (unhide HOS) hb) n hlt
      have hxl := unhide HSD x (List.mem_of_getElem? hx)
      have hand : bits .and .u64 (m : Int) (x.1 : Int) = ((m &&& x.1 : Nat) : Int) := u64_and_nat _ _ hm hxl
      have hgn : g ≠ wr.heap.size := by omega
      have s1 : wr.cell? ⟨w.heap.size, 1, none⟩ = some (.int .u16 (fitsTo p.2.2 m n)) := hB.cell 1
      have s1f : wr.frozen? ⟨w.heap.size, 1, none⟩ = false := hB.free 1
      have hSn : w.heap.size ≠ wr.heap.size := by omega
      by_cases hf : fitB m x = true
      · have hrel2 := hide (fun o => fit_yes (o := o) hx (by omega) hf hB hb (Nat.le_refl _))
        cases he : x.2.1 with
        | true =>
          rw [he] at c1
          clear hB hx hf hb hand
          go_wp2_with fail
          go_region
          all_goals
            go_wp2
            go_roundw
            case rel => first | exact unhide hrel2 _ | ((repeat apply Exists.intro); exact ⟨unhide hrel2 _, rfl⟩)
            case measure => simp [intOf]; omega
        | false =>
          rw [he] at c1
          have hnz : m &&& x.1 ≠ 0 := by unfold fitB at hf; rw [he] at hf; simpa using hf
          obtain ⟨z, hz⟩ := Nat.exists_eq_succ_of_ne_zero hnz
          rw [hz] at hand
          have hand2 : bits .and .u64 (m : Int) (x.1 : Int) = (z : Int) + 1 := by rw [hand]; go_num
          have hz0 : (((z : Int) + 1) == 0) = false := by simp; omega
          clear hB hx hf hb hand hnz hz he
          go_wp2_with fail
          go_region
          all_goals
            go_wp2
            go_roundw
            case rel => first | exact unhide hrel2 _ | ((repeat apply Exists.intro); exact ⟨unhide hrel2 _, rfl⟩)
            case measure => simp [intOf]; omega
      · have hf' : fitB m x = false := by simpa using hf
        have hrel2 := hide (fun o => fit_no (o := o) hx hf' hB hb)
        have he : x.2.1 = false := by unfold fitB at hf'; simp at hf'; exact hf'.1
        have hz : m &&& x.1 = 0 := by unfold fitB at hf'; simp at hf'; exact hf'.2
        rw [he] at c1
        rw [hz] at hand
        have hand2 : bits .and .u64 (m : Int) (x.1 : Int) = 0 := by rw [hand]; rfl
        clear hB hx hf hf' hb hand hz he
        go_wp2
        go_roundw
        case rel => first | exact unhide hrel2 _ | ((repeat apply Exists.intro); exact ⟨unhide hrel2 _, rfl⟩)
        case measure => simp [intOf]; omega
    · obtain rfl : n = p.2.2.length := by omega
      have hBF : Blk wr w.heap.size (stCell (m, fitsN p m, fun _ => 0)) 262 := hB
      have hown1 := ((unhide HOWN).kept (grown_of_below hb none) (by simp)).drew
      obtain ⟨w1, hrun, ho1, hg1⟩ := hown1.update (t := 113) (e := 3) atomsKeyed Tryz.underlying113 (by unfold maxLen; omega) (key_atoms m hm) (plainElem_int Tryz.underlying3 (wf_len sts.length hlen))
      have hMr := (unhide HMAC).below hb
      obtain ⟨vb1, hBM1⟩ := hMr.blk
      have hc30r : wr.cell? ⟨M, 30, none⟩ = some (.map (some mb)) := hBM1.cell 30
      have hc31r : wr.cell? ⟨M, 31, none⟩ = some (.slice at_ sts.length ct) := hBM1.cell 31
      have hmid := hide (midF_done (S := w.heap.size) (wr := wr.drew) hb.drew hMr (own_below (unhide HOS) hb.drew) (own_below (unhide HOT) hb.drew) hown1 (unhide HMAP) hmb hMw hBF hm (unhide HG).one (unhide HNO) ho1 hg1)
      clear hB hBF hown1 ho1 hg1 hMr hBM1
      go_upto_region 11 with fail
      go_cut [58] (fun v wc => MidF w M mb w.heap.size p sts m wc)
      case first =>
        go_region
        all_goals
          go_wp2_with fail
          go_meet
          case rel => exact unhide hmid
      case rest =>
        obtain ⟨as2, at2, cs2, ct2, D2, hM2, hoS2, hoT2, hown2, hmap2, hmb2, hB2, hf2⟩ := hcut
        obtain ⟨vb2, hBM2⟩ := hM2.blk
        have hMlt2 := hM2.lt
        have hm30 : wc.cell? ⟨M, 30, none⟩ = some (.map (some mb)) := hBM2.cell 30
        have hm31 : wc.cell? ⟨M, 31, none⟩ = some (.slice at2 sts.length ct2) := hBM2.cell 31
        have hMnc : M ≠ wc.heap.size := by omega
        have hatl := (unhide HNEW D2 hmap2).2
        have hcap : (sts.length + 1) * 232 ≤ 140737488355328 := by omega
        have hmax : sts.length + 1 ≤ maxLen := by unfold maxLen; omega
        have hdone := hide (fun (a' : Option Addr) (c' : Nat) (w2 : World) => find_done (w2 := w2) (at' := a') (ct' := c') (W := (wc.alloc (.cells (stCell (m, fitsN p m, fun _ => 0)).toArray 262)).drew) hM2 hoS2 hoT2 hown2 hmap2 hmb2 hf2 (below_one1 _ _))
        have HoT2 := hide hoT2
        have HB2 := hide hB2
        have hSlt2 := hB2.lt
        have HAT := hide hatl
        clear hM2 hoS2 hoT2 hown2 hmap2 hB2 hf2 hBM2 hatl
        go_wp2_with fail
        refine wp_region_any (by kernel_rfl) ?_
        change wpAny _ _ _ _ _ _ _ (World.drew _)
        refine wpAny_take (i := 0) (v := .pointer (some ⟨M, 0, none⟩)) rfl (by kernel_rfl) (by kernel_rfl) (by kernel_rfl) (fun _ _ _ h => h) (Or.inl ⟨by rfl, ?_⟩) ?_
        · intro w; go_simp
        try simp only [Act.put, List.setIfInBounds_toArray]
        refine wpAny_take (i := 1) (v := .pointer (some ⟨M, 0, none⟩)) rfl (by kernel_rfl) (by kernel_rfl) (by kernel_rfl) (fun _ _ _ h => h) (Or.inl ⟨by rfl, ?_⟩) ?_
        · intro w; go_simp
        try simp only [Act.put]
        refine wpAny_take (i := 2) (v := .pointer (some ⟨M, 0, none⟩)) rfl (by kernel_rfl) (by kernel_rfl) (by kernel_rfl) (fun _ _ _ h => h) (Or.inl ⟨by rfl, ?_⟩) ?_
        · intro w; go_simp
        try simp only [Act.put]
        refine wpAny_take (i := 3) (v := .pointer (some ⟨M, 31, none⟩)) rfl (by kernel_rfl) (by kernel_rfl) (by kernel_rfl) (fun _ _ _ h => h) (Or.inl ⟨by rfl, ?_⟩) ?_
        · intro w; go_simp
        try simp only [Act.put]
        refine wpAny_ready (rs := [4, 5]) (by kernel_rfl) (by simp) ?_
        refine (AllReady.cons rfl (fun K hK => ?_) (AllReady.cons rfl (fun K hK => ?_) AllReady.nil))
        · go_simp
          refine hK _ _ ?_
          clear hK K
          try simp only [Act.put, List.setIfInBounds_toArray, List.set_cons_zero, List.set_cons_succ]
          refine wpAny_ready (rs := [5]) (by kernel_rfl) (by simp) ?_
          refine (AllReady.cons rfl (fun K hK => ?_) AllReady.nil)
          refine step_load_st (by rfl) (.tmp 7) (by rfl) w.heap.size (by rfl) (m, fitsN p m, fun _ => 0) (by exact unhide HB2) ?_
          refine hK _ _ ?_
          clear hK K
          try simp only [Act.put, List.setIfInBounds_toArray]
          refine wpAny_ready (rs := [6]) (by kernel_rfl) (by simp) ?_
          refine (AllReady.cons rfl (fun K hK => ?_) AllReady.nil)
          refine step_slice_st (by rfl) (.tmp 64) (by rfl) m (fitsN p m) (by rfl) ?_
          refine hK _ _ ?_
          clear hK K
          try simp only [Act.put]
          refine wpAny_ready (rs := [7]) (by kernel_rfl) (by simp) ?_
          refine (AllReady.cons rfl (fun K hK => ?_) AllReady.nil)
          (refine step_append_stays (by rfl) (.tmp 63) (.tmp 65) 114 (by rfl) mb 262 i0 (.agg state0.toArray) 29 232 Tryz.underlying114 ki kz0 kz1 kz2 rfl (by decide) (.slice at2 sts.length ct2) sts.length (stCells sts) (by simp [Act.eval]) (by exact (unhide HoT2).alloc _) ⟨wc.heap.size, 0, none⟩ 1 1 (stCell (m, fitsN p m, fun _ => 0)) (by simp [Act.eval]) rfl (by exact news_new _ _ rfl _ _) (oneL _ _ _) hmax hcap (by simp; omega) (by decide) ?_; intro v' w2 hown' hgrow hrow'; obtain ⟨a', c', hv'⟩ := own_form hown'; subst hv'; obtain ⟨⟨vb3, hBM3⟩, hfin, hfrm, hmp⟩ := unhide hdone a' c' w2 hown' hgrow hrow'; have HFIN := hide (And.intro hfin hfrm); have HMP := hide hmp; have hg31 : w2.cell? ⟨M, 31, none⟩ = some (.slice at2 sts.length ct2) := hBM3.cell 31; have hg31f : w2.frozen? ⟨M, 31, none⟩ = false := hBM3.free 31; have hg30 : w2.cell? ⟨M, 30, none⟩ = some (.map (some mb)) := hBM3.cell 30; clear hfin hfrm hmp hown' hgrow hBM3 hrow')
          refine hK _ _ ?_
          clear hK K
          try simp only [Act.put]
          refine wpAny_take (i := 8) (v := .pointer (some ⟨M, 0, none⟩)) rfl (by kernel_rfl) (by kernel_rfl) (by kernel_rfl) (fun _ _ _ h => h) (Or.inl ⟨by rfl, ?_⟩) ?_
          · intro w; go_simp
          try simp only [Act.put]
          refine wpAny_take (i := 9) (v := .pointer (some ⟨M, 31, none⟩)) rfl (by kernel_rfl) (by kernel_rfl) (by kernel_rfl) (fun _ _ _ h => h) (Or.inl ⟨by rfl, ?_⟩) ?_
          · intro w; go_simp
          try simp only [Act.put]
          refine wpAny_ready (rs := [10]) (by kernel_rfl) (by simp) ?_
          refine (AllReady.cons rfl (fun K hK => ?_) AllReady.nil)
          go_simp
          refine hK _ _ ?_
          clear hK K
          try simp only [Act.put, List.setIfInBounds_toArray, List.set_cons_zero, List.set_cons_succ]
          refine wpAny_done (by kernel_rfl) ?_ _
          go_wp2_with (at_lookup; refine wpList_lookup_own_int _ rfl _ _ 113 rfl 116 3 .i64 atomsKeyed Tryz.underlying113 Tryz.underlying3 (zeroInt _) mb _ D2 rfl (unhide HMP) _ _ rfl (key_atoms m hm) ?_; intro c hat hwc; have e1 := unhide HAT; rw [hat] at e1; simp only [DataW.lit.injEq, Lit.int.injEq, true_and] at e1; subst e1; clear hat hwc)
          go_ret
          exact ⟨rfl, unhide HFIN⟩
        · refine step_load_st (by rfl) (.tmp 7) (by rfl) w.heap.size (by rfl) (m, fitsN p m, fun _ => 0) (by exact unhide HB2) ?_
          refine hK _ _ ?_
          clear hK K
          try simp only [Act.put]
          refine wpAny_ready (rs := [4, 6]) (by kernel_rfl) (by simp) ?_
          refine (AllReady.cons rfl (fun K hK => ?_) (AllReady.cons rfl (fun K hK => ?_) AllReady.nil))
          · go_simp
            refine hK _ _ ?_
            clear hK K
            try simp only [Act.put, List.setIfInBounds_toArray, List.set_cons_zero, List.set_cons_succ]
            refine wpAny_ready (rs := [6]) (by kernel_rfl) (by simp) ?_
            refine (AllReady.cons rfl (fun K hK => ?_) AllReady.nil)
            refine step_slice_st (by rfl) (.tmp 64) (by rfl) m (fitsN p m) (by rfl) ?_
            refine hK _ _ ?_
            clear hK K
            try simp only [Act.put, List.setIfInBounds_toArray]
            refine wpAny_ready (rs := [7]) (by kernel_rfl) (by simp) ?_
            refine (AllReady.cons rfl (fun K hK => ?_) AllReady.nil)
            (refine step_append_stays (by rfl) (.tmp 63) (.tmp 65) 114 (by rfl) mb 262 i0 (.agg state0.toArray) 29 232 Tryz.underlying114 ki kz0 kz1 kz2 rfl (by decide) (.slice at2 sts.length ct2) sts.length (stCells sts) (by simp [Act.eval]) (by exact (unhide HoT2).alloc _) ⟨wc.heap.size, 0, none⟩ 1 1 (stCell (m, fitsN p m, fun _ => 0)) (by simp [Act.eval]) rfl (by exact news_new _ _ rfl _ _) (oneL _ _ _) hmax hcap (by simp; omega) (by decide) ?_; intro v' w2 hown' hgrow hrow'; obtain ⟨a', c', hv'⟩ := own_form hown'; subst hv'; obtain ⟨⟨vb3, hBM3⟩, hfin, hfrm, hmp⟩ := unhide hdone a' c' w2 hown' hgrow hrow'; have HFIN := hide (And.intro hfin hfrm); have HMP := hide hmp; have hg31 : w2.cell? ⟨M, 31, none⟩ = some (.slice at2 sts.length ct2) := hBM3.cell 31; have hg31f : w2.frozen? ⟨M, 31, none⟩ = false := hBM3.free 31; have hg30 : w2.cell? ⟨M, 30, none⟩ = some (.map (some mb)) := hBM3.cell 30; clear hfin hfrm hmp hown' hgrow hBM3 hrow')
            refine hK _ _ ?_
            clear hK K
            try simp only [Act.put]
            refine wpAny_take (i := 8) (v := .pointer (some ⟨M, 0, none⟩)) rfl (by kernel_rfl) (by kernel_rfl) (by kernel_rfl) (fun _ _ _ h => h) (Or.inl ⟨by rfl, ?_⟩) ?_
            · intro w; go_simp
            try simp only [Act.put]
            refine wpAny_take (i := 9) (v := .pointer (some ⟨M, 31, none⟩)) rfl (by kernel_rfl) (by kernel_rfl) (by kernel_rfl) (fun _ _ _ h => h) (Or.inl ⟨by rfl, ?_⟩) ?_
            · intro w; go_simp
            try simp only [Act.put]
            refine wpAny_ready (rs := [10]) (by kernel_rfl) (by simp) ?_
            refine (AllReady.cons rfl (fun K hK => ?_) AllReady.nil)
            go_simp
            refine hK _ _ ?_
            clear hK K
            try simp only [Act.put, List.setIfInBounds_toArray, List.set_cons_zero, List.set_cons_succ]
            refine wpAny_done (by kernel_rfl) ?_ _
            go_wp2_with (at_lookup; refine wpList_lookup_own_int _ rfl _ _ 113 rfl 116 3 .i64 atomsKeyed Tryz.underlying113 Tryz.underlying3 (zeroInt _) mb _ D2 rfl (unhide HMP) _ _ rfl (key_atoms m hm) ?_; intro c hat hwc; have e1 := unhide HAT; rw [hat] at e1; simp only [DataW.lit.injEq, Lit.int.injEq, true_and] at e1; subst e1; clear hat hwc)
            go_ret
            exact ⟨rfl, unhide HFIN⟩
          · refine step_slice_st (by rfl) (.tmp 64) (by rfl) m (fitsN p m) (by rfl) ?_
            refine hK _ _ ?_
            clear hK K
            try simp only [Act.put]
            refine wpAny_ready (rs := [4]) (by kernel_rfl) (by simp) ?_
            refine (AllReady.cons rfl (fun K hK => ?_) AllReady.nil)
            go_simp
            refine hK _ _ ?_
            clear hK K
            try simp only [Act.put, List.setIfInBounds_toArray, List.set_cons_zero, List.set_cons_succ]
            refine wpAny_ready (rs := [7]) (by kernel_rfl) (by simp) ?_
            refine (AllReady.cons rfl (fun K hK => ?_) AllReady.nil)
            (refine step_append_stays (by rfl) (.tmp 63) (.tmp 65) 114 (by rfl) mb 262 i0 (.agg state0.toArray) 29 232 Tryz.underlying114 ki kz0 kz1 kz2 rfl (by decide) (.slice at2 sts.length ct2) sts.length (stCells sts) (by simp [Act.eval]) (by exact (unhide HoT2).alloc _) ⟨wc.heap.size, 0, none⟩ 1 1 (stCell (m, fitsN p m, fun _ => 0)) (by simp [Act.eval]) rfl (by exact news_new _ _ rfl _ _) (oneL _ _ _) hmax hcap (by simp; omega) (by decide) ?_; intro v' w2 hown' hgrow hrow'; obtain ⟨a', c', hv'⟩ := own_form hown'; subst hv'; obtain ⟨⟨vb3, hBM3⟩, hfin, hfrm, hmp⟩ := unhide hdone a' c' w2 hown' hgrow hrow'; have HFIN := hide (And.intro hfin hfrm); have HMP := hide hmp; have hg31 : w2.cell? ⟨M, 31, none⟩ = some (.slice at2 sts.length ct2) := hBM3.cell 31; have hg31f : w2.frozen? ⟨M, 31, none⟩ = false := hBM3.free 31; have hg30 : w2.cell? ⟨M, 30, none⟩ = some (.map (some mb)) := hBM3.cell 30; clear hfin hfrm hmp hown' hgrow hBM3 hrow')
            refine hK _ _ ?_
            clear hK K
            try simp only [Act.put, List.setIfInBounds_toArray]
            refine wpAny_take (i := 8) (v := .pointer (some ⟨M, 0, none⟩)) rfl (by kernel_rfl) (by kernel_rfl) (by kernel_rfl) (fun _ _ _ h => h) (Or.inl ⟨by rfl, ?_⟩) ?_
            · intro w; go_simp
            try simp only [Act.put]
            refine wpAny_take (i := 9) (v := .pointer (some ⟨M, 31, none⟩)) rfl (by kernel_rfl) (by kernel_rfl) (by kernel_rfl) (fun _ _ _ h => h) (Or.inl ⟨by rfl, ?_⟩) ?_
            · intro w; go_simp
            try simp only [Act.put]
            refine wpAny_ready (rs := [10]) (by kernel_rfl) (by simp) ?_
            refine (AllReady.cons rfl (fun K hK => ?_) AllReady.nil)
            go_simp
            refine hK _ _ ?_
            clear hK K
            try simp only [Act.put, List.setIfInBounds_toArray, List.set_cons_zero, List.set_cons_succ]
            refine wpAny_done (by kernel_rfl) ?_ _
            go_wp2_with (at_lookup; refine wpList_lookup_own_int _ rfl _ _ 113 rfl 116 3 .i64 atomsKeyed Tryz.underlying113 Tryz.underlying3 (zeroInt _) mb _ D2 rfl (unhide HMP) _ _ rfl (key_atoms m hm) ?_; intro c hat hwc; have e1 := unhide HAT; rw [hat] at e1; simp only [DataW.lit.injEq, Lit.int.injEq, true_and] at e1; subst e1; clear hat hwc)
            go_ret
            exact ⟨rfl, unhide HFIN⟩
end Go.Proofs.YtbppbejigedioabGreatDoor
