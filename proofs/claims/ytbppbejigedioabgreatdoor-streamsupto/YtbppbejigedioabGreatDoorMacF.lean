/- The machine: newMachine. -/
import Derived.Test.YtbppbejigedioabGreatDoorMacY
import Derived.Deep.DeepCutAuto
import Derived.Deep.RegionHeld3
namespace Go.Proofs.YtbppbejigedioabGreatDoor
open Go.RowKit

theorem build_mac (mb : Nat) (at_ : Option Addr) (n c : Nat) (w : World) : (Instr.build 121 #[(4, .map (some mb)), (5, .slice at_ n c)]).run Tryz.prog w = .ok (.agg (macCells 0 (.slice none 0 0) (fun _ => 0) (.slice none 0 0) (.map (some mb)) (.slice at_ n c)).toArray) w := run_build w 121 _ _ (by kernel_rfl)
theorem box_mac (mb : Nat) (at_ : Option Addr) (n c : Nat) (w : World) : (Instr.box 121 (.agg (macCells 0 (.slice none 0 0) (fun _ => 0) (.slice none 0 0) (.map (some mb)) (.slice at_ n c)).toArray)).run Tryz.prog w = .ok (.pointer (some ⟨w.heap.size, 0, none⟩)) (w.alloc (.cells (macCells 0 (.slice none 0 0) (fun _ => 0) (.slice none 0 0) (.map (some mb)) (.slice at_ n c)).toArray 121)) := by kernel_rfl
section
variable {ops : Array Oper} {rest : List Oper} {o : Oper} {a : Act} {w : World} {Q : Exit → Act → World → Prop}
theorem wpList_build_mac (hg : o.guard = none) (x y : Operand) (hop : o.op = Op.build 121 #[(4, x), (5, y)]) (mb : Nat) (at_ : Option Addr) (n c : Nat) (hx : a.eval x = .map (some mb)) (hy : a.eval y = .slice at_ n c)
    (h : wpList Tryz.prog ops Q rest (a.put o.dst (.agg (macCells 0 (.slice none 0 0) (fun _ => 0) (.slice none 0 0) (.map (some mb)) (.slice at_ n c)).toArray)) w) : wpList Tryz.prog ops Q (o :: rest) a w := by
  refine wpList_plain hg fun K' hK' => ?_
  have hrun := build_mac mb at_ n c w
  unfold Oper.wp
  simp [execOp, hop, hx, hy, hrun, Result.andThen]
  exact hK' _ _ h
theorem wpList_box_mac (hg : o.guard = none) (x : Operand) (hop : o.op = Op.box 121 x) (mb : Nat) (at_ : Option Addr) (n c : Nat) (hx : a.eval x = .agg (macCells 0 (.slice none 0 0) (fun _ => 0) (.slice none 0 0) (.map (some mb)) (.slice at_ n c)).toArray)
    (h : wpList Tryz.prog ops Q rest (a.put o.dst (.pointer (some ⟨w.heap.size, 0, none⟩))) (w.alloc (.cells (macCells 0 (.slice none 0 0) (fun _ => 0) (.slice none 0 0) (.map (some mb)) (.slice at_ n c)).toArray 121))) : wpList Tryz.prog ops Q (o :: rest) a w := by
  refine wpList_plain hg fun K' hK' => ?_
  have hrun := box_mac mb at_ n c w
  unfold Oper.wp
  simp [execOp, hop, hx, hrun, Result.andThen]
  exact hK' _ _ h
end

def ld34 : Op := Op.load 119 (.tmp 33)
attribute [local go_sem] ld34
theorem keep_two {wc w2 : World} {b5 b6 M n : Nat} {v0 v1 v2 u0 u1 u2 v : Value} {xs : List Value} {o : Obj} (h5 : Blk wc b5 [v0, v1, v2] 126) (h6 : Blk wc b6 [u0, u1, u2] 128) (ho : wc.ownsRow M 131 3 v n xs) (hg : (wc.alloc o).drew.grownBy w2 v.ownBlock) :
    w2.cell? ⟨b5, 1, none⟩ = some v1 ∧ w2.cell? ⟨b5, 2, none⟩ = some v2 ∧ w2.cell? ⟨b6, 1, none⟩ = some u1 ∧ w2.cell? ⟨b6, 2, none⟩ = some u2 := by
  have g5 := ((h5.alloc o).drewN 1).grown hg (h5.ne_row ho (by decide))
  have g6 := ((h6.alloc o).drewN 1).grown hg (h6.ne_row ho (by decide))
  exact ⟨g5.cell 1, g5.cell 2, g6.cell 1, g6.cell 2⟩
set_option maxRecDepth 100000 in
set_option maxHeartbeats 2000000 in
theorem newMachine_any (rs : List PLn) (a : Option Addr) (cap base : Nat) (w : World) (ho : w.ownsRow base 126 3 (.slice a rs.length cap) rs.length (ruleCells rs)) (hn : rs.length ≤ 12) (h4 : ∀ x ∈ rs, x.1.left.length ≤ 4) :
    Calls Tryz.prog 27 #[.slice a rs.length cap] w fun e w' => e = .returned (.pointer (some ⟨w.heap.size + 2, 0, none⟩)) ∧ SdAt w' (w.heap.size + 2) (newP rs) (.map (some w.heap.size)) (.slice (some ⟨w.heap.size + 1, 0, none⟩) 1 1) ∧ w'.heap[w.heap.size]? = some (.map #[] 0) ∧ Blk w' (w.heap.size + 1) state0 262 ∧ Below w.heap.size w w' := by
  obtain ⟨i0, ki, kz0, kz1, kz2⟩ := info_parts Tryz.info131
  have hmk := make_state
  have hmm := @run_makeMap Tryz.prog
  have HO := hide ho
  have H4 := hide h4
  have HNP := hide (fun n => newP_facts (rs.take n) (fun x hx => h4 x (List.mem_of_mem_take hx)) (by rw [List.length_take]; omega))
  have HNW := hide (newWorld_facts w)
  clear ho h4
  go_enter Tryz.func27, Tryz.ntmps27
  go_wp2_with (first | (refine wpList_build_mac rfl (.tmp 7) (.tmp 8) rfl _ _ _ _ rfl rfl ?_) | (refine wpList_box_mac rfl (.tmp 9) rfl _ _ _ _ rfl ?_))
  go_loopw [13] (fun v wr => NewRel (w.heap.size + 1 + 1) rs (.map (some w.heap.size)) (.slice (some ⟨w.heap.size + 1, 0, none⟩) 1 1) (newWorld w) v wr) (fun v _ => 14 - (intOf v).toNat)
  case atStart =>
    go_light
    exact ⟨0, Nat.zero_le _, rfl, (unhide HNW).1, Below.refl _ _⟩
  case round =>
    obtain ⟨n, hn', rfl, hsd, hf⟩ := hrel
    obtain ⟨np1, np2, np3, np4⟩ := unhide HNP n
    rw [List.length_take] at np2 np4
    have np5 : (newP (rs.take n)).2.2.length ≤ 12 := by omega
    clear np4
    obtain ⟨as_, cs_, hMac, hoS⟩ := hsd
    have hMlt := hMac.lt
    have HMac := hide hMac
    have HoS := hide hoS
    have HF := hide hf
    clear hMac hoS hf
    by_cases hlt : n < rs.length
    · have hb0 : Below w.heap.size w wr := (unhide HNW).2.2.2.1.trans ((unhide HF).mono (by omega))
      obtain ⟨g, x, rfl, hx, hg, c0, c1, c2⟩ := rule_cells (own_below (unhide HO) hb0) n hlt
      have hx4 := unhide H4 x (List.mem_of_getElem? hx)
      obtain ⟨lf1, lf2, lf3, lf4⟩ := layP_facts x.1.left (newP (rs.take n)).2.1 np1 (by omega)
      have hlay := fun W (hW : Below wr.heap.size wr W) => lay_any (w.heap.size + 1 + 1) (newP (rs.take n)).1 (newP (rs.take n)).2.1 _ _ _ x.1.left W ((unhide HMac).below hW) np1 (by omega)
      obtain ⟨tl, vl, hvl⟩ := leftV_iface x.1.left
      rw [hvl] at hlay c0
      unfold LayRes reachV at hlay
      generalize hr : (layP x.1.left (newP (rs.take n)).2.1).2 = r at hlay lf3 lf4
      obtain ⟨rf, rl, re⟩ := r
      simp only at hlay lf3 lf4
      have HL := hide hlay
      have HX := hide hx
      have HVL := hide hvl
      have HR := hide hr
      have hgn : g ≠ wr.heap.size := by omega
      clear hlay hx hvl hr hb0
      go_wp2_with fail
      refine (unhide HL _ ((Below.refl _ _).alloc (Nat.le_refl _) _)).mono ?_
      rintro e w1 ⟨rfl, hM1, hf1⟩
      have hB5 : Blk w1 wr.heap.size [.iface tl vl, .bool (x.1.op == 124), .slice x.2.1 x.1.right.length x.2.2] 126 := hf1.blk (Blk.new wr _ _) (by decide) (by decide)
      have hs1 : wr.heap.size + 1 ≤ w1.heap.size := by have := hf1.size; simpa using this
      have hF1 := hf1.ofAlloc (by omega : w.heap.size + 1 + 1 ≤ wr.heap.size)
      obtain ⟨vb, hBM⟩ := hM1.blk
      have hm0 : w1.cell? ⟨w.heap.size + 1 + 1, 0, none⟩ = some (.int .u64 (newP (rs.take n)).1) := hBM.cell 0
      have hm0f : w1.frozen? ⟨w.heap.size + 1 + 1, 0, none⟩ = false := hBM.free 0
      have hMl1 : w.heap.size + 1 + 1 < w1.heap.size := by omega
      have hMn1 : w.heap.size + 1 + 1 ≠ w1.heap.size := by omega
      have hor : bits .or .u64 ((newP (rs.take n)).1 : Int) (rf : Int) = (((newP (rs.take n)).1 ||| rf : Nat) : Int) := u64_or_nat _ _ np3 lf3
      have hmid := hide (mid_done (p := newP (rs.take n)) (x := x) (r := (rf, rl, re)) hM1 (unhide HoS) hF1 (unhide HF) hMlt (by rw [unhide HVL]; exact hB5))
      clear hM1 hf1 hB5 hBM hF1
      go_upto_region 6 with fail
      go_cut [27] (fun v wc => MidRel (w.heap.size + 1 + 1) (newP (rs.take n)) x (rf, rl, re) (.map (some w.heap.size)) (.slice (some ⟨w.heap.size + 1, 0, none⟩) 1 1) (newWorld w) wr.heap.size w1.heap.size wc)
      case first =>
        go_region
        all_goals
          go_wp2_with fail
          go_meet
          case rel => exact unhide hmid
      case rest =>
        obtain ⟨a2, c2', hM2, hoS2, hB5, hB6, hf2, hMw2⟩ := hcut
        rw [unhide HVL] at hB5
        obtain ⟨vb, hBM⟩ := hM2.blk
        have hm29 : wc.cell? ⟨w.heap.size + 1 + 1, 29, none⟩ = some (.slice a2 (newP (rs.take n)).2.2.length c2') := hBM.cell 29
        obtain ⟨p0, p1, p2, p3⟩ := hB5.three
        obtain ⟨q0, q1, q2, q3⟩ := hB6.three
        have h5lt := hB5.lt
        have h6lt := hB6.lt
        have hMltc := hBM.lt
        have hMnc : w.heap.size + 1 + 1 ≠ wc.heap.size := by omega
        have HoS2 := hide hoS2
        have HM2 := hide hM2
        have HF2 := hide hf2
        have hcap : ((newP (rs.take n)).2.2.length + 1) * 16 ≤ 140737488355328 := by omega
        have hmax : (newP (rs.take n)).2.2.length + 1 ≤ maxLen := by unfold maxLen; omega
        have hdone := hide (fun (a' : Option Addr) (c' : Nat) (w2 : World) => side_done (M := w.heap.size + 1 + 1) (W := (wc.alloc (.cells #[.int .u64 rl, .bool re, .bool (x.1.op == 124)] 131)).drew) (w2 := w2) (a' := a') (c' := c') (w0 := newWorld w) (unhide HX) (by rw [unhide HR]; exact unhide HM2) (unhide HoS2) (unhide HF2) hMw2 (below_one1 _ _))
        rw [unhide HR] at hdone
        have HKEEP := hide (fun (w2 : World) (hg : World.grownBy (wc.alloc (.cells #[.int .u64 rl, .bool re, .bool (x.1.op == 124)] 131)).drew w2 (Value.slice a2 (newP (rs.take n)).2.2.length c2').ownBlock) => keep_two hB5 hB6 hoS2 hg)
        have hMb5 : w.heap.size + 1 + 1 ≠ wr.heap.size := by omega
        have hMb6 : w.heap.size + 1 + 1 ≠ w1.heap.size := by omega
        have hb5M : wr.heap.size ≠ w.heap.size + 1 + 1 := by omega
        have hb6M : w1.heap.size ≠ w.heap.size + 1 + 1 := by omega
        clear hM2 hoS2 hB5 hB6 hf2 hBM c0 c1 c2
        go_wp2_with fail
        rw [show Op.load 119 (.tmp 33) = ld34 from rfl]
        go_region_held3 (fun w' => w'.cell? ⟨wr.heap.size, 1, none⟩ = some (.bool (x.1.op == 124)) ∧ w'.cell? ⟨w1.heap.size, 1, none⟩ = some (.int .u64 rl) ∧ w'.cell? ⟨w1.heap.size, 2, none⟩ = some (.bool re)) (first | go_keep | (exact ⟨y1, y3, y4⟩)) ((refine step_append_own rfl (.tmp 34) (.tmp 42) 119 rfl (w.heap.size + 1 + 1) 131 i0 (.agg #[.int .u64 0, .bool false, .bool false]) 3 16 Tryz.underlying119 ki kz0 kz1 kz2 rfl (by decide) (.slice a2 (newP (rs.take n)).2.2.length c2') (newP (rs.take n)).2.2.length (sideCells (newP (rs.take n)).2.2) (by simp [Act.eval]) (by exact (unhide HoS2).alloc _) ⟨wc.heap.size, 0, none⟩ 1 1 [.int .u64 rl, .bool re, .bool (x.1.op == 124)] (by simp [Act.eval]) rfl (by exact news_new _ _ rfl _ _) (oneS _ _ _) hmax hcap (by simp; omega) ?_; intro v' w2 hown' hgrow; obtain ⟨a', c', hv'⟩ := own_form hown'; subst hv'; obtain ⟨⟨vb2, hBM2⟩, hfin⟩ := unhide hdone a' c' w2 hown' hgrow; have HFIN := hide hfin; have hg29 : w2.cell? ⟨w.heap.size + 1 + 1, 29, none⟩ = some (.slice a2 (newP (rs.take n)).2.2.length c2') := hBM2.cell 29; have hg29f : w2.frozen? ⟨w.heap.size + 1 + 1, 29, none⟩ = false := hBM2.free 29; obtain ⟨y1, _, y3, y4⟩ := unhide HKEEP w2 hgrow; clear hfin hown' hgrow hBM2))
        all_goals
          go_wp2
          go_roundw
          case rel => first | exact unhide HFIN | ((repeat apply Exists.intro); exact ⟨unhide HFIN, rfl⟩)
          case measure => simp [intOf]; omega
    · obtain rfl : n = rs.length := by omega
      have hfin : Hid (SdAt wr (w.heap.size + 2) (newP rs) (.map (some w.heap.size)) (.slice (some ⟨w.heap.size + 1, 0, none⟩) 1 1) ∧ wr.heap[w.heap.size]? = some (.map #[] 0) ∧ Blk wr (w.heap.size + 1) state0 262 ∧ Below w.heap.size w wr) := hide (by
        obtain ⟨w1f, w2f, w3f, w4f, w5f⟩ := unhide HNW
        refine ⟨⟨as_, cs_, ?_⟩, ?_, w3f.below (unhide HF) (by omega), w4f.trans ((unhide HF).mono (by omega))⟩
        · have e : rs.take rs.length = rs := List.take_length
          rw [e] at HMac HoS
          exact ⟨unhide HMac, unhide HoS⟩
        · rw [(unhide HF).block _ (by omega)]; exact w2f)
      go_wp2
      go_ret
      exact ⟨rfl, unhide hfin⟩
end Go.Proofs.YtbppbejigedioabGreatDoor
