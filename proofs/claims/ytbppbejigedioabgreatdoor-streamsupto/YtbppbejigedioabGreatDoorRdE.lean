/- Walks: the program's class. -/
import Derived.Test.YtbppbejigedioabGreatDoorRdD
import Derived.Test.YtbppbejigedioabGreatDoorRefB
namespace Go.Proofs.YtbppbejigedioabGreatDoor
open Go.RowKit

def pitemCells (k : Int) : List Cu.Item → List Value
  | [] => []
  | x :: r => [.int .i32 x.1, .int .i32 x.2.1, .int .i64 k, .int .i64 x.2.2] ++ pitemCells k r
theorem pitemCells_snoc (k : Int) (l : List Cu.Item) (x : Cu.Item) : pitemCells k (l ++ [x]) = pitemCells k l ++ [.int .i32 x.1, .int .i32 x.2.1, .int .i64 k, .int .i64 x.2.2] := by
  induction l with
  | nil => rfl
  | cons y l ih => simp [pitemCells, ih]
theorem Tryz.info108 : (Tryz.prog.info? 108).map (fun i => (i.zero, i.size, i.bytes)) = some (some (.agg #[.int .i32 0, .int .i32 0, .int .i64 0, .int .i64 0]), 4, 24) := by kernel_rfl
theorem one4 {k0 k1 k2 k3 : IntKind} (a b c d : Int) : ∀ u ∈ [Value.int k0 a, Value.int k1 b, Value.int k2 c, Value.int k3 d], u.oneCell' = true := by
  intro u hu
  simp at hu
  rcases hu with rfl | rfl | rfl | rfl <;> rfl

/-- The reader's place, off the world. -/
def rdAt (w : World) (R : Nat) : Nat := match w.cell? ⟨R, 1, none⟩ with
  | some (.int _ n) => n.toNat
  | _ => 0
theorem rdAt_eq {w : World} {R i : Nat} {s : ByteArray} (h : RdBlk w R s i) : rdAt w R = i := by
  unfold rdAt; rw [h.cell 1]; simp

def PClassRel (s : ByteArray) (i R : Nat) (k : Int) (p0 : Nat) (w : World) (wr : World) : Prop :=
  ∃ (j f cap : Nat) (l : List Cu.Item) (a : Option Addr), j ≤ s.size ∧ l.length ≤ j ∧ s.size < f + j ∧
    Blk wr w.heap.size [.int .i64 k, .int .i64 p0, .slice a l.length cap] 173 ∧
    wr.ownsRow (w.heap.size + 1) 108 4 (.slice a l.length cap) l.length (pitemCells k l) ∧ Rd w wr R s j ∧
    Cu.classGo s.data.toList f j l = Cu.classGo s.data.toList (s.size + 1) i []

def PClassRes (s : ByteArray) (i R : Nat) (k : Int) (p0 : Nat) (w : World) (e : Ending) (w' : World) : Prop :=
  (∃ p l, Cu.classGo s.data.toList (s.size + 1) i [] = (false, p, l) ∧ e = .returned (.tuple #[.nilIface, faultV p]) ∧ Rd w w' R s p) ∨
  (∃ (p cap : Nat) (l : List Cu.Item) (a : Option Addr), Cu.classGo s.data.toList (s.size + 1) i [] = (true, p, l) ∧
    e = .returned (.tuple #[.iface 173 (.agg #[.int .i64 k, .int .i64 p0, .slice a l.length cap]), .nilIface]) ∧
    w'.ownsRow w.heap.size 108 4 (.slice a l.length cap) l.length (pitemCells k l) ∧ Rd w w' R s p)

theorem Rd.of_drewN {w w' : World} {R j q : Nat} {s : ByteArray} (h : Rd (w.drewN q) w' R s j) : Rd w w' R s j := ⟨grown_trans (grown_drewN w q _) h.grown, h.blk⟩

theorem pclass_step {s : ByteArray} {i R p0 j' g cap cap' : Nat} {k : Int} {l : List Cu.Item} {x : Cu.Item} {a a' : Option Addr} {w w2 : World} (h2 : j' ≤ s.size) (h3 : l.length + 1 ≤ j') (h4 : s.size < g + j') (hne : R ≠ w.heap.size) (_hRlt : R < w.heap.size)
    (hB : Blk w2 w.heap.size [.int .i64 k, .int .i64 p0, .slice a l.length cap] 173)
    (ho : w2.ownsRow (w.heap.size + 1) 108 4 (.slice a' (l.length + 1) cap') (l.length + 1) (pitemCells k l ++ [.int .i32 x.1, .int .i32 x.2.1, .int .i64 k, .int .i64 x.2.2]))
    (hrd : Rd w w2 R s j') (hgo : Cu.classGo s.data.toList g j' (l ++ [x]) = Cu.classGo s.data.toList (s.size + 1) i []) :
    PClassRel s i R k p0 w (w2.setCell ⟨w.heap.size, 2, none⟩ (.slice a' (l.length + 1) cap')) ∧ rdAt (w2.setCell ⟨w.heap.size, 2, none⟩ (.slice a' (l.length + 1) cap')) R = j' := by
  have hlen : (l ++ [x]).length = l.length + 1 := by simp
  have hrd' : Rd w (w2.setCell ⟨w.heap.size, 2, none⟩ (.slice a' (l.length + 1) cap')) R s j' := hrd.setNew (Nat.le_refl _) (fun e => hne e.symm) _
  refine ⟨⟨j', g, cap', l ++ [x], a', h2, by omega, h4, ?_, ?_, hrd', hgo⟩, rdAt_eq hrd'.blk⟩
  · rw [hlen]; exact hB.setSame 2 _
  · rw [hlen, pitemCells_snoc]; exact ownsRow_setCell_below ho (by simp) _

set_option maxRecDepth 100000 in
set_option maxHeartbeats 2000000 in
theorem pclass_any (s : ByteArray) (i R : Nat) (k : Int) (p0 : Nat) (w : World) (hs : s.size ≤ 200) (hi : i ≤ s.size) (hR : RdBlk w R s i) (hT : Tabs w) (hR2 : 4 < R) :
    Calls Tryz.prog 110 #[.pointer (some ⟨R, 0, none⟩), .int .i64 k, .int .i64 p0] w fun e w' => PClassRes s i R k p0 w e w' := by
  have hRlt := hR.lt
  have hne : R ≠ w.heap.size := by omega
  obtain ⟨i0, ki, kz0, kz1, kz2⟩ := info_parts Tryz.info108
  go_enter Tryz.func110, Tryz.ntmps110
  go_wp2
  go_loopw [10] (fun _ wr => PClassRel s i R k p0 w wr) (fun _ wr => s.size + 1 - rdAt wr R)
  case atStart =>
    go_light
    exact ⟨i, s.size + 1, 0, [], none, hi, Nat.zero_le _, by omega, Blk.new w _ _, World.ownsRow_nil _ _ _ _, ⟨World.grownBy_alloc _ _ _, hR.alloc _⟩, rfl⟩
  case round =>
    obtain ⟨j, f, cap, l, a, hj, hl, hf, hB, hown, hrd, hgo⟩ := hrel
    obtain ⟨g, rfl⟩ : ∃ g, f = g + 1 := ⟨f - 1, by omega⟩
    have HG := hide hgo
    have HO := hide hown
    clear hgo hown hR
    obtain ⟨b0, b1, b2, b3⟩ := hB.three
    have hBlt := hB.lt
    have hRw := hrd.blk.lt
    have hwr := hrd.grown.size
    have HTw := hide (hrd.tabs hT hR2)
    have hrdj := hide (rdAt_eq hrd.blk)
    go_upto_region 2 with fail
    go_cut [22] (fun b wc => b = .bool (decide (l = []) || Cu.more s.data.toList j) ∧ ∃ q, wc = wr.drewN q)
    case first =>
      by_cases hl0 : l = []
      · have hlen : ((l.length : Int) == 0) = true := by rw [hl0]; rfl
        have hd : Hid (decide (l = []) = true) := hide (by simpa using hl0)
        clear hl0
        go_wp2
        go_meet
        case rel => exact ⟨by rw [unhide hd]; rfl, 0, rfl⟩
      · have hlen : ((l.length : Int) == 0) = false := by rw [beq_eq_false_iff_ne]; intro h; exact hl0 (List.length_eq_zero_iff.1 (by omega))
        have hd : Hid (decide (l = []) = false) := hide (by simpa using hl0)
        clear hl0
        go_wp2_with fail
        refine (lineEnds_any s j R _ hs hj hrd.blk).mono ?_
        rintro e w1 ⟨rfl, q, rfl⟩
        go_wp2
        go_meet
        case rel => exact ⟨by rw [unhide hd]; simp, q, rfl⟩
    case rest =>
      obtain ⟨rfl, q, rfl⟩ := hcut
      cases hct : (decide (l = []) || Cu.more s.data.toList j) with
      | false =>
        have hdone : l ≠ [] ∧ Cu.more s.data.toList j = false := by
          rw [Bool.or_eq_false_iff] at hct
          exact ⟨by simpa using hct.1, hct.2⟩
        have hr : Hid (Cu.classGo s.data.toList (s.size + 1) i [] = (true, j, l)) := hide (by rw [← unhide HG, Cu.classGo_done hdone])
        clear hct hdone
        go_wp2
        go_ret2
        exact Or.inr ⟨j, cap, l, a, unhide hr, rfl, own_base (unhide HO) (by omega), hrd.drewN q⟩
      | true =>
        have hdone : ¬ (l ≠ [] ∧ Cu.more s.data.toList j = false) := by
          rintro ⟨h1, h2⟩
          rw [h2, Bool.or_false] at hct
          exact h1 (by simpa using hct)
        have hie := Cu.itemEnd_le s.data.toList j (by rw [len_toList]; exact hj)
        rw [len_toList] at hie
        cases hok : Cu.itemOk s.data.toList j with
        | false =>
          have hr : Hid (Cu.classGo s.data.toList (s.size + 1) i [] = (false, Cu.itemEnd s.data.toList j, l)) := hide (by rw [← unhide HG, Cu.classGo_bad hdone hok])
          clear hct hdone
          go_wp2_with fail
          refine (item_no1 s j R _ _ hs hj (hrd.blk.drewN q) (tabs_grown (unhide HTw) (grown_drewN _ _ none) (by simp) (by simp)) hok).mono ?_
          rintro e w1 ⟨rfl, hr1⟩
          have hr1' := hide (hrd.trans hr1.of_drewN)
          clear hr1 hok
          unfold faultV
          go_wp2
          go_ret2
          exact Or.inl ⟨_, l, unhide hr, rfl, (unhide hr1').alloc _⟩
        | true =>
          have hlt := Cu.itemOk_lt hok
          have HOK := hide hok
          go_wp2_with fail
          refine (item_yes s j R _ _ hs hj (hrd.blk.drewN q) (tabs_grown (unhide HTw) (grown_drewN _ _ none) (by simp) (by simp)) hR2 hok).mono ?_
          rintro e w1 (⟨hda, rfl, hr1⟩ | ⟨hda, hok2, rfl, hr1⟩ | ⟨hda, hok2, rfl, hr1⟩)
          · have hnext := hide (show Cu.classGo s.data.toList g (Cu.itemEnd s.data.toList j) (l ++ [(Cu.itemCode s.data.toList j, Cu.itemCode s.data.toList j, j)]) = Cu.classGo s.data.toList (s.size + 1) i [] by rw [← unhide HG, Cu.classGo_one hdone hok hda])
            clear hct hdone hda hok
            have hO1 := hide (hr1.own (by exact unhide HO) (by omega : R < w.heap.size + 1))
            have hX1 := hr1.other (hB.drewN q) (by omega)
            have hr1' := hide (hrd.trans hr1.of_drewN)
            obtain ⟨y0, y1, y2, y3⟩ := hX1.three
            have hw1 := hr1.grown.size
            have hw1' : w.heap.size < w1.heap.size := hX1.lt
            have hcap : (l.length + 1) * 24 ≤ 140737488355328 := by omega
            have hmax : l.length + 1 ≤ maxLen := by unfold maxLen; omega
            clear b0 b1 b2 b3
            go_wp2_with (at_builtin; refine wpList_append_own _ rfl (.tmp 33) (.tmp 35) 66 rfl (w.heap.size + 1) 108 i0 (.agg #[.int .i32 0, .int .i32 0, .int .i64 0, .int .i64 0]) 4 24 Tryz.underlying66 ki kz0 kz1 kz2 rfl (by decide) (.slice a l.length cap) l.length (pitemCells k l) rfl (((unhide hO1).alloc _).alloc _) ⟨w1.heap.size + 1, 0, none⟩ 1 1 [.int .i32 (Cu.itemCode s.data.toList j), .int .i32 (Cu.itemCode s.data.toList j), .int .i64 k, .int .i64 j] rfl rfl (news_new _ _ (by simp) _ _) (one4 _ _ _ _) hmax hcap (by simp; omega) ?_; intro v' w2 hown' hgrow _; refine Hid.out ?_)
            refine hide ?_
            obtain ⟨a', cap', hv'⟩ := own_form hown'
            subst hv'
            have hr2 := (((unhide hr1').alloc _).alloc _).grow hgrow (fun b hb => by have := ((unhide hO1).lt b hb).1; omega) hRlt
            have hX2 := ((hX1.alloc _).alloc _).grown hgrow (row_ne_low' (unhide hO1) (by omega))
            obtain ⟨hst1, hst2⟩ := pclass_step (s := s) (i := i) (k := k) (g := g) (x := (Cu.itemCode s.data.toList j, Cu.itemCode s.data.toList j, j)) hie.2 (by omega) (by omega) hne hRlt hX2 hown' hr2 (unhide hnext)
            have HST1 := hide hst1
            have HST2 := hide hst2
            clear y0 y1 y2 y3
            obtain ⟨y0, y1, y2, y3⟩ := hX2.three
            clear hown' hgrow hr2 hst1 hst2 hr1
            go_wp2
            go_roundw
            case rel => first | exact unhide HST1 | ((repeat apply Exists.intro); exact ⟨unhide HST1, rfl⟩)
            case measure => rw [unhide HST2, unhide hrdj]; omega
          · have hr : Hid (Cu.classGo s.data.toList (s.size + 1) i [] = (false, Cu.itemEnd s.data.toList (Cu.itemEnd s.data.toList j + 1), l)) := hide (by rw [← unhide HG, Cu.classGo_bad2 hdone hok hda hok2])
            have hr1' := hide (hrd.trans hr1.of_drewN)
            clear hr1 hok hok2 hda hct hdone
            unfold faultV
            go_wp2
            go_ret2
            exact Or.inl ⟨_, l, unhide hr, rfl, (unhide hr1').alloc _⟩
          · have hdl : Cu.itemEnd s.data.toList j < s.size := by
              have h := hda
              unfold Cu.dash at h
              rw [len_toList] at h
              simp only [Bool.and_eq_true, decide_eq_true_eq] at h
              exact h.1
            have hie2 := Cu.itemEnd_le s.data.toList (Cu.itemEnd s.data.toList j + 1) (by rw [len_toList]; exact hdl)
            rw [len_toList] at hie2
            have hlt2 := Cu.itemOk_lt hok2
            have hnext := hide (show Cu.classGo s.data.toList g (Cu.itemEnd s.data.toList (Cu.itemEnd s.data.toList j + 1)) (l ++ [(Cu.itemCode s.data.toList j, Cu.itemCode s.data.toList (Cu.itemEnd s.data.toList j + 1), j)]) = Cu.classGo s.data.toList (s.size + 1) i [] by rw [← unhide HG, Cu.classGo_two hdone hok hda hok2])
            clear hct hdone hda hok hok2
            have hO1 := hide (hr1.own (by exact unhide HO) (by omega : R < w.heap.size + 1))
            have hX1 := hr1.other (hB.drewN q) (by omega)
            have hr1' := hide (hrd.trans hr1.of_drewN)
            obtain ⟨y0, y1, y2, y3⟩ := hX1.three
            have hw1 := hr1.grown.size
            have hw1' : w.heap.size < w1.heap.size := hX1.lt
            have hcap : (l.length + 1) * 24 ≤ 140737488355328 := by omega
            have hmax : l.length + 1 ≤ maxLen := by unfold maxLen; omega
            clear b0 b1 b2 b3
            go_wp2_with (at_builtin; refine wpList_append_own _ rfl (.tmp 33) (.tmp 35) 66 rfl (w.heap.size + 1) 108 i0 (.agg #[.int .i32 0, .int .i32 0, .int .i64 0, .int .i64 0]) 4 24 Tryz.underlying66 ki kz0 kz1 kz2 rfl (by decide) (.slice a l.length cap) l.length (pitemCells k l) rfl (((unhide hO1).alloc _).alloc _) ⟨w1.heap.size + 1, 0, none⟩ 1 1 [.int .i32 (Cu.itemCode s.data.toList j), .int .i32 (Cu.itemCode s.data.toList (Cu.itemEnd s.data.toList j + 1)), .int .i64 k, .int .i64 j] rfl rfl (news_new _ _ (by simp) _ _) (one4 _ _ _ _) hmax hcap (by simp; omega) ?_; intro v' w2 hown' hgrow _; refine Hid.out ?_)
            refine hide ?_
            obtain ⟨a', cap', hv'⟩ := own_form hown'
            subst hv'
            have hr2 := (((unhide hr1').alloc _).alloc _).grow hgrow (fun b hb => by have := ((unhide hO1).lt b hb).1; omega) hRlt
            have hX2 := ((hX1.alloc _).alloc _).grown hgrow (row_ne_low' (unhide hO1) (by omega))
            obtain ⟨hst1, hst2⟩ := pclass_step (s := s) (i := i) (k := k) (g := g) (x := (Cu.itemCode s.data.toList j, Cu.itemCode s.data.toList (Cu.itemEnd s.data.toList j + 1), j)) hie2.2 (by omega) (by omega) hne hRlt hX2 hown' hr2 (unhide hnext)
            have HST1 := hide hst1
            have HST2 := hide hst2
            clear y0 y1 y2 y3
            obtain ⟨y0, y1, y2, y3⟩ := hX2.three
            clear hown' hgrow hr2 hst1 hst2 hr1
            go_wp2
            go_roundw
            case rel => first | exact unhide HST1 | ((repeat apply Exists.intro); exact ⟨unhide HST1, rfl⟩)
            case measure => rw [unhide HST2, unhide hrdj]; omega
end Go.Proofs.YtbppbejigedioabGreatDoor
/- Walks: the program's line. -/
namespace Go.Proofs.YtbppbejigedioabGreatDoor
open Go.RowKit

/-- A line that is not empty, as the program holds it. -/
def plineV (x : Cu.Ln) (a : Option Addr) (c : Nat) : Value :=
  if x.op = 0 then .iface 173 (.agg #[.int .i64 (Cu.sk x.name), .int .i64 x.at_, .slice a x.items.length c]) else .iface 126 (.agg #[leftV x.left, .bool (x.op == 124), .slice a x.right.length c])
def PLnOwn (w : World) (base : Nat) (x : Cu.Ln) (a : Option Addr) (c : Nat) : Prop :=
  if x.op = 0 then w.ownsRow base 108 4 (.slice a x.items.length c) x.items.length (pitemCells (Cu.sk x.name) x.items) else w.ownsRow base 193 2 (.slice a x.right.length c) x.right.length (signCells x.right)

def PLineRes (s : ByteArray) (i R : Nat) (w : World) (e : Ending) (w' : World) : Prop :=
  ((Cu.lineAt s.data.toList i).1 = false ∧ e = .returned (.tuple #[.nilIface, faultV (Cu.lineAt s.data.toList i).2.1]) ∧ Rd w w' R s (Cu.lineAt s.data.toList i).2.1) ∨
  (∃ (a : Option Addr) (c : Nat), (Cu.lineAt s.data.toList i).1 = true ∧ e = .returned (.tuple #[plineV (Cu.lineAt s.data.toList i).2.2 a c, .nilIface]) ∧ PLnOwn w' w.heap.size (Cu.lineAt s.data.toList i).2.2 a c ∧ Rd w w' R s (Cu.lineAt s.data.toList i).2.1)

def eqB : ByteArray := ⟨#[61]⟩
theorem name_tk (s : List UInt8) (i : Nat) : decide (0 ≤ Cu.tk s Cu.nameL i) = (decide (i < s.length) && Cu.isName (Cu.byt s i)) := by
  by_cases h : i < s.length
  · rw [Cu.tk_at h]; simp only [h, decide_true, Bool.true_and]; exact Cu.name_all ⟨Cu.byt s i, Cu.byt_lt' s i⟩
  · rw [Cu.tk_end h]; simp [h]
theorem eq_tk (s : List UInt8) (i : Nat) : decide (0 ≤ Cu.tk s eqB.data.toList i) = (decide (i < s.length) && (Cu.byt s i == 61)) := by
  by_cases h : i < s.length
  · rw [Cu.tk_at h]; simp only [h, decide_true, Bool.true_and]; exact Cu.eq_all ⟨Cu.byt s i, Cu.byt_lt' s i⟩
  · rw [Cu.tk_end h]; simp [h]

theorem nameB_toList : (signB.extract 0 26).data.toList = Cu.nameL := by rw [extract_list]; rfl

theorem pline_class {s : ByteArray} {i R : Nat} {w w1 w' : World} {e : Ending} (hc : Cu.isClass s.data.toList i = true) (hr : Rd w w1 R s (i + 2)) (h : PClassRes s (i + 2) R (Cu.sk (Cu.byt s.data.toList i)) i w1 e w') : PLineRes s i R w e w' := by
  rcases h with ⟨p, l, hg, rfl, hrd⟩ | ⟨p, cap, l, a, hg, rfl, ho, hrd⟩
  · have e1 := Cu.lineAt_class (b := false) (p := p) (l := l) hc (by rw [len_toList]; exact hg)
    left
    rw [e1]
    exact ⟨rfl, rfl, hr.trans hrd⟩
  · have e1 := Cu.lineAt_class (b := true) (p := p) (l := l) hc (by rw [len_toList]; exact hg)
    right
    refine ⟨a, cap, ?_⟩
    rw [e1]
    exact ⟨rfl, rfl, own_base ho hr.grown.size, hr.trans hrd⟩
theorem mid_op {s : List UInt8} {j : Nat} (h : Cu.mid s j = true) : Cu.byt s j ≠ 0 := by
  unfold Cu.mid at h
  intro h0
  rw [h0] at h
  simp at h
theorem ruleAt_op {s : List UInt8} {i p op : Nat} {l r : List Cu.Atom} (h : Cu.ruleAt s i = (true, p, op, l, r)) : op ≠ 0 := by
  cases hm : Cu.mid s (Cu.leftGo s 4 i []).1 with
  | true => rw [Cu.ruleAt_yes hm] at h; simp only [Prod.mk.injEq, true_and] at h; rw [← h.2.1]; exact mid_op hm
  | false => rw [Cu.ruleAt_no hm] at h; simp at h
theorem pline_rule {s : ByteArray} {i R : Nat} {w w1 w' : World} {e : Ending} (hc : Cu.isClass s.data.toList i = false) (hm : Cu.more s.data.toList i = true) (hr : Rd w w1 R s i) (h : PRuleRes s i R w1 e w') : PLineRes s i R w e w' := by
  rcases h with ⟨p, op, l, hg, rfl, hrd⟩ | ⟨p, op, l, r, a, cap, hg, rfl, ho, hrd⟩
  · have e1 := Cu.lineAt_rule hc hm hg
    left
    rw [e1]
    exact ⟨rfl, rfl, hr.trans hrd⟩
  · have e1 := Cu.lineAt_rule hc hm hg
    have hop := ruleAt_op hg
    right
    refine ⟨a, cap, ?_⟩
    rw [e1]
    refine ⟨rfl, ?_, ?_, hr.trans hrd⟩
    · unfold plineV; rw [if_neg hop]
    · unfold PLnOwn; rw [if_neg hop]; exact own_base ho hr.grown.size

set_option maxRecDepth 100000 in
set_option maxHeartbeats 1000000 in
theorem pline_any (s : ByteArray) (i R : Nat) (w : World) (hs : s.size ≤ 200) (hi : i ≤ s.size) (hR : RdBlk w R s i) (hT : Tabs w) (hR2 : 4 < R) (hm : Cu.more s.data.toList i = true) :
    Calls Tryz.prog 74 #[.pointer (some ⟨R, 0, none⟩)] w fun e w' => PLineRes s i R w e w' := by
  have hRlt := hR.lt
  obtain ⟨c0, c1, c2⟩ := hR.two
  go_enter Tryz.func74, Tryz.ntmps74
  have hml := (Cu.more_true hm).1
  rw [len_toList] at hml
  have hnk := name_tk s.data.toList i
  rw [len_toList] at hnk
  simp only [hml, decide_true, Bool.true_and] at hnk
  have HNK := hide hnk
  clear hnk
  go_wp2_with fail
  refine (take_any s (signB.extract 0 26) i R _ hs hi hR).mono ?_
  rintro e w1 ⟨rfl, hr1⟩
  rw [nameB_toList] at hr1 ⊢
  cases hnm : Cu.isName (Cu.byt s.data.toList i) with
  | false =>
    have hd : ¬ 0 ≤ Cu.tk s.data.toList Cu.nameL i := by have h := unhide HNK; rw [hnm] at h; simpa using h
    have hcl : Hid (Cu.isClass s.data.toList i = false) := hide (by unfold Cu.isClass; rw [hnm]; simp)
    rw [Cu.tk_no hd] at hr1
    obtain ⟨d0, d1, d2⟩ := hr1.blk.two
    have hrm := hide (hr1.move i i rfl)
    have HM := hide hm
    clear hnm hm c0 c1 c2
    go_wp2_with fail
    refine (prule_any s i R _ hs hi (unhide hrm).blk).mono ?_
    rintro e w2 hres
    have HP := hide (pline_rule (unhide hcl) (unhide HM) (unhide hrm) hres)
    rcases hres with ⟨p, op, l, hg, rfl, hrd⟩ | ⟨p, op, l, r, a, cap, hg, rfl, ho, hrd⟩
    · clear hg hrd
      go_wp2
      go_ret2
      exact unhide HP
    · clear hg hrd ho
      go_wp2
      go_ret2
      exact unhide HP
  | true =>
    have hd : 0 ≤ Cu.tk s.data.toList Cu.nameL i := by have h := unhide HNK; rw [hnm] at h; simpa using h
    have hend : Cu.tkEnd s.data.toList Cu.nameL i = i + 1 := by unfold Cu.tkEnd; rw [if_pos hd]
    have hsk : Hid (Cu.tk s.data.toList Cu.nameL i = Cu.sk (Cu.byt s.data.toList i)) := hide (by
      rw [Cu.tk_at (by rw [len_toList]; exact hml)]
      exact Cu.name_sign ⟨Cu.byt s.data.toList i, Cu.byt_lt' _ _⟩ hnm)
    rw [hend] at hr1
    have HT1 := hide (hr1.tabs hT hR2)
    have hek := eq_tk s.data.toList (i + 1)
    rw [len_toList] at hek
    have HEK := hide hek
    have HNM := hide hnm
    clear hend hek hnm
    go_wp2_with fail
    refine (take_any s eqB (i + 1) R _ hs (by omega) hr1.blk).mono ?_
    rintro e w2 ⟨rfl, hr2⟩
    cases hcl : Cu.isClass s.data.toList i with
    | true =>
      obtain ⟨g1, g2, g3⟩ := Cu.isClass_true hcl
      rw [len_toList] at g1
      have hd2 : 0 ≤ Cu.tk s.data.toList eqB.data.toList (i + 1) := by have h := unhide HEK; rw [g3] at h; simpa [g1] using h
      have hend : Cu.tkEnd s.data.toList eqB.data.toList (i + 1) = i + 2 := by unfold Cu.tkEnd; rw [if_pos hd2]
      rw [hend] at hr2
      have HC := hide hcl
      have HR2 := hide (hr1.trans hr2)
      have HT2 := hide (hr2.tabs (unhide HT1) hR2)
      clear hcl g2 g3 hend c0 c1 c2
      go_wp2_with fail
      rw [unhide hsk]
      refine (pclass_any s (i + 2) R _ i _ hs (by omega) hr2.blk (unhide HT2) hR2).mono ?_
      rintro e w3 hres
      have HP := hide (pline_class (unhide HC) (unhide HR2) hres)
      rcases hres with ⟨p, l, hg, rfl, hrd⟩ | ⟨p, cap, l, a, hg, rfl, ho, hrd⟩
      · clear hg hrd
        go_wp2
        go_ret2
        exact unhide HP
      · clear hg hrd ho
        go_wp2
        go_ret2
        exact unhide HP
    | false =>
      have hd2 : ¬ 0 ≤ Cu.tk s.data.toList eqB.data.toList (i + 1) := by
        intro h0
        have h := unhide HEK
        have h1 : decide (0 ≤ Cu.tk s.data.toList eqB.data.toList (i + 1)) = true := by simpa using h0
        rw [h1] at h
        have h2 := hcl
        unfold Cu.isClass at h2
        rw [len_toList, unhide HNM] at h2
        simp only [Bool.and_true] at h2
        rw [← h] at h2
        cases h2
      rw [Cu.tk_no hd2] at hr2
      obtain ⟨d0, d1, d2⟩ := hr2.blk.two
      have hrm := hide ((hr1.trans hr2).move i i rfl)
      have HC := hide hcl
      have HM := hide hm
      clear hcl hm c0 c1 c2
      go_wp2_with fail
      refine (prule_any s i R _ hs hi (unhide hrm).blk).mono ?_
      rintro e w3 hres
      have HP := hide (pline_rule (unhide HC) (unhide HM) (unhide hrm) hres)
      rcases hres with ⟨p, op, l, hg, rfl, hrd⟩ | ⟨p, op, l, r, a, cap, hg, rfl, ho, hrd⟩
      · clear hg hrd
        go_wp2
        go_ret2
        exact unhide HP
      · clear hg hrd ho
        go_wp2
        go_ret2
        exact unhide HP
end Go.Proofs.YtbppbejigedioabGreatDoor
/- Walks: the program's readLines. -/
namespace Go.Proofs.YtbppbejigedioabGreatDoor
open Go.RowKit

/-- A line of the program's: the line, and where its slice lies. -/
abbrev PLn := Cu.Ln × Option Addr × Nat
def plv (x : PLn) : Value := plineV x.1 x.2.1 x.2.2
def PLinesOwn (w : World) (base : Nat) (l : List PLn) : Prop := ∀ x ∈ l, PLnOwn w base x.1 x.2.1 x.2.2
/-- Is a line not empty? -/
def isLn (x : Cu.Ln) : Bool := !(x.name == 0 && x.op == 0)

theorem plineV_iface (x : Cu.Ln) (a : Option Addr) (c : Nat) : ∃ t v, plineV x a c = .iface t v := by
  unfold plineV; split <;> exact ⟨_, _, rfl⟩
theorem Tryz.info104 : (Tryz.prog.info? 104).map (fun i => (i.zero, i.size, i.bytes)) = some (some .nilIface, 1, 16) := by kernel_rfl

theorem PLnOwn.below {w w' : World} {base : Nat} {x : Cu.Ln} {a : Option Addr} {c : Nat} (h : PLnOwn w base x a c) (hb : Below w.heap.size w w') : PLnOwn w' base x a c := by
  unfold PLnOwn at h ⊢; split
  · rename_i h0; rw [if_pos h0] at h; exact own_below h hb
  · rename_i h0; rw [if_neg h0] at h; exact own_below h hb
theorem PLnOwn.base {w : World} {base base' : Nat} {x : Cu.Ln} {a : Option Addr} {c : Nat} (h : PLnOwn w base x a c) (hb : base' ≤ base) : PLnOwn w base' x a c := by
  unfold PLnOwn at h ⊢; split
  · rename_i h0; rw [if_pos h0] at h; exact own_base h hb
  · rename_i h0; rw [if_neg h0] at h; exact own_base h hb
theorem PLnOwn.grown {w w2 : World} {base b2 s2 n2 : Nat} {x : Cu.Ln} {a : Option Addr} {c : Nat} {v2 : Value} {x2 : List Value} (h : PLnOwn w base x a c) (h2 : w.ownsRow b2 104 s2 v2 n2 x2) (hg : w.grownBy w2 v2.ownBlock) : PLnOwn w2 base x a c := by
  unfold PLnOwn at h ⊢; split
  · rename_i h0; rw [if_pos h0] at h; exact h.kept hg (own_ne_type h h2 (by decide))
  · rename_i h0; rw [if_neg h0] at h; exact h.kept hg (own_ne_type h h2 (by decide))
theorem PLnOwn.rd {w w2 : World} {base R j : Nat} {s : ByteArray} {x : Cu.Ln} {a : Option Addr} {c : Nat} (h : PLnOwn w base x a c) (hr : Rd w w2 R s j) (hR : R < base) : PLnOwn w2 base x a c := by
  unfold PLnOwn at h ⊢; split
  · rename_i h0; rw [if_pos h0] at h; exact hr.own h hR
  · rename_i h0; rw [if_neg h0] at h; exact hr.own h hR

def PReadRel (s : ByteArray) (w : World) (v x : Value) (wr : World) : Prop :=
  ∃ (i k cap : Nat) (lns : List Cu.Ln) (L : List PLn) (a : Option Addr), i ≤ s.size ∧ lns.length + (k + 1) = 12 ∧ x = .int .i64 ((lns.length : Int) + 1) ∧ v = .slice a L.length cap ∧ L.map Prod.fst = lns.filter isLn ∧ L.length ≤ lns.length ∧
    wr.ownsRow (w.heap.size + 1) 104 1 (.slice a L.length cap) L.length (L.map plv) ∧ PLinesOwn wr (w.heap.size + 1) L ∧ Below w.heap.size w wr ∧ RdBlk wr w.heap.size s i ∧
    Cu.readGo s.data.toList (k + 1) i lns = Cu.readGo s.data.toList 12 0 []

/-- What holds behind the reading of one line. -/
def PReadMid (s : ByteArray) (i : Nat) (lns : List Cu.Ln) (w : World) (v : Value) (wc : World) : Prop :=
  ∃ (cap : Nat) (L : List PLn) (a : Option Addr), (Cu.lineAt s.data.toList i).1 = true ∧ v = .slice a L.length cap ∧ L.map Prod.fst = (lns ++ [(Cu.lineAt s.data.toList i).2.2]).filter isLn ∧ L.length ≤ lns.length + 1 ∧
    wc.ownsRow (w.heap.size + 1) 104 1 (.slice a L.length cap) L.length (L.map plv) ∧ PLinesOwn wc (w.heap.size + 1) L ∧ Below w.heap.size w wc ∧ RdBlk wc w.heap.size s (Cu.lineAt s.data.toList i).2.1

def PReadRes (s : ByteArray) (w : World) (e : Ending) (w' : World) : Prop :=
  (∃ p : Nat, Cu.readGo s.data.toList 12 0 [] = (false, p, []) ∧ e = .returned (.tuple #[.slice none 0 0, faultV p]) ∧ Below w.heap.size w w') ∨
  (∃ (p cap : Nat) (lns : List Cu.Ln) (L : List PLn) (a : Option Addr), Cu.readGo s.data.toList 12 0 [] = (true, p, lns) ∧ L.map Prod.fst = lns.filter isLn ∧ e = .returned (.tuple #[.slice a L.length cap, .nilIface]) ∧
    w'.ownsRow w.heap.size 104 1 (.slice a L.length cap) L.length (L.map plv) ∧ PLinesOwn w' w.heap.size L ∧ Below w.heap.size w w')

theorem noClass {s : List UInt8} {i : Nat} (hm : Cu.more s i = false) : Cu.isClass s i = false := by
  cases hc : Cu.isClass s i with
  | false => rfl
  | true =>
    obtain ⟨h1, h2, h3⟩ := Cu.isClass_true hc
    rcases Cu.more_false hm with h | ⟨_, h⟩
    · omega
    · rw [h] at h2; exact absurd h2 (by decide)
theorem isLn_line {s : List UInt8} {i : Nat} (hm : Cu.more s i = true) (hok : (Cu.lineAt s i).1 = true) : isLn (Cu.lineAt s i).2.2 = true := by
  cases hc : Cu.isClass s i with
  | true =>
    have h2 := (Cu.isClass_true hc).2.1
    have h3 : (Cu.lineAt s i).2.2.name = Cu.byt s i := by unfold Cu.lineAt; rw [if_pos hc]
    unfold isLn
    rw [h3]
    unfold Cu.isName at h2
    simp at h2 ⊢
    omega
  | false =>
    generalize hr : Cu.ruleAt s i = ra at *
    obtain ⟨b, p, op, l, r⟩ := ra
    have e1 := Cu.lineAt_rule hc hm hr
    rw [e1] at hok ⊢
    simp only at hok
    subst hok
    have := ruleAt_op hr
    unfold isLn
    simp [this]
theorem Rd.belowR {w wr w1 : World} {s : ByteArray} {j : Nat} (h : Rd wr w1 w.heap.size s j) (hb : Below w.heap.size w wr) : Below w.heap.size w w1 :=
  hb.grown h.grown hb.size (fun k hk => by simp at hk; omega)
theorem pread_mid {s : ByteArray} {i cap cap' : Nat} {lns : List Cu.Ln} {L : List PLn} {a a' a2 : Option Addr} {c2 : Nat} {w w1 W w2 : World} (hm : Cu.more s.data.toList i = true) (hok : (Cu.lineAt s.data.toList i).1 = true) (hF : L.map Prod.fst = lns.filter isLn) (hLl : L.length ≤ lns.length)
    (hW : Below w1.heap.size w1 W) (hb : Below w.heap.size w w1) (hw : w.heap.size + 1 ≤ w1.heap.size)
    (ho1 : w1.ownsRow (w.heap.size + 1) 104 1 (.slice a L.length cap) L.length (L.map plv)) (hlo : PLinesOwn w1 (w.heap.size + 1) L) (hx : PLnOwn w1 (w.heap.size + 1) (Cu.lineAt s.data.toList i).2.2 a2 c2)
    (hR : RdBlk w1 w.heap.size s (Cu.lineAt s.data.toList i).2.1)
    (ho2 : w2.ownsRow (w.heap.size + 1) 104 1 (.slice a' (L.length + 1) cap') (L.length + 1) (L.map plv ++ [plineV (Cu.lineAt s.data.toList i).2.2 a2 c2])) (hg : W.grownBy w2 (Value.slice a L.length cap).ownBlock) :
    PReadMid s i lns w (.slice a' (L.length + 1) cap') w2 := by
  have hlen : (L ++ [((Cu.lineAt s.data.toList i).2.2, a2, c2)]).length = L.length + 1 := by simp
  have hoW := own_below ho1 hW
  have hs := hW.size
  refine ⟨cap', L ++ [((Cu.lineAt s.data.toList i).2.2, a2, c2)], a', hok, by rw [hlen], ?_, by rw [hlen]; omega, ?_, ?_, ?_, ?_⟩
  · rw [List.map_append, List.filter_append, hF]; simp [isLn_line hm hok]
  · rw [hlen, List.map_append]; exact ho2
  · intro y hy
    rcases List.mem_append.1 hy with h1 | h1
    · exact ((hlo y h1).below hW).grown hoW hg
    · simp at h1; subst h1; exact (hx.below hW).grown hoW hg
  · exact (hb.trans (hW.mono (by omega))).grown hg (by omega) (fun k hk => by have := (ho1.lt k hk).1; omega)
  · exact (hR.below hW hR.lt).grown hg (row_ne_low' ho1 (by omega))

set_option maxRecDepth 100000 in
set_option maxHeartbeats 2000000 in
theorem readLines_any (s : ByteArray) (w : World) (hs : s.size ≤ 200) (hT : Tabs w) (hw2 : 4 < w.heap.size) :
    Calls Tryz.prog 44 #[.string s] w fun e w' => PReadRes s w e w' := by
  obtain ⟨i0, ki, kz0, kz1, kz2⟩ := info_parts Tryz.info104
  go_enter Tryz.func44, Tryz.ntmps44
  go_wp2
  go_loopw [5, 6] (fun v x wr => PReadRel s w v x wr) (fun _ x _ => 13 - (intOf x).toNat)
  case atStart =>
    go_light
    exact ⟨0, 11, 0, [], [], none, by omega, rfl, rfl, rfl, rfl, Nat.le_refl _, World.ownsRow_nil _ _ _ _, (fun x hx => by simp at hx), (Below.refl _ _).alloc (Nat.le_refl _) _, Blk.new w _ _, rfl⟩
  case round =>
    obtain ⟨i, k, cap, lns, L, a, hi, hk, rfl, rfl, hfil, hLl, hown, hlo, hbel, hR, hgo⟩ := hrel
    have HG := hide hgo
    have HO := hide hown
    have HLO := hide hlo
    have HF := hide hfil
    clear hgo hown hlo hfil
    have hRlt := hR.lt
    go_wp2_with fail
    refine (lineEnds_any s i w.heap.size _ hs hi hR).mono ?_
    rintro e w1 ⟨rfl, q, rfl⟩
    go_upto_if 16 with fail
    go_cut [5] (fun v wc => PReadMid s i lns w v wc)
    case first =>
      cases hm : Cu.more s.data.toList i with
      | false =>
        have hc : Cu.isClass s.data.toList i = false := noClass hm
        have e1 := Cu.lineAt_empty hc hm
        have hmid : Hid (PReadMid s i lns w (.slice a L.length cap) (wr.drewN q)) := hide ⟨cap, L, a, by rw [e1], rfl, by rw [e1, List.filter_append, ← unhide HF]; simp [isLn], by omega, unhide HO, unhide HLO, below_drewN hbel q, by rw [e1]; exact hR.drewN q⟩
        go_wp2
        go_meet
        case rel => exact unhide hmid
      | true =>
        have hTw := tabs_grown hT (grown_of_below (below_drewN hbel q) none) (by simp) (by simp)
        have HM := hide hm
        go_wp2_with fail
        refine (pline_any s i w.heap.size _ hs hi (hR.drewN q) hTw hw2 hm).mono ?_
        rintro e w1 (⟨hok, rfl, hrd⟩ | ⟨a2, c2, hok, rfl, hpo, hrd⟩)
        · have hr : Hid (PReadRes s w (.returned (.tuple #[.slice none 0 0, faultV (Cu.lineAt s.data.toList i).2.1])) w1) := hide (Or.inl ⟨_, by rw [← unhide HG, Cu.readGo_bad hok], rfl, hrd.belowR (below_drewN hbel q)⟩)
          clear hok hrd hm hTw
          unfold faultV at hr ⊢
          go_wp2
          go_ret2
          exact unhide hr
        · have hO1 := hide (hrd.own (by exact unhide HO) (by omega : w.heap.size < w.heap.size + 1))
          have hLO1 : Hid (PLinesOwn w1 (w.heap.size + 1) L) := hide (fun y hy => PLnOwn.rd (w := wr.drewN q) (by exact unhide HLO y hy) hrd (by omega))
          have hB1 := hide (hrd.belowR (below_drewN hbel q))
          have hsz1 := hrd.grown.size
          have hsz2 : wr.heap.size ≤ w1.heap.size := hsz1
          have hcap : (L.length + 1) * 16 ≤ 140737488355328 := by omega
          have hmax : L.length + 1 ≤ maxLen := by unfold maxLen; omega
          obtain ⟨tv, vv, hv⟩ := plineV_iface (Cu.lineAt s.data.toList i).2.2 a2 c2
          have HV := hide hv
          have hpo' := hide (hpo.base (by show w.heap.size + 1 ≤ wr.heap.size; omega))
          have HRB := hide hrd.blk
          have HOK := hide hok
          clear hok hpo hrd hm hTw
          go_wp2_with (at_builtin; refine wpList_append_own _ rfl (.tmp 25) (.tmp 27) 100 rfl (w.heap.size + 1) 104 i0 .nilIface 1 16 Tryz.underlying100 ki kz0 kz1 kz2 rfl (by decide) (.slice a L.length cap) L.length (L.map plv) rfl ((unhide hO1).alloc _) ⟨w1.heap.size, 0, none⟩ 1 1 [.iface tv vv] rfl rfl (news_new _ _ rfl _ _) (by intro u hu; simp at hu; subst hu; rfl) hmax hcap (by simp; omega) ?_; intro v' w2 hown' hgrow _; refine Hid.out ?_)
          refine hide ?_
          obtain ⟨a', cap', hv'⟩ := own_form hown'
          subst hv'
          rw [← unhide HV] at hown'
          have hmid := hide (pread_mid (unhide HM) (unhide HOK) (unhide HF) hLl ((Below.refl _ _).alloc (Nat.le_refl _) _) (unhide hB1) (by omega) (unhide hO1) (unhide hLO1) (unhide hpo') (unhide HRB) hown' hgrow)
          clear hown' hgrow
          go_wp2
          go_meet
          case rel => exact unhide hmid
    case rest =>
      obtain ⟨cap2, L2, a2, hok, rfl, hfil, hL2, hown, hlo, hbel2, hR2⟩ := hcut
      have hle := Cu.lineAt_le s.data.toList i (by rw [len_toList]; exact hi)
      rw [len_toList] at hle
      have HE := hide (Cu.readGo_end (k := k) (l := lns) hok)
      have HS := hide (Cu.readGo_stop (k := k) (l := lns) hok)
      have HN := hide (Cu.readGo_go (k := k) (l := lns) hok)
      rw [len_toList] at HE HS HN
      have HF2 := hide hfil
      have HO2 := hide hown
      have HLO2 := hide hlo
      clear hok hfil hown hlo
      generalize Cu.lineAt s.data.toList i = la at *
      obtain ⟨b, p, x⟩ := la
      simp only at hle HE HS HN HF2 hR2
      obtain ⟨c0, c1, c2⟩ := hR2.two
      have hwc := hR2.lt
      by_cases hpe : p = s.size
      · have h1 : ((p : Int) == (s.size : Int)) = true := by rw [hpe]; simp
        have hr : Hid (PReadRes s w (.returned (.tuple #[.slice a2 L2.length cap2, .nilIface])) wc) := hide (Or.inr ⟨p, cap2, lns ++ [x], L2, a2, by rw [← unhide HG, (unhide HE) hpe], unhide HF2, rfl, own_base (unhide HO2) (by omega), fun y hy => (unhide HLO2 y hy).base (by omega), hbel2⟩)
        clear hpe
        go_wp2
        go_ret2
        exact unhide hr
      · have h1 : ((p : Int) == (s.size : Int)) = false := by rw [beq_eq_false_iff_ne]; omega
        go_wp2_with fail
        refine (lineEnds_any s p w.heap.size _ hs hle.2 hR2).mono ?_
        rintro e w3 ⟨rfl, q3, rfl⟩
        by_cases h59 : Cu.byt s.data.toList p = 59
        · have hmp : Cu.more s.data.toList p = false := by unfold Cu.more; rw [h59]; simp
          by_cases hk0 : k = 0
          · have h4 : (((lns.length : Int) + 1) == 12) = true := by rw [beq_iff_eq]; omega
            have hr : Hid (Cu.readGo s.data.toList 12 0 [] = (false, p, [])) := hide (by rw [← unhide HG, (unhide HS) hpe (Or.inr hk0)])
            clear hpe h59 hk0
            go_wp2_with fail
            refine (fault_any s p w.heap.size _ (hR2.drewN q3)).mono ?_
            rintro e w4 ⟨rfl, rfl⟩
            go_wp2
            go_ret2
            exact Or.inl ⟨p, unhide hr, rfl, below_drewN hbel2 q3⟩
          · obtain ⟨m, rfl⟩ : ∃ m, k = m + 1 := ⟨k - 1, by omega⟩
            have h4 : (((lns.length : Int) + 1) == 12) = false := by rw [beq_eq_false_iff_ne]; omega
            have hrd := (Rd.mk (grown_drewN wc q3 (some w.heap.size)) (hR2.drewN q3)).move (p + 1) ((p : Int) + 1) (by omega)
            have hlen : (lns ++ [x]).length = lns.length + 1 := by simp
            have hr : Hid (PReadRel s w (.slice a2 L2.length cap2) (.int .i64 ((lns.length : Int) + 1 + 1)) ((wc.drewN q3).setCell ⟨w.heap.size, 1, none⟩ (.int .i64 ((p : Int) + 1)))) := hide
              ⟨p + 1, m, cap2, lns ++ [x], L2, a2, by omega, by rw [hlen]; omega, by rw [hlen]; go_num, rfl, unhide HF2, by rw [hlen]; omega, hrd.own (by exact unhide HO2) (by omega), fun y hy => PLnOwn.rd (by exact unhide HLO2 y hy) hrd (by omega), hrd.belowR hbel2, hrd.blk, by rw [← unhide HG, (unhide HN) hpe (by rw [h59]; omega)]⟩
            clear hpe h59 hk0 hrd hlen
            go_wp2
            go_roundw
            case rel => first | exact unhide hr | ((repeat apply Exists.intro); exact ⟨unhide hr, rfl⟩)
            case measure => simp [intOf]; omega
        · have hmp : Cu.more s.data.toList p = true := by
            unfold Cu.more; rw [len_toList]
            have : p < s.size := by omega
            simp [this, h59]
          have hr : Hid (Cu.readGo s.data.toList 12 0 [] = (false, p, [])) := hide (by rw [← unhide HG, (unhide HS) hpe (Or.inl h59)])
          clear hpe h59
          go_wp2_with fail
          refine (fault_any s p w.heap.size _ (hR2.drewN q3)).mono ?_
          rintro e w4 ⟨rfl, rfl⟩
          go_wp2
          go_ret2
          exact Or.inl ⟨p, unhide hr, rfl, below_drewN hbel2 q3⟩
end Go.Proofs.YtbppbejigedioabGreatDoor
