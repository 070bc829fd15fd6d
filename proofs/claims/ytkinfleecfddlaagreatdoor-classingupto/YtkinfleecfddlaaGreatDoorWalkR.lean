/- Walks: the program's class. -/
import Derived.Test.YtkinfleecfddlaaGreatDoorWalkQ
namespace Go.Proofs.YtkinfleecfddlaaGreatDoor
open Go.RowKit

def pitemCells (k : Int) : List Cu.Item → List Value
  | [] => []
  | x :: r => [.int .i32 x.1, .int .i32 x.2.1, .int .i64 k, .int .i64 x.2.2] ++ pitemCells k r
theorem pitemCells_snoc (k : Int) (l : List Cu.Item) (x : Cu.Item) : pitemCells k (l ++ [x]) = pitemCells k l ++ [.int .i32 x.1, .int .i32 x.2.1, .int .i64 k, .int .i64 x.2.2] := by
  induction l with
  | nil => rfl
  | cons y l ih => simp [pitemCells, ih]
theorem Tryz.info85 : (Tryz.prog.info? 85).map (fun i => (i.zero, i.size, i.bytes)) = some (some (.agg #[.int .i32 0, .int .i32 0, .int .i64 0, .int .i64 0]), 4, 24) := by kernel_rfl
theorem one4 {k0 k1 k2 k3 : IntKind} (a b c d : Int) : ∀ u ∈ [Value.int k0 a, Value.int k1 b, Value.int k2 c, Value.int k3 d], u.oneCell' = true := by
  intro u hu
  simp at hu
  rcases hu with rfl | rfl | rfl | rfl <;> rfl

/-- The reader's place, off the world. -/
def rdAt (w : World) (R : Nat) : Nat := match w.cell? ⟨R, 1, none⟩ with
  | some (.int _ n) => n.toNat
  | _ => 0
theorem rdAt_eq {w : World} {R i : Nat} {s : ByteArray} (h : RdBlk w R s i) : rdAt w R = i := by
  unfold rdAt; rw [h.cell 1]; simp

def PClassRel (s : ByteArray) (i R : Nat) (k : Int) (p0 : Nat) (w : World) (wr : World) : Prop :=
  ∃ (j f cap : Nat) (l : List Cu.Item) (a : Option Addr), j ≤ s.size ∧ l.length ≤ j ∧ s.size < f + j ∧
    Blk wr w.heap.size [.int .i64 k, .int .i64 p0, .slice a l.length cap] 141 ∧
    wr.ownsRow (w.heap.size + 1) 85 4 (.slice a l.length cap) l.length (pitemCells k l) ∧ Rd w wr R s j ∧
    Cu.classGo s.data.toList f j l = Cu.classGo s.data.toList (s.size + 1) i []

def PClassRes (s : ByteArray) (i R : Nat) (k : Int) (p0 : Nat) (w : World) (e : Ending) (w' : World) : Prop :=
  (∃ p l, Cu.classGo s.data.toList (s.size + 1) i [] = (false, p, l) ∧ e = .returned (.tuple #[.nilIface, faultV p]) ∧ Rd w w' R s p) ∨
  (∃ (p cap : Nat) (l : List Cu.Item) (a : Option Addr), Cu.classGo s.data.toList (s.size + 1) i [] = (true, p, l) ∧
    e = .returned (.tuple #[.iface 141 (.agg #[.int .i64 k, .int .i64 p0, .slice a l.length cap]), .nilIface]) ∧
    w'.ownsRow w.heap.size 85 4 (.slice a l.length cap) l.length (pitemCells k l) ∧ Rd w w' R s p)

theorem Rd.of_drewN {w w' : World} {R j q : Nat} {s : ByteArray} (h : Rd (w.drewN q) w' R s j) : Rd w w' R s j := ⟨grown_trans (grown_drewN w q _) h.grown, h.blk⟩

theorem pclass_step {s : ByteArray} {i R p0 j' g cap cap' : Nat} {k : Int} {l : List Cu.Item} {x : Cu.Item} {a a' : Option Addr} {w w2 : World} (h2 : j' ≤ s.size) (h3 : l.length + 1 ≤ j') (h4 : s.size < g + j') (hne : R ≠ w.heap.size) (_hRlt : R < w.heap.size)
    (hB : Blk w2 w.heap.size [.int .i64 k, .int .i64 p0, .slice a l.length cap] 141)
    (ho : w2.ownsRow (w.heap.size + 1) 85 4 (.slice a' (l.length + 1) cap') (l.length + 1) (pitemCells k l ++ [.int .i32 x.1, .int .i32 x.2.1, .int .i64 k, .int .i64 x.2.2]))
    (hrd : Rd w w2 R s j') (hgo : Cu.classGo s.data.toList g j' (l ++ [x]) = Cu.classGo s.data.toList (s.size + 1) i []) :
    PClassRel s i R k p0 w (w2.setCell ⟨w.heap.size, 2, none⟩ (.slice a' (l.length + 1) cap')) ∧ rdAt (w2.setCell ⟨w.heap.size, 2, none⟩ (.slice a' (l.length + 1) cap')) R = j' := by
  have hlen : (l ++ [x]).length = l.length + 1 := by simp
  have hrd' : Rd w (w2.setCell ⟨w.heap.size, 2, none⟩ (.slice a' (l.length + 1) cap')) R s j' := hrd.setNew (Nat.le_refl _) (fun e => hne e.symm) _
  refine ⟨⟨j', g, cap', l ++ [x], a', h2, by omega, h4, ?_, ?_, hrd', hgo⟩, rdAt_eq hrd'.blk⟩
  · rw [hlen]; exact hB.setSame 2 _
  · rw [hlen, pitemCells_snoc]; exact ownsRow_setCell_below ho (by simp) _

set_option maxRecDepth 100000 in
set_option maxHeartbeats 2000000 in
theorem pclass_any (s : ByteArray) (i R : Nat) (k : Int) (p0 : Nat) (w : World) (hs : s.size ≤ 200) (hi : i ≤ s.size) (hR : RdBlk w R s i) (hT : Tabs w) (hR2 : 2 < R) :
    Calls Tryz.prog 87 #[.pointer (some ⟨R, 0, none⟩), .int .i64 k, .int .i64 p0] w fun e w' => PClassRes s i R k p0 w e w' := by
  have hRlt := hR.lt
  have hne : R ≠ w.heap.size := by omega
  obtain ⟨i0, ki, kz0, kz1, kz2⟩ := info_parts Tryz.info85
  go_enter Tryz.func87, Tryz.ntmps87
  go_wp2
  go_loopw [10] (fun _ wr => PClassRel s i R k p0 w wr) (fun _ wr => s.size + 1 - rdAt wr R)
  case atStart =>
    go_light
    exact ⟨i, s.size + 1, 0, [], none, hi, Nat.zero_le _, by omega, Blk.new w _ _, World.ownsRow_nil _ _ _ _, ⟨World.grownBy_alloc _ _ _, hR.alloc _⟩, rfl⟩
  case round =>
    obtain ⟨j, f, cap, l, a, hj, hl, hf, hB, hown, hrd, hgo⟩ := hrel
    obtain ⟨g, rfl⟩ : ∃ g, f = g + 1 := ⟨f - 1, by omega⟩
    have HG := hide hgo
    have HO := hide hown
    clear hgo hown hR
    obtain ⟨b0, b1, b2, b3⟩ := hB.three
    have hBlt := hB.lt
    have hRw := hrd.blk.lt
    have hwr := hrd.grown.size
    have HTw := hide (hrd.tabs hT hR2)
    have hrdj := hide (rdAt_eq hrd.blk)
    go_upto_region 2 with fail
    go_cut [22] (fun b wc => b = .bool (decide (l = []) || Cu.more s.data.toList j) ∧ ∃ q, wc = wr.drewN q)
    case first =>
      by_cases hl0 : l = []
      · have hlen : ((l.length : Int) == 0) = true := by rw [hl0]; rfl
        have hd : Hid (decide (l = []) = true) := hide (by simpa using hl0)
        clear hl0
        go_wp2
        go_meet
        case rel => exact ⟨by rw [unhide hd]; rfl, 0, rfl⟩
      · have hlen : ((l.length : Int) == 0) = false := by rw [beq_eq_false_iff_ne]; intro h; exact hl0 (List.length_eq_zero_iff.1 (by omega))
        have hd : Hid (decide (l = []) = false) := hide (by simpa using hl0)
        clear hl0
        go_wp2_with fail
        refine (lineEnds_any s j R _ hs hj hrd.blk).mono ?_
        rintro e w1 ⟨rfl, q, rfl⟩
        go_wp2
        go_meet
        case rel => exact ⟨by rw [unhide hd]; simp, q, rfl⟩
    case rest =>
      obtain ⟨rfl, q, rfl⟩ := hcut
      cases hct : (decide (l = []) || Cu.more s.data.toList j) with
      | false =>
        have hdone : l ≠ [] ∧ Cu.more s.data.toList j = false := by
          rw [Bool.or_eq_false_iff] at hct
          exact ⟨by simpa using hct.1, hct.2⟩
        have hr : Hid (Cu.classGo s.data.toList (s.size + 1) i [] = (true, j, l)) := hide (by rw [← unhide HG, Cu.classGo_done hdone])
        clear hct hdone
        go_wp2
        go_ret2
        exact Or.inr ⟨j, cap, l, a, unhide hr, rfl, own_base (unhide HO) (by omega), hrd.drewN q⟩
      | true =>
        have hdone : ¬ (l ≠ [] ∧ Cu.more s.data.toList j = false) := by
          rintro ⟨h1, h2⟩
          rw [h2, Bool.or_false] at hct
          exact h1 (by simpa using hct)
        have hie := Cu.itemEnd_le s.data.toList j (by rw [len_toList]; exact hj)
        rw [len_toList] at hie
        cases hok : Cu.itemOk s.data.toList j with
        | false =>
          have hr : Hid (Cu.classGo s.data.toList (s.size + 1) i [] = (false, Cu.itemEnd s.data.toList j, l)) := hide (by rw [← unhide HG, Cu.classGo_bad hdone hok])
          clear hct hdone
          go_wp2_with fail
          refine (item_no1 s j R _ _ hs hj (hrd.blk.drewN q) (tabs_grown (unhide HTw) (grown_drewN _ _ none) (by simp) (by simp)) hok).mono ?_
          rintro e w1 ⟨rfl, hr1⟩
          have hr1' := hide (hrd.trans hr1.of_drewN)
          clear hr1 hok
          unfold faultV
          go_wp2
          go_ret2
          exact Or.inl ⟨_, l, unhide hr, rfl, (unhide hr1').alloc _⟩
        | true =>
          have hlt := Cu.itemOk_lt hok
          have HOK := hide hok
          go_wp2_with fail
          refine (item_yes s j R _ _ hs hj (hrd.blk.drewN q) (tabs_grown (unhide HTw) (grown_drewN _ _ none) (by simp) (by simp)) hR2 hok).mono ?_
          rintro e w1 (⟨hda, rfl, hr1⟩ | ⟨hda, hok2, rfl, hr1⟩ | ⟨hda, hok2, rfl, hr1⟩)
          · have hnext := hide (show Cu.classGo s.data.toList g (Cu.itemEnd s.data.toList j) (l ++ [(Cu.itemCode s.data.toList j, Cu.itemCode s.data.toList j, j)]) = Cu.classGo s.data.toList (s.size + 1) i [] by rw [← unhide HG, Cu.classGo_one hdone hok hda])
            clear hct hdone hda hok
            have hO1 := hide (hr1.own (by exact unhide HO) (by omega : R < w.heap.size + 1))
            have hX1 := hr1.other (hB.drewN q) (by omega)
            have hr1' := hide (hrd.trans hr1.of_drewN)
            obtain ⟨y0, y1, y2, y3⟩ := hX1.three
            have hw1 := hr1.grown.size
            have hw1' : w.heap.size < w1.heap.size := hX1.lt
            have hcap : (l.length + 1) * 24 ≤ 140737488355328 := by omega
            have hmax : l.length + 1 ≤ maxLen := by unfold maxLen; omega
            clear b0 b1 b2 b3
            go_wp2_with (at_builtin; refine wpList_append_own _ rfl (.tmp 33) (.tmp 35) 69 rfl (w.heap.size + 1) 85 i0 (.agg #[.int .i32 0, .int .i32 0, .int .i64 0, .int .i64 0]) 4 24 Tryz.underlying69 ki kz0 kz1 kz2 rfl (by decide) (.slice a l.length cap) l.length (pitemCells k l) rfl (((unhide hO1).alloc _).alloc _) ⟨w1.heap.size + 1, 0, none⟩ 1 1 [.int .i32 (Cu.itemCode s.data.toList j), .int .i32 (Cu.itemCode s.data.toList j), .int .i64 k, .int .i64 j] rfl rfl (news_new _ _ (by simp) _ _) (one4 _ _ _ _) hmax hcap (by simp; omega) ?_; intro v' w2 hown' hgrow _; refine Hid.out ?_)
            refine hide ?_
            obtain ⟨a', cap', hv'⟩ := own_form hown'
            subst hv'
            have hr2 := (((unhide hr1').alloc _).alloc _).grow hgrow (fun b hb => by have := ((unhide hO1).lt b hb).1; omega) hRlt
            have hX2 := ((hX1.alloc _).alloc _).grown hgrow (row_ne_low' (unhide hO1) (by omega))
            obtain ⟨hst1, hst2⟩ := pclass_step (s := s) (i := i) (k := k) (g := g) (x := (Cu.itemCode s.data.toList j, Cu.itemCode s.data.toList j, j)) hie.2 (by omega) (by omega) hne hRlt hX2 hown' hr2 (unhide hnext)
            have HST1 := hide hst1
            have HST2 := hide hst2
            clear y0 y1 y2 y3
            obtain ⟨y0, y1, y2, y3⟩ := hX2.three
            clear hown' hgrow hr2 hst1 hst2 hr1
            go_wp2
            go_roundw
            case rel => first | exact unhide HST1 | ((repeat apply Exists.intro); exact ⟨unhide HST1, rfl⟩)
            case measure => rw [unhide HST2, unhide hrdj]; omega
          · have hr : Hid (Cu.classGo s.data.toList (s.size + 1) i [] = (false, Cu.itemEnd s.data.toList (Cu.itemEnd s.data.toList j + 1), l)) := hide (by rw [← unhide HG, Cu.classGo_bad2 hdone hok hda hok2])
            have hr1' := hide (hrd.trans hr1.of_drewN)
            clear hr1 hok hok2 hda hct hdone
            unfold faultV
            go_wp2
            go_ret2
            exact Or.inl ⟨_, l, unhide hr, rfl, (unhide hr1').alloc _⟩
          · have hdl : Cu.itemEnd s.data.toList j < s.size := by
              have h := hda
              unfold Cu.dash at h
              rw [len_toList] at h
              simp only [Bool.and_eq_true, decide_eq_true_eq] at h
              exact h.1
            have hie2 := Cu.itemEnd_le s.data.toList (Cu.itemEnd s.data.toList j + 1) (by rw [len_toList]; exact hdl)
            rw [len_toList] at hie2
            have hlt2 := Cu.itemOk_lt hok2
            have hnext := hide (show Cu.classGo s.data.toList g (Cu.itemEnd s.data.toList (Cu.itemEnd s.data.toList j + 1)) (l ++ [(Cu.itemCode s.data.toList j, Cu.itemCode s.data.toList (Cu.itemEnd s.data.toList j + 1), j)]) = Cu.classGo s.data.toList (s.size + 1) i [] by rw [← unhide HG, Cu.classGo_two hdone hok hda hok2])
            clear hct hdone hda hok hok2
            have hO1 := hide (hr1.own (by exact unhide HO) (by omega : R < w.heap.size + 1))
            have hX1 := hr1.other (hB.drewN q) (by omega)
            have hr1' := hide (hrd.trans hr1.of_drewN)
            obtain ⟨y0, y1, y2, y3⟩ := hX1.three
            have hw1 := hr1.grown.size
            have hw1' : w.heap.size < w1.heap.size := hX1.lt
            have hcap : (l.length + 1) * 24 ≤ 140737488355328 := by omega
            have hmax : l.length + 1 ≤ maxLen := by unfold maxLen; omega
            clear b0 b1 b2 b3
            go_wp2_with (at_builtin; refine wpList_append_own _ rfl (.tmp 33) (.tmp 35) 69 rfl (w.heap.size + 1) 85 i0 (.agg #[.int .i32 0, .int .i32 0, .int .i64 0, .int .i64 0]) 4 24 Tryz.underlying69 ki kz0 kz1 kz2 rfl (by decide) (.slice a l.length cap) l.length (pitemCells k l) rfl (((unhide hO1).alloc _).alloc _) ⟨w1.heap.size + 1, 0, none⟩ 1 1 [.int .i32 (Cu.itemCode s.data.toList j), .int .i32 (Cu.itemCode s.data.toList (Cu.itemEnd s.data.toList j + 1)), .int .i64 k, .int .i64 j] rfl rfl (news_new _ _ (by simp) _ _) (one4 _ _ _ _) hmax hcap (by simp; omega) ?_; intro v' w2 hown' hgrow _; refine Hid.out ?_)
            refine hide ?_
            obtain ⟨a', cap', hv'⟩ := own_form hown'
            subst hv'
            have hr2 := (((unhide hr1').alloc _).alloc _).grow hgrow (fun b hb => by have := ((unhide hO1).lt b hb).1; omega) hRlt
            have hX2 := ((hX1.alloc _).alloc _).grown hgrow (row_ne_low' (unhide hO1) (by omega))
            obtain ⟨hst1, hst2⟩ := pclass_step (s := s) (i := i) (k := k) (g := g) (x := (Cu.itemCode s.data.toList j, Cu.itemCode s.data.toList (Cu.itemEnd s.data.toList j + 1), j)) hie2.2 (by omega) (by omega) hne hRlt hX2 hown' hr2 (unhide hnext)
            have HST1 := hide hst1
            have HST2 := hide hst2
            clear y0 y1 y2 y3
            obtain ⟨y0, y1, y2, y3⟩ := hX2.three
            clear hown' hgrow hr2 hst1 hst2 hr1
            go_wp2
            go_roundw
            case rel => first | exact unhide HST1 | ((repeat apply Exists.intro); exact ⟨unhide HST1, rfl⟩)
            case measure => rw [unhide HST2, unhide hrdj]; omega
end Go.Proofs.YtkinfleecfddlaaGreatDoor
