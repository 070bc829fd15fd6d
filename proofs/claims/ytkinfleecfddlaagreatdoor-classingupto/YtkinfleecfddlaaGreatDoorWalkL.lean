/- Walks: the program's left, right and rule. -/
import Derived.Test.YtkinfleecfddlaaGreatDoorWalkK
import Derived.Test.YtkinfleecfddlaaGreatDoorPlainB
namespace Go.Proofs.YtkinfleecfddlaaGreatDoor
open Go.RowKit

theorem signB_toList : signB.data.toList = Cu.signL := rfl
theorem howB_toList : howB.data.toList = Cu.howL := rfl
def midB : ByteArray := ⟨#[33, 124]⟩
theorem midB_toList : midB.data.toList = Cu.midL := rfl

/-- The left side of a rule, as the program's tree. -/
def nodeV (a : Cu.Atom) : Value := atomV (Cu.hk a.2.1) (Cu.sk a.1) a.2.2
def leftV (l : List Cu.Atom) : Value := l.foldl (fun acc a => .iface 178 (.agg #[acc, nodeV a])) (.iface 240 (.agg #[]))
theorem leftV_snoc (l : List Cu.Atom) (a : Cu.Atom) : leftV (l ++ [a]) = .iface 178 (.agg #[leftV l, nodeV a]) := by
  unfold leftV; rw [List.foldl_append]; rfl

theorem leftV_iface (l : List Cu.Atom) : ∃ t v, leftV l = .iface t v := by
  rcases List.eq_nil_or_concat l with rfl | ⟨l', a, rfl⟩
  · exact ⟨_, _, rfl⟩
  · rw [List.concat_eq_append, leftV_snoc]; exact ⟨_, _, rfl⟩
theorem atomV_iface (h k : Int) (i : Nat) : ∃ t v, atomV h k i = .iface t v := by
  unfold atomV signV
  repeat' split
  all_goals exact ⟨_, _, rfl⟩

set_option maxRecDepth 100000 in
set_option maxHeartbeats 1000000 in
theorem left_any (s : ByteArray) (i R : Nat) (w : World) (hs : s.size ≤ 200) (hi : i ≤ s.size) (hR : RdBlk w R s i) :
    Calls Tryz.prog 112 #[.pointer (some ⟨R, 0, none⟩)] w fun e w' =>
      e = .returned (leftV (Cu.leftGo s.data.toList 4 i []).2) ∧ Rd w w' R s (Cu.leftGo s.data.toList 4 i []).1 := by
  have hRlt := hR.lt
  go_enter Tryz.func112, Tryz.ntmps112
  go_wp2
  go_loopw [3, 8] (fun v x wr => ∃ (j k n : Nat) (l : List Cu.Atom), j ≤ s.size ∧ k + n = 4 ∧ x = .int .i64 n ∧ v = leftV l ∧ Rd w wr R s j ∧ Cu.leftGo s.data.toList k j l = Cu.leftGo s.data.toList 4 i []) (fun _ x _ => 5 - (intOf x).toNat)
  case atStart =>
    go_light
    exact ⟨i, 4, 0, [], hi, rfl, rfl, rfl, ⟨grown_drewN w 0 _, hR⟩, rfl⟩
  case round =>
    obtain ⟨j, k, n, l, hj, hk, rfl, rfl, hrd, hgo⟩ := hrel
    have HG := hide hgo
    clear hgo hR
    have hwr : R < wr.heap.size := hrd.blk.lt
    obtain ⟨tl, vl, hvl⟩ := leftV_iface l
    have HVL := hide hvl
    by_cases hn : n < 4
    · obtain ⟨m, rfl⟩ : ∃ m, k = m + 1 := ⟨k - 1, by omega⟩
      go_wp2_with fail
      refine (sign_any s j R _ hs hj hrd.blk).mono ?_
      rintro e w1 ⟨rfl, hr1⟩
      rw [signB_toList] at hr1 ⊢
      have hr1' := hide (hrd.trans hr1)
      have hR1 := hr1.blk.lt
      cases hsg : Cu.sgn s.data.toList j with
      | false =>
        have hd : decide (0 ≤ Cu.tk s.data.toList Cu.signL j) = false := by rw [← Cu.sgn_tk]; exact hsg
        have hfin : Hid (Cu.leftGo s.data.toList 4 i [] = (j, l)) := hide (by rw [← unhide HG, Cu.leftGo_stop hsg])
        have hend := hide (Cu.tk_no (s := s.data.toList) (am := Cu.signL) (i := j) (by simpa using hd))
        clear hsg hr1
        go_wp2
        go_ret
        exact ⟨congrArg Ending.returned (by rw [unhide hfin]; exact (unhide HVL).symm), by rw [unhide hfin]; have h := (unhide hr1').alloc (.cells #[.int .i64 (Cu.tk s.data.toList Cu.signL j), .int .i64 j] 171); rw [unhide hend] at h; exact h⟩
      | true =>
        have hd : decide (0 ≤ Cu.tk s.data.toList Cu.signL j) = true := by rw [← Cu.sgn_tk]; exact hsg
        obtain ⟨e1, e2⟩ := Cu.tk_sk hsg
        have E1 := hide e1
        have E2 := hide e2
        clear e1 e2
        have hjl := (Cu.sgn_true hsg).1
        rw [len_toList] at hjl
        go_wp2_with fail
        refine (atom_any s (Cu.tkEnd s.data.toList Cu.signL j) R j (Cu.tk s.data.toList Cu.signL j) _ hs (by rw [unhide E2]; omega) (hr1.blk.alloc _)).mono ?_
        rintro e w2 ⟨rfl, hr2⟩
        rw [howB_toList] at hr2 ⊢
        have hr2' := hide ((unhide hr1').trans ((Rd.of_alloc hr2) hR1))
        obtain ⟨ta, va, hva⟩ := atomV_iface (Cu.tk s.data.toList Cu.howL (Cu.tkEnd s.data.toList Cu.signL j)) (Cu.tk s.data.toList Cu.signL j) j
        have HVA := hide hva
        cases hhw : Cu.how s.data.toList (j + 1) with
        | true =>
          obtain ⟨f1, f2⟩ := Cu.tk_hk hhw
          have hjl2 := (Cu.how_true hhw).1
          rw [len_toList] at hjl2
          have hstep : Hid (∃ (j' k n' : Nat) (l' : List Cu.Atom), j' ≤ s.size ∧ k + n' = 4 ∧ Value.int .i64 ((n : Int) + 1) = .int .i64 n' ∧ Value.iface 178 (.agg #[.iface tl vl, .iface ta va]) = leftV l' ∧ Rd w w2 R s j' ∧ Cu.leftGo s.data.toList k j' l' = Cu.leftGo s.data.toList 4 i []) := hide
            ⟨j + 2, m, n + 1, l ++ [(Cu.byt s.data.toList j, Cu.byt s.data.toList (j + 1), j)], by omega, by omega, by go_num, by rw [leftV_snoc, ← unhide HVL, ← unhide HVA, unhide E1, unhide E2, f1]; rfl, by have h := unhide hr2'; rw [unhide E2, f2] at h; exact h, by rw [← unhide HG, Cu.leftGo_how hsg hhw]⟩
          clear hsg hhw f1 f2 hr1 hr2 hd
          go_wp2
          go_roundw
          case rel => first | exact unhide hstep | ((repeat apply Exists.intro); exact ⟨unhide hstep, rfl⟩)
          case measure => simp [intOf]; omega
        | false =>
          obtain ⟨f1, f2⟩ := Cu.tk_hk_no hhw
          have hstep : Hid (∃ (j' k n' : Nat) (l' : List Cu.Atom), j' ≤ s.size ∧ k + n' = 4 ∧ Value.int .i64 ((n : Int) + 1) = .int .i64 n' ∧ Value.iface 178 (.agg #[.iface tl vl, .iface ta va]) = leftV l' ∧ Rd w w2 R s j' ∧ Cu.leftGo s.data.toList k j' l' = Cu.leftGo s.data.toList 4 i []) := hide
            ⟨j + 1, m, n + 1, l ++ [(Cu.byt s.data.toList j, 32, j)], by omega, by omega, by go_num, by rw [leftV_snoc, ← unhide HVL, ← unhide HVA, unhide E1, unhide E2, f1]; rfl, by have h := unhide hr2'; rw [unhide E2, f2] at h; exact h, by rw [← unhide HG, Cu.leftGo_bare hsg hhw]⟩
          clear hsg hhw f1 f2 hr1 hr2 hd
          go_wp2
          go_roundw
          case rel => first | exact unhide hstep | ((repeat apply Exists.intro); exact ⟨unhide hstep, rfl⟩)
          case measure => simp [intOf]; omega
    · have hfin : Hid (Cu.leftGo s.data.toList 4 i [] = (j, l)) := hide (by rw [← unhide HG, show k = 0 by omega]; rfl)
      go_wp2
      go_ret
      exact ⟨congrArg Ending.returned (by rw [unhide hfin]; first | rfl | exact (unhide HVL).symm), by rw [unhide hfin]; exact hrd⟩
def signCells : List Cu.Atom → List Value
  | [] => []
  | x :: r => [.int .i64 (Cu.sk x.1), .int .i64 x.2.2] ++ signCells r
theorem signCells_snoc (l : List Cu.Atom) (x : Cu.Atom) : signCells (l ++ [x]) = signCells l ++ [.int .i64 (Cu.sk x.1), .int .i64 x.2.2] := by
  induction l with
  | nil => rfl
  | cons y l ih => simp [signCells, ih]
theorem Tryz.info171 : (Tryz.prog.info? 171).map (fun i => (i.zero, i.size, i.bytes)) = some (some (.agg #[.int .i64 0, .int .i64 0]), 2, 16) := by kernel_rfl
theorem one2 {k0 k1 : IntKind} (a b : Int) : ∀ u ∈ [Value.int k0 a, Value.int k1 b], u.oneCell' = true := by
  intro u hu
  simp at hu
  rcases hu with rfl | rfl <;> rfl
/-- A row of the call's own stays while the reader goes on. -/
theorem Rd.own {w w' : World} {R j : Nat} {s : ByteArray} (h : Rd w w' R s j) {base : Nat} {e : TypeId} {size n : Nat} {v : Value} {xs : List Value} (ho : w.ownsRow base e size v n xs) (hR : R < base) : w'.ownsRow base e size v n xs := by
  refine ho.kept h.grown ?_
  cases hv : v.ownBlock with
  | none => left; rfl
  | some b => right; intro e1; have := (ho.lt b hv).1; simp at e1; omega
/-- An append to a row of the call's own leaves the reader. -/
theorem Rd.grow {w W w2 : World} {R j : Nat} {s : ByteArray} {row : Option Nat} (h : Rd w W R s j) (hg : W.grownBy w2 row) (hrow : ∀ b, row = some b → w.heap.size ≤ b) (hR : R < w.heap.size) : Rd w w2 R s j :=
  ⟨⟨hg.os.trans h.grown.os, hg.tape.trans h.grown.tape, hg.output.trans h.grown.output, Nat.le_trans h.grown.size hg.size, fun k hk hn => (hg.block k (Nat.lt_of_lt_of_le hk h.grown.size) (fun e => by have := hrow k e.symm; omega)).trans (h.grown.block k hk hn)⟩,
    h.blk.grown hg (fun e => by have := hrow R e.symm; omega)⟩

def RightRel (s : ByteArray) (i R : Nat) (w : World) (v x : Value) (wr : World) : Prop :=
  ∃ (j k cap : Nat) (l : List Cu.Atom) (a : Option Addr), j ≤ s.size ∧ k + l.length = 2 ∧ x = .int .i64 l.length ∧ v = .slice a l.length cap ∧ wr.ownsRow w.heap.size 171 2 (.slice a l.length cap) l.length (signCells l) ∧ Rd w wr R s j ∧
    Cu.rightGo s.data.toList k j l = Cu.rightGo s.data.toList 2 i []

set_option maxRecDepth 100000 in
set_option maxHeartbeats 1000000 in
theorem right_any (s : ByteArray) (i R : Nat) (w : World) (hs : s.size ≤ 200) (hi : i ≤ s.size) (hR : RdBlk w R s i) :
    Calls Tryz.prog 113 #[.pointer (some ⟨R, 0, none⟩)] w fun e w' =>
      ∃ (a : Option Addr) (cap : Nat), e = .returned (.slice a (Cu.rightGo s.data.toList 2 i []).2.length cap) ∧ w'.ownsRow w.heap.size 171 2 (.slice a (Cu.rightGo s.data.toList 2 i []).2.length cap) (Cu.rightGo s.data.toList 2 i []).2.length (signCells (Cu.rightGo s.data.toList 2 i []).2) ∧ Rd w w' R s (Cu.rightGo s.data.toList 2 i []).1 := by
  have hRlt := hR.lt
  obtain ⟨i0, ki, kz0, kz1, kz2⟩ := info_parts Tryz.info171
  go_enter Tryz.func113, Tryz.ntmps113
  go_wp2
  go_loopw [3, 6] (fun v x wr => RightRel s i R w v x wr) (fun _ x _ => 5 - (intOf x).toNat)
  case atStart =>
    go_light
    exact ⟨i, 2, 0, [], none, hi, rfl, rfl, rfl, World.ownsRow_nil _ _ _ _, ⟨grown_drewN w 0 _, hR⟩, rfl⟩
  case round =>
    obtain ⟨j, k, cap, l, a, hj, hk, rfl, rfl, hown, hrd, hgo⟩ := hrel
    have HG := hide hgo
    have HO := hide hown
    clear hgo hR hown
    have hwr : R < wr.heap.size := hrd.blk.lt
    have hwsz := hrd.grown.size
    by_cases hn : l.length < 2
    · obtain ⟨m, rfl⟩ : ∃ m, k = m + 1 := ⟨k - 1, by omega⟩
      have hcap : (l.length + 1) * 16 ≤ 140737488355328 := by omega
      have hmax : l.length + 1 ≤ maxLen := by unfold maxLen; omega
      go_wp2_with fail
      refine (sign_any s j R _ hs hj hrd.blk).mono ?_
      rintro e w1 ⟨rfl, hr1⟩
      rw [signB_toList] at hr1 ⊢
      have hr1' := hide (hrd.trans hr1)
      have hR1 := hr1.blk.lt
      have hsz1 := hr1.grown.size
      have hO1 := hide (hr1.own (unhide HO) hRlt)
      cases hsg : Cu.sgn s.data.toList j with
      | false =>
        have hd : decide (0 ≤ Cu.tk s.data.toList Cu.signL j) = false := by rw [← Cu.sgn_tk]; exact hsg
        have hfin : Hid (Cu.rightGo s.data.toList 2 i [] = (j, l)) := hide (by rw [← unhide HG, Cu.rightGo_stop hsg])
        have hend := hide (Cu.tk_no (s := s.data.toList) (am := Cu.signL) (i := j) (by simpa using hd))
        clear hsg hr1
        go_wp2
        go_ret
        refine ⟨a, cap, ?_⟩
        rw [unhide hfin]
        exact ⟨rfl, (unhide hO1).alloc _, by have h := (unhide hr1').alloc (.cells #[.int .i64 (Cu.tk s.data.toList Cu.signL j), .int .i64 j] 171); rw [unhide hend] at h; exact h⟩
      | true =>
        have hd : decide (0 ≤ Cu.tk s.data.toList Cu.signL j) = true := by rw [← Cu.sgn_tk]; exact hsg
        obtain ⟨e1, e2⟩ := Cu.tk_sk hsg
        have E1 := hide e1
        have E2 := hide e2
        have hjl := (Cu.sgn_true hsg).1
        rw [len_toList] at hjl
        have hnext := hide (Cu.rightGo_go (k := m) (l := l) hsg)
        clear e1 e2 hsg
        go_wp2_with (at_builtin; refine wpList_append_own _ rfl (.tmp 15) (.tmp 17) 121 rfl w.heap.size 171 i0 (.agg #[.int .i64 0, .int .i64 0]) 2 16 Tryz.underlying121 ki kz0 kz1 kz2 rfl (by decide) (.slice a l.length cap) l.length (signCells l) rfl (((unhide hO1).alloc _).alloc _) ⟨w1.heap.size + 1, 0, none⟩ 1 1 [.int .i64 (Cu.tk s.data.toList Cu.signL j), .int .i64 j] rfl rfl (news_new _ _ (by simp) _ _) (one2 _ _) hmax hcap (by simp; omega) ?_; intro v' w2 hown' hgrow _; refine Hid.out ?_)
        refine hide ?_
        obtain ⟨a', cap', hv'⟩ := own_form hown'
        subst hv'
        have hr2 := (((unhide hr1').alloc _).alloc _).grow hgrow (fun b hb => ((unhide hO1).lt b hb).1) hRlt
        have hlen : (l ++ [(Cu.byt s.data.toList j, 32, j)]).length = l.length + 1 := by simp
        have hstep : Hid (RightRel s i R w (.slice a' (l.length + 1) cap') (.int .i64 ((l.length : Int) + 1)) w2) := hide
          ⟨j + 1, m, cap', l ++ [(Cu.byt s.data.toList j, 32, j)], a', by omega, by rw [hlen]; omega, by rw [hlen]; go_num, by rw [hlen], by rw [hlen, signCells_snoc]; rw [unhide E1] at hown'; exact hown', by rw [unhide E2] at hr2; exact hr2, by rw [← unhide HG, unhide hnext]⟩
        clear hown' hgrow hr2 hlen hr1 hd
        go_wp2
        go_roundw
        case rel => first | exact unhide hstep | ((repeat apply Exists.intro); exact ⟨unhide hstep, rfl⟩)
        case measure => simp [intOf]; omega
    · have hfin : Hid (Cu.rightGo s.data.toList 2 i [] = (j, l)) := hide (by rw [← unhide HG, show k = 0 by omega]; rfl)
      go_wp2
      go_ret
      refine ⟨a, cap, ?_⟩
      rw [unhide hfin]
      exact ⟨rfl, unhide HO, hrd⟩

/-- What the program's rule hands back. -/
def PRuleRes (s : ByteArray) (i R : Nat) (w : World) (e : Ending) (w' : World) : Prop :=
  (∃ p op l, Cu.ruleAt s.data.toList i = (false, p, op, l, []) ∧ e = .returned (.tuple #[.nilIface, faultV p]) ∧ Rd w w' R s p) ∨
  (∃ (p op : Nat) (l r : List Cu.Atom) (a : Option Addr) (cap : Nat), Cu.ruleAt s.data.toList i = (true, p, op, l, r) ∧
    e = .returned (.tuple #[.iface 123 (.agg #[leftV l, .bool (op == 124), .slice a r.length cap]), .nilIface]) ∧
    w'.ownsRow w.heap.size 171 2 (.slice a r.length cap) r.length (signCells r) ∧ Rd w w' R s p)

set_option maxRecDepth 100000 in
set_option maxHeartbeats 1000000 in
theorem prule_any (s : ByteArray) (i R : Nat) (w : World) (hs : s.size ≤ 200) (hi : i ≤ s.size) (hR : RdBlk w R s i) :
    Calls Tryz.prog 88 #[.pointer (some ⟨R, 0, none⟩)] w fun e w' => PRuleRes s i R w e w' := by
  have hRlt := hR.lt
  have hle := Cu.leftGo_le s.data.toList 4 i [] (by rw [len_toList]; exact hi)
  rw [len_toList] at hle
  have HN := hide (Cu.ruleAt_no (s := s.data.toList) (i := i))
  have HY := hide (Cu.ruleAt_yes (s := s.data.toList) (i := i))
  go_enter Tryz.func88, Tryz.ntmps88
  go_wp2_with fail
  refine (left_any s i R _ hs hi hR).mono ?_
  rintro e w1 ⟨rfl, hr1⟩
  generalize Cu.leftGo s.data.toList 4 i [] = lg at *
  obtain ⟨j, l⟩ := lg
  simp only at hle HN HY hr1
  refine Hid.out ?_
  simp only
  refine hide ?_
  have hR1 := hr1.blk.lt
  obtain ⟨tl, vl, hvl⟩ := leftV_iface l
  have HVL := hide hvl
  go_wp2_with fail
  refine (take_any s midB j R _ hs hle.2 hr1.blk).mono ?_
  rintro e w2 ⟨rfl, hr2⟩
  rw [midB_toList] at hr2 ⊢
  have hr2' := hide (hr1.trans hr2)
  have hR2 := hr2.blk.lt
  have hw2 := (unhide hr2').grown.size
  cases hmd : Cu.mid s.data.toList j with
  | false =>
    have hd : ¬ 0 ≤ Cu.tk s.data.toList Cu.midL j := by have h := Cu.mid_tk s.data.toList j; rw [hmd] at h; simpa using h.symm
    have hend := Cu.tk_no hd
    have hfin : Hid (Cu.ruleAt s.data.toList i = (false, j, 0, l, [])) := hide ((unhide HN) hmd)
    rw [hend] at hr2 hr2'
    go_wp2_with fail
    refine (fault_any s j R _ hr2.blk).mono ?_
    rintro e w3 ⟨rfl, rfl⟩
    go_wp2
    go_ret2
    exact Or.inl ⟨j, 0, l, unhide hfin, rfl, unhide hr2'⟩
  | true =>
    have hd : 0 ≤ Cu.tk s.data.toList Cu.midL j := by have h := Cu.mid_tk s.data.toList j; rw [hmd] at h; simpa using h.symm
    have hend : Cu.tkEnd s.data.toList Cu.midL j = j + 1 := by unfold Cu.tkEnd; rw [if_pos hd]
    have hjl := ((Cu.tk_ge s.data.toList Cu.midL j).2 hd).1
    have hbar : Hid ((Cu.tk s.data.toList Cu.midL j == 1) = (Cu.byt s.data.toList j == 124)) := hide (by
      rw [Cu.tk_at hjl]
      have h2 := hmd
      unfold Cu.mid at h2
      rw [Bool.and_eq_true] at h2
      exact Cu.mid_bar ⟨Cu.byt s.data.toList j, Cu.byt_lt' _ _⟩ h2.2)
    have hfin := hide ((unhide HY) hmd)
    rw [len_toList] at hjl
    rw [hend] at hr2 hr2'
    clear hend hmd
    go_wp2_with fail
    refine (right_any s (j + 1) R _ hs (by omega) hr2.blk).mono ?_
    rintro e w3 ⟨aR, cR, rfl, hoR, hr3⟩
    have hr3' := hide ((unhide hr2').trans hr3)
    have HOR := hide (own_base hoR hw2)
    clear hoR hr3 hr2
    go_wp2
    go_ret2
    refine Or.inr ⟨_, _, l, _, aR, cR, unhide hfin, ?_, unhide HOR, unhide hr3'⟩
    rw [← unhide hbar, unhide HVL]
    rfl
end Go.Proofs.YtkinfleecfddlaaGreatDoor
