/- Walks: the reference's rule. -/
import Derived.Test.YtbppbejigedioabGreatDoorRefA
import Derived.Test.YtbppbejigedioabGreatDoorBlocks
import Derived.Test.YtbppbejigedioabGreatDoorPlainA
import Derived.Deep.RegionLawGrows
import Derived.Deep.DeepCutAuto
import Derived.Deep.CutBlock
namespace Go.Proofs.YtbppbejigedioabGreatDoor
open Go.RowKit

/-- append to a row of the call's own, as one step of a region that draws its order. -/
theorem step_append_own {P : Program} {ops : Array Oper} {o : Oper} {a : Act} {w : World} {K : Act → World → Prop} {Q : Exit → Act → World → Prop} {E : Prop}
    (hg : o.guard = none) (s x : Operand) (t : TypeId) (hop : o.op = Op.call { callee := Callee.builtin Builtin.append, args := #[s, x], argTypes := #[t, t] })
    (base : Nat) (e : TypeId) (i : TypeInfo) (z : Value) (size bytes : Nat) (h1 : P.underlying t = some (.slice e)) (h2 : P.info? e = some i) (h3 : i.zero = some z) (h4 : i.size = size) (h5 : i.bytes = bytes) (h6 : z.cells.size = size) (h7 : 0 < size)
    (v : Value) (n : Nat) (xs : List Value) (hs : a.eval s = v) (hown : w.ownsRow base e size v n xs)
    (ad : Addr) (m c : Nat) (news : List Value) (hx : a.eval x = .slice (some ad) m c) (hn : news.length = m * size) (hc : ∀ j u, news[j]? = some u → w.cell? (ad.add j) = some u) (h1c : ∀ u ∈ news, u.oneCell' = true)
    (b1 : n + m ≤ maxLen) (b2 : (n + m) * bytes ≤ 140737488355328) (hbase : base ≤ w.heap.size)
    (hK : ∀ v' w', w'.ownsRow base e size v' (n + m) (xs ++ news) → w.grownBy w' v.ownBlock → K (a.put o.dst v') w') :
    if Region.wanted o (yielded ops a.tmps) = true then Oper.wp P o a w K Q else E := by
  have hw : Region.wanted o (yielded ops a.tmps) = true := by simp [Region.wanted, hg]
  rw [if_pos hw]
  obtain ⟨v', w', hrun, r1, r2, _⟩ := run_append_own (P := P) w base t o.type e i z size bytes h1 h2 h3 h4 h5 h6 h7 v n xs hown ad m c news hn hc h1c b1 b2 hbase
  unfold Oper.wp
  simp [execOp, hop, resolve, invoke, builtin, hs, hx, hrun, Result.andThen]
  exact hK v' w' r1 r2

/-- An atom's three cells. -/
def atomCells : List Cu.Atom → List Value
  | [] => []
  | x :: r => [.int .u8 x.1, .int .u8 x.2.1, .int .i64 x.2.2] ++ atomCells r
theorem atomCells_snoc (l : List Cu.Atom) (x : Cu.Atom) : atomCells (l ++ [x]) = atomCells l ++ [.int .u8 x.1, .int .u8 x.2.1, .int .i64 x.2.2] := by
  induction l with
  | nil => rfl
  | cons y l ih => simp [atomCells, ih]

theorem Tryz.info229 : (Tryz.prog.info? 229).map (fun i => (i.zero, i.size, i.bytes)) = some (some (.agg #[.int .u8 0, .int .u8 0, .int .i64 0]), 3, 16) := by kernel_rfl

/-- What holds at the head of rule's first loop. -/
def RuleRel (s : ByteArray) (i : Nat) (w : World) (x : Value) (wr : World) : Prop :=
  ∃ (j k cap : Nat) (l : List Cu.Atom) (a : Option Addr), i ≤ j ∧ j ≤ s.size ∧ x = .int .i64 j ∧ l.length + k = 4 ∧
    Blk wr w.heap.size [.int .u8 0, .slice none 0 0, .int .u8 0, .slice none 0 0, .slice none 0 0, .int .i64 0] 162 ∧
    Blk wr (w.heap.size + 1) [.int .u8 0, .slice none 0 0, .int .u8 0, .slice a l.length cap, .slice none 0 0, .int .i64 i] 162 ∧
    wr.ownsRow (w.heap.size + 2) 229 3 (.slice a l.length cap) l.length (atomCells l) ∧ Below w.heap.size w wr ∧ w.heap.size + 2 ≤ wr.heap.size ∧
    Cu.leftGo s.data.toList k j l = Cu.leftGo s.data.toList 4 i []

/-- What holds behind rule's first loop. -/
def RuleMid (s : ByteArray) (i : Nat) (w : World) (x : Value) (wr : World) : Prop :=
  ∃ (cap : Nat) (a : Option Addr), x = .int .i64 (Cu.leftGo s.data.toList 4 i []).1 ∧
    Blk wr w.heap.size [.int .u8 0, .slice none 0 0, .int .u8 0, .slice none 0 0, .slice none 0 0, .int .i64 0] 162 ∧
    Blk wr (w.heap.size + 1) [.int .u8 0, .slice none 0 0, .int .u8 0, .slice a (Cu.leftGo s.data.toList 4 i []).2.length cap, .slice none 0 0, .int .i64 i] 162 ∧
    wr.ownsRow (w.heap.size + 2) 229 3 (.slice a (Cu.leftGo s.data.toList 4 i []).2.length cap) (Cu.leftGo s.data.toList 4 i []).2.length (atomCells (Cu.leftGo s.data.toList 4 i []).2) ∧ Below w.heap.size w wr

theorem rule_step {s : ByteArray} {i j' k cap cap' : Nat} {l : List Cu.Atom} {x : Cu.Atom} {a a' : Option Addr} {w w2 : World} (h1 : i ≤ j') (h2 : j' ≤ s.size) (h3 : l.length + 1 + k = 4)
    (hB0 : Blk w2 w.heap.size [.int .u8 0, .slice none 0 0, .int .u8 0, .slice none 0 0, .slice none 0 0, .int .i64 0] 162)
    (hB1 : Blk w2 (w.heap.size + 1) [.int .u8 0, .slice none 0 0, .int .u8 0, .slice a l.length cap, .slice none 0 0, .int .i64 i] 162)
    (ho : w2.ownsRow (w.heap.size + 2) 229 3 (.slice a' (l.length + 1) cap') (l.length + 1) (atomCells l ++ [.int .u8 x.1, .int .u8 x.2.1, .int .i64 x.2.2]))
    (hbel : Below w.heap.size w w2) (hsz : w.heap.size + 2 ≤ w2.heap.size)
    (hgo : Cu.leftGo s.data.toList k j' (l ++ [x]) = Cu.leftGo s.data.toList 4 i []) :
    RuleRel s i w (.int .i64 j') (w2.setCell ⟨w.heap.size + 1, 3, none⟩ (.slice a' (l.length + 1) cap')) := by
  have hlen : (l ++ [x]).length = l.length + 1 := by simp
  refine ⟨j', k, cap', l ++ [x], a', h1, h2, rfl, by omega, hB0.setOther _ _ (by simp), ?_, ?_, hbel.setCell (by simp) _, by simpa [World.setCell] using hsz, hgo⟩
  · rw [hlen]; exact hB1.setSame 3 _
  · rw [hlen, atomCells_snoc]; exact ownsRow_setCell_below ho (by simp) _

/-- Behind an append: two old blocks. -/
theorem two_grow {w w1 w2 W : World} {base : Nat} {a : Option Addr} {n cap : Nat} {xs cs0 cs1 : List Value} {t e : TypeId} (hW : Below w1.heap.size w1 W) (ho : w1.ownsRow base e 3 (.slice a n cap) n xs) (hbase : w.heap.size + 2 ≤ base)
    (hB0 : Blk w1 w.heap.size cs0 t) (hB1 : Blk w1 (w.heap.size + 1) cs1 t) (hbel : Below w.heap.size w w1) (hg : W.grownBy w2 (Value.slice a n cap).ownBlock) :
    Blk w2 w.heap.size cs0 t ∧ Blk w2 (w.heap.size + 1) cs1 t ∧ Below w.heap.size w w2 ∧ w1.heap.size ≤ w2.heap.size := by
  have h0 := hB0.lt
  have h1 := hB1.lt
  have hs := hW.size
  refine ⟨(hB0.below hW h0).grown hg (row_ne_low' ho (by omega)), (hB1.below hW h1).grown hg (row_ne_low' ho (by omega)), ?_, ?_⟩
  · exact (hbel.trans (hW.mono (by omega))).grown hg (by omega) (fun k hk => by have := (ho.lt k hk).1; omega)
  · have := hg.size; omega

theorem u8u8i (a b c : Int) : ∀ u ∈ [Value.int .u8 a, Value.int .u8 b, Value.int .i64 c], u.oneCell' = true := one3 a b c

theorem left_kept {wr W w2 : World} {base B : Nat} {e : TypeId} {vL vR : Value} {nL nR : Nat} {xsL xsR : List Value} (hO : wr.ownsRow base e 3 vL nL xsL) (hL : ∀ b, vL.ownBlock = some b → b < B) (hR : wr.ownsRow B e 3 vR nR xsR)
    (hW : Below wr.heap.size wr W) (hg : W.grownBy w2 vR.ownBlock) : w2.ownsRow base e 3 vL nL xsL := by
  refine (own_below hO hW).kept hg ?_
  cases h : vL.ownBlock with
  | none => left; rfl
  | some b =>
    right
    intro h2
    have h3 := (hR.lt b h2.symm).1
    have h4 := hL b h
    omega
theorem below_one (w : World) (o : Obj) : Below w.heap.size w (w.alloc o).drew := ((Below.refl _ _).alloc (Nat.le_refl _) _).drew

/-- What holds at the head of rule's second loop. -/
def RuleRel2 (s : ByteArray) (i : Nat) (w wc : World) (op p : Nat) (L : List Cu.Atom) (aL : Option Addr) (capL : Nat) (x : Value) (wr : World) : Prop :=
  ∃ (j k cap : Nat) (l : List Cu.Atom) (a : Option Addr), j ≤ s.size ∧ x = .int .i64 j ∧ l.length + k = 2 ∧
    Blk wr w.heap.size [.int .u8 0, .slice none 0 0, .int .u8 0, .slice none 0 0, .slice none 0 0, .int .i64 0] 162 ∧
    Blk wr (w.heap.size + 1) [.int .u8 0, .slice none 0 0, .int .u8 op, .slice aL L.length capL, .slice a l.length cap, .int .i64 i] 162 ∧
    wr.ownsRow (w.heap.size + 2) 229 3 (.slice aL L.length capL) L.length (atomCells L) ∧
    (∀ b, (Value.slice aL L.length capL).ownBlock = some b → b < wc.heap.size) ∧
    wr.ownsRow wc.heap.size 229 3 (.slice a l.length cap) l.length (atomCells l) ∧ Below w.heap.size w wr ∧ w.heap.size + 2 ≤ wc.heap.size ∧ wc.heap.size ≤ wr.heap.size ∧
    Cu.rightGo s.data.toList k j l = Cu.rightGo s.data.toList 2 p []

theorem rule_step2 {s : ByteArray} {i op p j' k cap cap' capL : Nat} {l L : List Cu.Atom} {x : Cu.Atom} {a a' aL : Option Addr} {w wc w2 : World} (h2 : j' ≤ s.size) (h3 : l.length + 1 + k = 2)
    (hB0 : Blk w2 w.heap.size [.int .u8 0, .slice none 0 0, .int .u8 0, .slice none 0 0, .slice none 0 0, .int .i64 0] 162)
    (hB1 : Blk w2 (w.heap.size + 1) [.int .u8 0, .slice none 0 0, .int .u8 op, .slice aL L.length capL, .slice a l.length cap, .int .i64 i] 162)
    (hoL : w2.ownsRow (w.heap.size + 2) 229 3 (.slice aL L.length capL) L.length (atomCells L))
    (hL : ∀ b, (Value.slice aL L.length capL).ownBlock = some b → b < wc.heap.size)
    (ho : w2.ownsRow wc.heap.size 229 3 (.slice a' (l.length + 1) cap') (l.length + 1) (atomCells l ++ [.int .u8 x.1, .int .u8 x.2.1, .int .i64 x.2.2]))
    (hbel : Below w.heap.size w w2) (hsz : w.heap.size + 2 ≤ wc.heap.size) (hsz2 : wc.heap.size ≤ w2.heap.size)
    (hgo : Cu.rightGo s.data.toList k j' (l ++ [x]) = Cu.rightGo s.data.toList 2 p []) :
    RuleRel2 s i w wc op p L aL capL (.int .i64 j') (w2.setCell ⟨w.heap.size + 1, 4, none⟩ (.slice a' (l.length + 1) cap')) := by
  have hlen : (l ++ [x]).length = l.length + 1 := by simp
  refine ⟨j', k, cap', l ++ [x], a', h2, rfl, by omega, hB0.setOther _ _ (by simp), ?_, ownsRow_setCell_below hoL (by simp) _, hL, ?_, hbel.setCell (by simp) _, hsz, by simpa [World.setCell] using hsz2, hgo⟩
  · rw [hlen]; exact hB1.setSame 4 _
  · rw [hlen, atomCells_snoc]; exact ownsRow_setCell_below ho (by simp; omega) _

/-- What rule hands back. -/
def RuleRes (s : ByteArray) (i : Nat) (w : World) (e : Ending) (w' : World) : Prop :=
  ∃ (aL aR : Option Addr) (capL capR : Nat) (b : Bool) (p op : Nat) (l r : List Cu.Atom), Cu.ruleAt s.data.toList i = (b, p, op, l, r) ∧
    e = .returned (.tuple #[.agg #[.int .u8 0, .slice none 0 0, .int .u8 op, .slice aL l.length capL, .slice aR r.length capR, .int .i64 i], .int .i64 p, .bool b]) ∧
    w'.ownsRow w.heap.size 229 3 (.slice aL l.length capL) l.length (atomCells l) ∧
    w'.ownsRow w.heap.size 229 3 (.slice aR r.length capR) r.length (atomCells r) ∧ Below w.heap.size w w'

set_option maxRecDepth 100000 in
set_option maxHeartbeats 1000000 in
theorem rule_any (s : ByteArray) (i : Nat) (w : World) (hs : s.size ≤ 200) (h1 : i ≤ s.size) :
    Calls Tryz.prog 72 #[.string s, .int .i64 i] w fun e w' => RuleRes s i w e w' := by
  obtain ⟨i0, ki, kz0, kz1, kz2⟩ := info_parts Tryz.info229
  go_enter Tryz.func72, Tryz.ntmps72
  go_upto_block 0 with fail
  go_cut [1] (fun x wr => RuleMid s i w x wr)
  case first =>
    go_wp2
    go_loopw [1] (fun x wr => RuleRel s i w x wr) (fun x _ => s.size + 1 - (intOf x).toNat)
    case atStart =>
      go_light
      exact ⟨i, 4, 0, [], none, Nat.le_refl _, h1, rfl, rfl, (Blk.new w _ _).alloc _, Blk.new' _ _ (by simp) _ _, World.ownsRow_nil _ _ _ _, ((Below.refl _ _).alloc (Nat.le_refl _) _).alloc (by simp) _, by simp, rfl⟩
    case round =>
      obtain ⟨j, k, cap, l, a, hj0, hj, rfl, hk, hB0, hB1, hown, hbel, hsz, hgo⟩ := hrel
      have HG := hide hgo
      have HO := hide hown
      clear hgo hown
      obtain ⟨c0, c1, c2, c3, c4, c5, c6⟩ := hB1.six
      have hB1lt := hB1.lt
      cases hsg : Cu.sgn s.data.toList j with
      | false =>
        have hr : Hid (RuleMid s i w (.int .i64 j) wr) := hide (by
          have e1 : Cu.leftGo s.data.toList 4 i [] = (j, l) := by rw [← unhide HG, Cu.leftGo_stop hsg]
          unfold RuleMid; rw [e1]; exact ⟨cap, a, rfl, hB0, hB1, unhide HO, hbel⟩)
        have hst := Cu.sgn_false hsg
        clear hsg
        rw [len_toList] at hst
        rcases hst with h2 | ⟨h2, h3⟩
        all_goals try (have hbe := byt_eq s j h2)
        all_goals have hb := byt_lt s.data.toList j
        all_goals
          go_wp2_with (go_at_call 107; refine (isSign_nat _ _ hb).mono ?_; rintro e w' ⟨rfl, rfl⟩)
          go_meet
          case rel => exact unhide hr
      | true =>
        obtain ⟨h2, h3⟩ := Cu.sgn_true hsg
        rw [len_toList] at h2
        have hbe := byt_eq s j h2
        have hb := byt_lt s.data.toList j
        by_cases hk0 : k = 0
        · have hr : Hid (RuleMid s i w (.int .i64 j) wr) := hide (by
            have e1 : Cu.leftGo s.data.toList 4 i [] = (j, l) := by rw [← unhide HG, hk0]; rfl
            unfold RuleMid; rw [e1]; exact ⟨cap, a, rfl, hB0, hB1, unhide HO, hbel⟩)
          have h4 : ¬ l.length < 4 := by omega
          clear hk0
          go_wp2_with (go_at_call 107; refine (isSign_nat _ _ hb).mono ?_; rintro e w' ⟨rfl, rfl⟩)
          go_meet
          case rel => exact unhide hr
        · obtain ⟨m, rfl⟩ : ∃ m, k = m + 1 := ⟨k - 1, by omega⟩
          have h4 : l.length < 4 := by omega
          have hcap : (l.length + 1) * 16 ≤ 140737488355328 := by omega
          have hmax : l.length + 1 ≤ maxLen := by unfold maxLen; omega
          clear hk0
          cases hhw : Cu.how s.data.toList (j + 1) with
          | false =>
            have hr := hide (Cu.leftGo_bare (k := m) (l := l) hsg hhw)
            have hst := Cu.how_false hhw
            clear hsg hhw
            rw [len_toList] at hst
            rcases hst with h5 | ⟨h5, h6⟩
            all_goals try (have hbe2 := byt_eq s (j + 1) h5)
            all_goals have hb2 := byt_lt s.data.toList (j + 1)
            all_goals
              go_wp2_with (first | (go_at_call 107; refine (isSign_nat _ _ hb).mono ?_; rintro e w' ⟨rfl, rfl⟩) | (go_at_call 108; refine (isHow_nat _ _ hb2).mono ?_; rintro e w' ⟨rfl, rfl⟩) | (at_builtin; refine wpList_append_own _ rfl (.tmp 51) (.tmp 53) 160 rfl (w.heap.size + 2) 229 i0 (.agg #[.int .u8 0, .int .u8 0, .int .i64 0]) 3 16 Tryz.underlying160 ki kz0 kz1 kz2 rfl (by decide) (.slice a l.length cap) l.length (atomCells l) rfl (((unhide HO).alloc _).alloc _) ⟨wr.heap.size + 1, 0, none⟩ 1 1 [.int .u8 (Cu.byt s.data.toList j), .int .u8 32, .int .i64 j] rfl rfl (news_new _ _ (by simp) _ _) (one3 _ _ _) hmax hcap (by simp; omega) ?_; intro v' w2 hown' hgrow _; refine Hid.out ?_))
              refine hide ?_
              obtain ⟨a', cap', hv'⟩ := own_form hown'
              subst hv'
              obtain ⟨hk0, hk1, hk2, hk3⟩ := two_grow (((Below.refl _ _).alloc (Nat.le_refl _) _).alloc (by simp) _) (unhide HO) (Nat.le_refl _) hB0 hB1 hbel hgrow
              have hstep := hide (rule_step (s := s) (x := (Cu.byt s.data.toList j, 32, j)) (k := m) (j' := j + 1) (by omega) (by omega) (by omega) hk0 hk1 hown' hk2 (by omega) (by rw [← unhide hr, unhide HG]))
              obtain ⟨e0, e1, e2, e3, e4, e5, e6⟩ := hk1.six
              clear hown' hgrow c0 c1 c2 c3 c4 c5 c6
              go_wp2
              go_roundw
              case rel => exact unhide hstep
              case measure => simp [intOf]; omega
          | true =>
            have hr := hide (Cu.leftGo_how (k := m) (l := l) hsg hhw)
            obtain ⟨h5, h6⟩ := Cu.how_true hhw
            clear hsg hhw
            rw [len_toList] at h5
            have hbe2 := byt_eq s (j + 1) h5
            have hb2 := byt_lt s.data.toList (j + 1)
            go_wp2_with (first | (go_at_call 107; refine (isSign_nat _ _ hb).mono ?_; rintro e w' ⟨rfl, rfl⟩) | (go_at_call 108; refine (isHow_nat _ _ hb2).mono ?_; rintro e w' ⟨rfl, rfl⟩) | (at_builtin; refine wpList_append_own _ rfl (.tmp 51) (.tmp 53) 160 rfl (w.heap.size + 2) 229 i0 (.agg #[.int .u8 0, .int .u8 0, .int .i64 0]) 3 16 Tryz.underlying160 ki kz0 kz1 kz2 rfl (by decide) (.slice a l.length cap) l.length (atomCells l) rfl (((unhide HO).alloc _).alloc _) ⟨wr.heap.size + 1, 0, none⟩ 1 1 [.int .u8 (Cu.byt s.data.toList j), .int .u8 (Cu.byt s.data.toList (j + 1)), .int .i64 j] rfl rfl (news_new _ _ (by simp) _ _) (one3 _ _ _) hmax hcap (by simp; omega) ?_; intro v' w2 hown' hgrow _; refine Hid.out ?_))
            refine hide ?_
            obtain ⟨a', cap', hv'⟩ := own_form hown'
            subst hv'
            obtain ⟨hk0, hk1, hk2, hk3⟩ := two_grow (((Below.refl _ _).alloc (Nat.le_refl _) _).alloc (by simp) _) (unhide HO) (Nat.le_refl _) hB0 hB1 hbel hgrow
            have hstep := hide (rule_step (s := s) (x := (Cu.byt s.data.toList j, Cu.byt s.data.toList (j + 1), j)) (k := m) (j' := j + 2) (by omega) (by omega) (by omega) hk0 hk1 hown' hk2 (by omega) (by rw [← unhide hr, unhide HG]))
            obtain ⟨e0, e1, e2, e3, e4, e5, e6⟩ := hk1.six
            clear hown' hgrow c0 c1 c2 c3 c4 c5 c6
            go_wp2
            go_roundw
            case rel => exact unhide hstep
            case measure => simp [intOf]; omega
  case rest =>
    obtain ⟨cap, a, rfl, hB0, hB1, hown, hbel⟩ := hcut
    have hle : (Cu.leftGo s.data.toList 4 i []).1 ≤ s.size := by have := (Cu.leftGo_le s.data.toList 4 i [] (by rw [len_toList]; exact h1)).2; rwa [len_toList] at this
    have HN := hide (Cu.ruleAt_no (s := s.data.toList) (i := i))
    have HY := hide (Cu.ruleAt_yes (s := s.data.toList) (i := i))
    generalize Cu.leftGo s.data.toList 4 i [] = lg at *
    obtain ⟨j, L⟩ := lg
    have HO := hide hown
    clear hown
    obtain ⟨c0, c1, c2, c3, c4, c5, c6⟩ := hB1.six
    obtain ⟨y0, y1, y2, y3, y4, y5, y6⟩ := hB0.six
    have hB1lt := hB1.lt
    simp only at hle HN HY hB1 HO c0 c1 c2 c3 c4 c5
    refine Hid.out ?_
    simp only
    refine hide ?_
    cases hmd : Cu.mid s.data.toList j with
    | false =>
      have hr : Hid (Cu.ruleAt s.data.toList i = (false, j, 0, L, [])) := hide ((unhide HN) hmd)
      have hst : ¬ j < s.size ∨ (j < s.size ∧ ((Cu.byt s.data.toList j : Int) != 33) = true ∧ ((Cu.byt s.data.toList j : Int) != 124) = true) := by
        unfold Cu.mid at hmd
        rw [len_toList, Bool.and_eq_false_iff] at hmd
        by_cases h2 : j < s.size
        · right
          have h3 := hmd.resolve_left (by simp [h2])
          rw [Bool.or_eq_false_iff, beq_eq_false_iff_ne, beq_eq_false_iff_ne] at h3
          refine ⟨h2, ?_, ?_⟩
          · rw [bne_iff_ne]; omega
          · rw [bne_iff_ne]; omega
        · left; exact h2
      clear hmd
      rcases hst with h2 | ⟨h2, h3, h4⟩
      all_goals try (have hbe := byt_eq s j h2)
      all_goals try (have hb := byt_lt s.data.toList j)
      all_goals
        go_wp2
        exact bodyPost_ret (v := .tuple #[.agg #[.int .u8 0, .slice none 0 0, .int .u8 0, .slice a L.length cap, .slice none 0 0, .int .i64 i], .int .i64 j, .bool false]) (by simp [results, Tryz.results72, go_sem, *]) rfl ⟨a, none, cap, 0, false, j, 0, L, [], unhide hr, rfl, own_base (own_set6 (unhide HO) (by omega) _ _ _ _ _ _) (by omega), World.ownsRow_nil _ _ _ _, below_set6 hbel (Nat.le_refl _) _ _ _ _ _ _⟩
    | true =>
      have hr : Hid (Cu.ruleAt s.data.toList i = (true, (Cu.rightGo s.data.toList 2 (j + 1) []).1, Cu.byt s.data.toList j, L, (Cu.rightGo s.data.toList 2 (j + 1) []).2)) := hide ((unhide HY) hmd)
      have hst : j < s.size ∧ (((Cu.byt s.data.toList j : Int) != 33) = false ∨ (((Cu.byt s.data.toList j : Int) != 33) = true ∧ ((Cu.byt s.data.toList j : Int) != 124) = false)) := by
        unfold Cu.mid at hmd
        rw [len_toList, Bool.and_eq_true] at hmd
        refine ⟨by simpa using hmd.1, ?_⟩
        have h3 := hmd.2
        rw [Bool.or_eq_true, beq_iff_eq, beq_iff_eq] at h3
        rcases h3 with h | h
        · left; rw [h]; rfl
        · right; rw [h]; exact ⟨rfl, rfl⟩
      obtain ⟨h2, hst⟩ := hst
      have hdec : decide (s.size ≤ j) = false := by simp; omega
      have hbe := byt_eq s j h2
      have hb := byt_lt s.data.toList j
      clear hmd
      have hlR := hide (Cu.rightGo_le s.data.toList 2 (j + 1) [] (by rw [len_toList]; omega))
      rcases hst with h3 | ⟨h3, h4⟩
      all_goals
        have hBs : Blk (wc.setCell ⟨w.heap.size + 1, 2, none⟩ (.int .u8 (Cu.byt s.data.toList j))) (w.heap.size + 1) [.int .u8 0, .slice none 0 0, .int .u8 (Cu.byt s.data.toList j), .slice a L.length cap, .slice none 0 0, .int .i64 i] 162 := hB1.setSame 2 _
        have hB0s := hB0.setOther ⟨w.heap.size + 1, 2, none⟩ (.int .u8 (Cu.byt s.data.toList j)) (by simp)
        have hOs := hide (ownsRow_setCell_below (unhide HO) (a := ⟨w.heap.size + 1, 2, none⟩) (by simp) (.int .u8 (Cu.byt s.data.toList j)))
        have hLs := hide (hbel.setCell (p := ⟨w.heap.size + 1, 2, none⟩) (by simp) (.int .u8 (Cu.byt s.data.toList j)))
        have hHs := hide (show (wc.setCell ⟨w.heap.size + 1, 2, none⟩ (.int .u8 (Cu.byt s.data.toList j))).heap.size = wc.heap.size by simp [World.setCell])
        go_wp2
        go_loopw [1] (fun x wr => RuleRel2 s i w wc (Cu.byt s.data.toList j) (j + 1) L a cap x wr) (fun x _ => s.size + 1 - (intOf x).toNat)
        case atStart =>
          go_light
          exact ⟨j + 1, 2, 0, [], none, by omega, by go_num, rfl, hB0s, hBs, unhide hOs, fun b hb => ((unhide HO).lt b hb).2, World.ownsRow_nil _ _ _ _, unhide hLs, by omega, by rw [unhide hHs]; omega, rfl⟩
        case round =>
          clear hBs hB0s hOs hLs hHs hbe hb h2 h3 c0 c1 c2 c3 c4 c5 c6 y0 y1 y2 y3 y4 y5 y6 hB0 hB1 HN HY
          obtain ⟨p, k, capR, l, aR, hj, rfl, hk, hB0, hB1, hown, hblk, hownR, hbelR, hsz, hsz2, hgo⟩ := hrel
          have HG := hide hgo
          have HO := hide hown
          have HR := hide hownR
          have HBL := hide hblk
          clear hgo hown hownR hblk
          obtain ⟨c0, c1, c2, c3, c4, c5, c6⟩ := hB1.six
          obtain ⟨y0, y1, y2, y3, y4, y5, y6⟩ := hB0.six
          have hB1lt := hB1.lt
          cases hsg : Cu.sgn s.data.toList p with
          | false =>
            have hr2 : Hid (Cu.ruleAt s.data.toList i = (true, p, Cu.byt s.data.toList j, L, l)) := hide (by rw [unhide hr, ← unhide HG, Cu.rightGo_stop hsg])
            have hst := Cu.sgn_false hsg
            clear hsg
            rw [len_toList] at hst
            rcases hst with h2 | ⟨h2, h3⟩
            all_goals try (have hbe := byt_eq s p h2)
            all_goals have hb := byt_lt s.data.toList p
            all_goals
              go_wp2_with (go_at_call 107; refine (isSign_nat _ _ hb).mono ?_; rintro e w' ⟨rfl, rfl⟩)
              exact bodyPost_ret (v := .tuple #[.agg #[.int .u8 0, .slice none 0 0, .int .u8 (Cu.byt s.data.toList j), .slice a L.length cap, .slice aR l.length capR, .int .i64 i], .int .i64 p, .bool true]) (by simp [results, Tryz.results72, go_sem, *]) rfl ⟨a, aR, cap, capR, true, p, _, L, l, unhide hr2, rfl, own_base (own_set6 (unhide HO) (by omega) _ _ _ _ _ _) (by omega), own_base (own_set6 (unhide HR) (by omega) _ _ _ _ _ _) (by omega), below_set6 hbelR (Nat.le_refl _) _ _ _ _ _ _⟩
          | true =>
            obtain ⟨h2, h3⟩ := Cu.sgn_true hsg
            rw [len_toList] at h2
            have hbe := byt_eq s p h2
            have hb := byt_lt s.data.toList p
            by_cases hk0 : k = 0
            · have hr2 : Hid (Cu.ruleAt s.data.toList i = (true, p, Cu.byt s.data.toList j, L, l)) := hide (by rw [unhide hr, ← unhide HG, hk0]; rfl)
              have h4 : ¬ l.length < 2 := by omega
              clear hk0
              go_wp2_with (go_at_call 107; refine (isSign_nat _ _ hb).mono ?_; rintro e w' ⟨rfl, rfl⟩)
              exact bodyPost_ret (v := .tuple #[.agg #[.int .u8 0, .slice none 0 0, .int .u8 (Cu.byt s.data.toList j), .slice a L.length cap, .slice aR l.length capR, .int .i64 i], .int .i64 p, .bool true]) (by simp [results, Tryz.results72, go_sem, *]) rfl ⟨a, aR, cap, capR, true, p, _, L, l, unhide hr2, rfl, own_base (own_set6 (unhide HO) (by omega) _ _ _ _ _ _) (by omega), own_base (own_set6 (unhide HR) (by omega) _ _ _ _ _ _) (by omega), below_set6 hbelR (Nat.le_refl _) _ _ _ _ _ _⟩
            · obtain ⟨m, rfl⟩ : ∃ m, k = m + 1 := ⟨k - 1, by omega⟩
              have h4 : l.length < 2 := by omega
              have hcap : (l.length + 1) * 16 ≤ 140737488355328 := by omega
              have hmax : l.length + 1 ≤ maxLen := by unfold maxLen; omega
              have hr2 := hide (Cu.rightGo_go (k := m) (l := l) hsg)
              clear hk0 hsg
              go_wp2_with (go_at_call 107; refine (isSign_nat _ _ hb).mono ?_; rintro e w' ⟨rfl, rfl⟩)
              go_region_law (refine step_append_own rfl (.tmp 97) (.tmp 103) 160 rfl wc.heap.size 229 i0 (.agg #[.int .u8 0, .int .u8 0, .int .i64 0]) 3 16 Tryz.underlying160 ki kz0 kz1 kz2 rfl (by decide) (.slice aR l.length capR) l.length (atomCells l) (by simp [Act.eval]) (by exact (unhide HR).alloc _) ⟨wr.heap.size, 0, none⟩ 1 1 [.int .u8 (Cu.byt s.data.toList p), .int .u8 32, .int .i64 p] (by simp [Act.eval]) rfl (by exact news_new _ _ rfl _ _) (one3 _ _ _) hmax hcap (by simp; omega) ?_; intro v' w2 hown' hgrow; obtain ⟨a', cap', hv'⟩ := own_form hown'; subst hv'; obtain ⟨hk0, hk1, hk2, hk3⟩ := two_grow (below_one _ _) (unhide HR) hsz hB0 hB1 hbelR hgrow; have hoL := left_kept (unhide HO) (unhide HBL) (unhide HR) (below_one _ _) hgrow; have hstep := hide (rule_step2 (s := s) (x := (Cu.byt s.data.toList p, 32, p)) (k := m) (j' := p + 1) (by omega) (by omega) hk0 hk1 hoL (unhide HBL) hown' hk2 hsz (by omega) (by rw [← unhide hr2, unhide HG])); rw [show ((p + 1 : Nat) : Int) = (p : Int) + 1 from by omega] at hstep; obtain ⟨e0, e1, e2, e3, e4, e5, e6⟩ := hk1.six; clear hown' hgrow hoL)
              all_goals
                go_wp2
                go_roundw
                case rel => first | exact unhide hstep | ((repeat apply Exists.intro); exact ⟨unhide hstep, rfl⟩)
                case measure => simp [intOf]; omega
end Go.Proofs.YtbppbejigedioabGreatDoor
