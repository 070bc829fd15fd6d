/- The reference's lines in memory. -/
import Derived.Test.YtbppbejigedioabGreatDoorBlocks
import Derived.Test.YtbppbejigedioabGreatDoorPlainA
import Derived.Test.YtbppbejigedioabGreatDoorWalkD
import Derived.Test.YtbppbejigedioabGreatDoorWalkE
import Derived.BigQuiet
import Derived.Deep.QuietTactic
namespace Go.Proofs.YtbppbejigedioabGreatDoor
open Go.RowKit

/-- Where a line's three slices lie. -/
structure Refs where
  aI : Option Addr
  aL : Option Addr
  aR : Option Addr
  cI : Nat
  cL : Nat
  cR : Nat

def lnCells (x : Cu.Ln) (r : Refs) : List Value :=
  [.int .u8 x.name, .slice r.aI x.items.length r.cI, .int .u8 x.op, .slice r.aL x.left.length r.cL, .slice r.aR x.right.length r.cR, .int .i64 x.at_]
def linesCells : List (Cu.Ln × Refs) → List Value
  | [] => []
  | x :: r => lnCells x.1 x.2 ++ linesCells r
theorem linesCells_snoc (l : List (Cu.Ln × Refs)) (x : Cu.Ln × Refs) : linesCells (l ++ [x]) = linesCells l ++ lnCells x.1 x.2 := by
  induction l with
  | nil => simp [linesCells]
  | cons y l ih => simp [linesCells, ih]
theorem linesCells_length (l : List (Cu.Ln × Refs)) : (linesCells l).length = l.length * 6 := by
  induction l with
  | nil => rfl
  | cons y l ih => simp [linesCells, ih, lnCells]; omega

def LnOwn (w : World) (base : Nat) (x : Cu.Ln) (r : Refs) : Prop :=
  w.ownsRow base 207 3 (.slice r.aI x.items.length r.cI) x.items.length (itemCells x.items) ∧
  w.ownsRow base 229 3 (.slice r.aL x.left.length r.cL) x.left.length (atomCells x.left) ∧
  w.ownsRow base 229 3 (.slice r.aR x.right.length r.cR) x.right.length (atomCells x.right)
def LinesOwn (w : World) (base : Nat) (l : List (Cu.Ln × Refs)) : Prop := ∀ x ∈ l, LnOwn w base x.1 x.2

/-- Rows of two element types are two blocks. -/
theorem own_ne_type {w : World} {b1 b2 : Nat} {e1 e2 : TypeId} {s1 s2 n1 n2 : Nat} {v1 v2 : Value} {x1 x2 : List Value} (h1 : w.ownsRow b1 e1 s1 v1 n1 x1) (h2 : w.ownsRow b2 e2 s2 v2 n2 x2) (hne : e1 ≠ e2) : v1.ownBlock = none ∨ v1.ownBlock ≠ v2.ownBlock := by
  rcases h1.2 with ⟨rfl, _⟩ | ⟨g, cap, cur, rfl, _, hg, _⟩
  · left; rfl
  · right
    intro he
    rcases h2.2 with ⟨rfl, _⟩ | ⟨g2, cap2, cur2, rfl, _, hg2, _⟩
    · simp [Value.ownBlock] at he
    · simp [Value.ownBlock] at he
      subst he
      rw [hg] at hg2
      simp at hg2
      exact hne hg2.2
theorem own_grown {w W w2 : World} {b1 b2 : Nat} {e1 e2 : TypeId} {s1 s2 n1 n2 : Nat} {v1 v2 : Value} {x1 x2 : List Value} (h1 : w.ownsRow b1 e1 s1 v1 n1 x1) (h2 : w.ownsRow b2 e2 s2 v2 n2 x2) (hne : e1 ≠ e2) (hW : Below w.heap.size w W) (hg : W.grownBy w2 v2.ownBlock) : w2.ownsRow b1 e1 s1 v1 n1 x1 :=
  (own_below h1 hW).kept hg (own_ne_type h1 h2 hne)
theorem LnOwn.below {w w' : World} {base : Nat} {x : Cu.Ln} {r : Refs} (h : LnOwn w base x r) (hb : Below w.heap.size w w') : LnOwn w' base x r :=
  ⟨own_below h.1 hb, own_below h.2.1 hb, own_below h.2.2 hb⟩
theorem LnOwn.base {w : World} {base base' : Nat} {x : Cu.Ln} {r : Refs} (h : LnOwn w base x r) (hb : base' ≤ base) : LnOwn w base' x r :=
  ⟨own_base h.1 hb, own_base h.2.1 hb, own_base h.2.2 hb⟩
theorem LnOwn.grown {w W w2 : World} {base b2 : Nat} {x : Cu.Ln} {r : Refs} {s2 n2 : Nat} {v2 : Value} {x2 : List Value} (h : LnOwn w base x r) (h2 : w.ownsRow b2 162 s2 v2 n2 x2) (hW : Below w.heap.size w W) (hg : W.grownBy w2 v2.ownBlock) : LnOwn w2 base x r :=
  ⟨own_grown h.1 h2 (by decide) hW hg, own_grown h.2.1 h2 (by decide) hW hg, own_grown h.2.2 h2 (by decide) hW hg⟩
theorem LinesOwn.below {w w' : World} {base : Nat} {l : List (Cu.Ln × Refs)} (h : LinesOwn w base l) (hb : Below w.heap.size w w') : LinesOwn w' base l := fun x hx => (h x hx).below hb
theorem LinesOwn.grown {w W w2 : World} {base b2 : Nat} {l : List (Cu.Ln × Refs)} {s2 n2 : Nat} {v2 : Value} {x2 : List Value} (h : LinesOwn w base l) (h2 : w.ownsRow b2 162 s2 v2 n2 x2) (hW : Below w.heap.size w W) (hg : W.grownBy w2 v2.ownBlock) : LinesOwn w2 base l :=
  fun x hx => (h x hx).grown h2 hW hg
theorem LinesOwn.snoc {w : World} {base : Nat} {l : List (Cu.Ln × Refs)} {x : Cu.Ln × Refs} (h : LinesOwn w base l) (hx : LnOwn w base x.1 x.2) : LinesOwn w base (l ++ [x]) := by
  intro y hy
  rcases List.mem_append.1 hy with h1 | h1
  · exact h y h1
  · simp at h1; subst h1; exact hx

end Go.Proofs.YtbppbejigedioabGreatDoor
/- Walks: the reference's read. -/
namespace Go.Proofs.YtbppbejigedioabGreatDoor
open Go.RowKit

theorem Tryz.info162 : (Tryz.prog.info? 162).map (fun i => (i.zero, i.size, i.bytes)) = some (some (.agg #[.int .u8 0, .slice none 0 0, .int .u8 0, .slice none 0 0, .slice none 0 0, .int .i64 0]), 6, 96) := by kernel_rfl

/-- What holds at the head of read's loop. -/
def ReadRel (s : ByteArray) (w : World) (v x : Value) (wr : World) : Prop :=
  ∃ (i k cap : Nat) (l : List (Cu.Ln × Refs)) (a : Option Addr), i ≤ s.size ∧ x = .int .i64 i ∧ v = .slice a l.length cap ∧ l.length + (k + 1) = 12 ∧
    wr.ownsRow w.heap.size 162 6 (.slice a l.length cap) l.length (linesCells l) ∧ LinesOwn wr w.heap.size l ∧ Below w.heap.size w wr ∧
    Cu.readGo s.data.toList (k + 1) i (l.map Prod.fst) = Cu.readGo s.data.toList 12 0 []

/-- What holds behind the reading of one line. -/
def ReadMid (s : ByteArray) (i : Nat) (wr : World) (j ok : Value) (wc : World) : Prop :=
  ∃ r : Refs, j = .int .i64 (Cu.lineAt s.data.toList i).2.1 ∧ ok = .bool (Cu.lineAt s.data.toList i).1 ∧
    Blk wc wr.heap.size (lnCells (Cu.lineAt s.data.toList i).2.2 r) 162 ∧ LnOwn wc wr.heap.size (Cu.lineAt s.data.toList i).2.2 r ∧ Below wr.heap.size wr wc

/-- What read hands back. -/
def ReadRes (s : ByteArray) (w : World) (e : Ending) (w' : World) : Prop :=
  (∃ p : Nat, Cu.readGo s.data.toList 12 0 [] = (false, p, []) ∧ e = .returned (.tuple #[.slice none 0 0, .int .i64 p, .bool false]) ∧ Below w.heap.size w w') ∨
  (∃ (p cap : Nat) (l : List (Cu.Ln × Refs)) (a : Option Addr), Cu.readGo s.data.toList 12 0 [] = (true, p, l.map Prod.fst) ∧ e = .returned (.tuple #[.slice a l.length cap, .int .i64 p, .bool true]) ∧
    w'.ownsRow w.heap.size 162 6 (.slice a l.length cap) l.length (linesCells l) ∧ LinesOwn w' w.heap.size l ∧ Below w.heap.size w w')

theorem Blk.set6 {w : World} {b : Nat} {c0 c1 c2 c3 c4 c5 : Value} {t : TypeId} (h : Blk w b [c0, c1, c2, c3, c4, c5] t) (x0 x1 x2 x3 x4 x5 : Value) :
    Blk ((((((w.setCell ⟨b, 0, none⟩ x0).setCell ⟨b, 1, none⟩ x1).setCell ⟨b, 2, none⟩ x2).setCell ⟨b, 3, none⟩ x3).setCell ⟨b, 4, none⟩ x4).setCell ⟨b, 5, none⟩ x5) b [x0, x1, x2, x3, x4, x5] t :=
  (((((h.setSame 0 x0).setSame 1 x1).setSame 2 x2).setSame 3 x3).setSame 4 x4).setSame 5 x5

theorem mid_class {s : ByteArray} {i p cI : Nat} {b : Bool} {l : List Cu.Item} {aI : Option Addr} {wr w1 : World} (hc : Cu.isClass s.data.toList i = true) (hg : Cu.classGo s.data.toList (s.size + 1) (i + 2) [] = (b, p, l))
    (hW : Below wr.heap.size wr w1) (hX : Blk w1 wr.heap.size [.int .u8 0, .slice none 0 0, .int .u8 0, .slice none 0 0, .slice none 0 0, .int .i64 i] 162)
    (ho : w1.ownsRow (wr.heap.size + 1) 207 3 (.slice aI l.length cI) l.length (itemCells l)) :
    ReadMid s i wr (.int .i64 p) (.bool b) ((((((w1.setCell ⟨wr.heap.size, 0, none⟩ (.int .u8 (Cu.byt s.data.toList i))).setCell ⟨wr.heap.size, 1, none⟩ (.slice aI l.length cI)).setCell ⟨wr.heap.size, 2, none⟩ (.int .u8 0)).setCell ⟨wr.heap.size, 3, none⟩ (.slice none 0 0)).setCell ⟨wr.heap.size, 4, none⟩ (.slice none 0 0)).setCell ⟨wr.heap.size, 5, none⟩ (.int .i64 i)) := by
  have e1 := Cu.lineAt_class (b := b) (p := p) (l := l) hc (by rw [len_toList]; exact hg)
  refine ⟨⟨aI, none, none, cI, 0, 0⟩, by rw [e1], by rw [e1], ?_, ?_, below_set6 hW (Nat.le_refl _) _ _ _ _ _ _⟩
  · rw [e1]; exact hX.set6 _ _ _ _ _ _
  · rw [e1]; exact ⟨own_base (own_set6 ho (by omega) _ _ _ _ _ _) (by omega), World.ownsRow_nil _ _ _ _, World.ownsRow_nil _ _ _ _⟩
theorem mid_rule {s : ByteArray} {i p op cL cR : Nat} {b : Bool} {l r : List Cu.Atom} {aL aR : Option Addr} {wr w1 : World} (hc : Cu.isClass s.data.toList i = false) (hm : Cu.more s.data.toList i = true) (hg : Cu.ruleAt s.data.toList i = (b, p, op, l, r))
    (hW : Below wr.heap.size wr w1) (hX : Blk w1 wr.heap.size [.int .u8 0, .slice none 0 0, .int .u8 0, .slice none 0 0, .slice none 0 0, .int .i64 i] 162)
    (hoL : w1.ownsRow (wr.heap.size + 1) 229 3 (.slice aL l.length cL) l.length (atomCells l)) (hoR : w1.ownsRow (wr.heap.size + 1) 229 3 (.slice aR r.length cR) r.length (atomCells r)) :
    ReadMid s i wr (.int .i64 p) (.bool b) ((((((w1.setCell ⟨wr.heap.size, 0, none⟩ (.int .u8 0)).setCell ⟨wr.heap.size, 1, none⟩ (.slice none 0 0)).setCell ⟨wr.heap.size, 2, none⟩ (.int .u8 op)).setCell ⟨wr.heap.size, 3, none⟩ (.slice aL l.length cL)).setCell ⟨wr.heap.size, 4, none⟩ (.slice aR r.length cR)).setCell ⟨wr.heap.size, 5, none⟩ (.int .i64 i)) := by
  have e1 := Cu.lineAt_rule (b := b) (p := p) (op := op) (l := l) (r := r) hc hm hg
  refine ⟨⟨none, aL, aR, 0, cL, cR⟩, by rw [e1], by rw [e1], ?_, ?_, below_set6 hW (Nat.le_refl _) _ _ _ _ _ _⟩
  · rw [e1]; exact hX.set6 _ _ _ _ _ _
  · rw [e1]; exact ⟨World.ownsRow_nil _ _ _ _, own_base (own_set6 hoL (by omega) _ _ _ _ _ _) (by omega), own_base (own_set6 hoR (by omega) _ _ _ _ _ _) (by omega)⟩
theorem one6 (x : Cu.Ln) (r : Refs) : ∀ u ∈ lnCells x r, u.oneCell' = true := by
  intro u hu
  simp [lnCells] at hu
  rcases hu with rfl | rfl | rfl | rfl | rfl | rfl <;> rfl

/-- Behind the append of a line. -/
theorem read_grow {w wr wc W w2 : World} {a a' : Option Addr} {cap cap' : Nat} {l : List (Cu.Ln × Refs)} {x : Cu.Ln} {r : Refs} (hbel : Below w.heap.size w wr) (hb1 : Below wr.heap.size wr wc) (hW : Below wc.heap.size wc W)
    (ho : wr.ownsRow w.heap.size 162 6 (.slice a l.length cap) l.length (linesCells l)) (hl : LinesOwn wr w.heap.size l) (hx : LnOwn wc wr.heap.size x r)
    (ho2 : w2.ownsRow w.heap.size 162 6 (.slice a' (l.length + 1) cap') (l.length + 1) (linesCells l ++ lnCells x r)) (hg : W.grownBy w2 (Value.slice a l.length cap).ownBlock) :
    w2.ownsRow w.heap.size 162 6 (.slice a' (l ++ [(x, r)]).length cap') (l ++ [(x, r)]).length (linesCells (l ++ [(x, r)])) ∧ LinesOwn w2 w.heap.size (l ++ [(x, r)]) ∧ Below w.heap.size w w2 := by
  have hlen : (l ++ [(x, r)]).length = l.length + 1 := by simp
  have hs := hbel.size
  have hs1 := hb1.size
  have hs2 := hW.size
  have ho1 := own_below ho hb1
  refine ⟨by rw [hlen, linesCells_snoc]; exact ho2, ?_, ?_⟩
  · exact LinesOwn.snoc ((hl.below hb1).grown ho1 hW hg) ((hx.base hs).grown ho1 hW hg)
  · exact ((hbel.trans (hb1.mono hs)).trans (hW.mono (by omega))).grown hg (by omega) (fun k hk => (ho.lt k hk).1)

theorem mid_empty {s : ByteArray} {i : Nat} {wr : World} (hc : Cu.isClass s.data.toList i = false) (hm : Cu.more s.data.toList i = false) :
    ReadMid s i wr (.int .i64 i) (.bool true) (wr.alloc (.cells #[.int .u8 0, .slice none 0 0, .int .u8 0, .slice none 0 0, .slice none 0 0, .int .i64 i] 162)) := by
  have e1 := Cu.lineAt_empty hc hm
  refine ⟨⟨none, none, none, 0, 0, 0⟩, by rw [e1], by rw [e1], ?_, ?_, (Below.refl _ _).alloc (Nat.le_refl _) _⟩
  · rw [e1]; exact Blk.new wr _ _
  · rw [e1]; exact ⟨World.ownsRow_nil _ _ _ _, World.ownsRow_nil _ _ _ _, World.ownsRow_nil _ _ _ _⟩

set_option maxRecDepth 100000 in
set_option maxHeartbeats 1000000 in
theorem read_any (s : ByteArray) (w : World) (hs : s.size ≤ 200) :
    Calls Tryz.prog 43 #[.string s] w fun e w' => ReadRes s w e w' := by
  obtain ⟨i0, ki, kz0, kz1, kz2⟩ := info_parts Tryz.info162
  go_enter Tryz.func43, Tryz.ntmps43
  go_wp2
  go_loopw [5, 6] (fun v x wr => ReadRel s w v x wr) (fun _ x _ => s.size + 1 - (intOf x).toNat)
  case atStart =>
    go_light
    exact ⟨0, 11, 0, [], none, by omega, rfl, rfl, rfl, World.ownsRow_nil _ _ _ _, (fun x hx => by simp at hx), Below.refl _ _, rfl⟩
  case round =>
    obtain ⟨i, k, cap, l, a, hi, rfl, rfl, hk, hown, hlo, hbel, hgo⟩ := hrel
    have HG := hide hgo
    have HO := hide hown
    have HL := hide hlo
    clear hgo hown hlo
    go_upto_region 6 with fail
    go_cut [30] (fun b wc => b = .bool (Cu.isClass s.data.toList i) ∧ wc = wr.alloc (.cells #[.int .u8 0, .slice none 0 0, .int .u8 0, .slice none 0 0, .slice none 0 0, .int .i64 i] 162))
    case first =>
      have hb := byt_lt s.data.toList i
      have hb2 := byt_lt s.data.toList (i + 1)
      cases hc : Cu.isClass s.data.toList i with
      | true =>
        obtain ⟨h1, h2, h3⟩ := Cu.isClass_true hc
        rw [len_toList] at h1
        have h4 : ((Cu.byt s.data.toList (i + 1) : Int) == 61) = true := by rw [h3]; rfl
        have HC := hide hc
        clear hc h3
        have hi1 : i < s.size := by omega
        have hbe := byt_eq s i hi1
        have hbe2 := byt_eq s (i + 1) h1
        go_wp2_with (first | (go_at_call 70; refine (isName_nat _ _ hb).mono ?_; rintro e w' ⟨rfl, rfl⟩))
        go_meet
        case rel => exact ⟨by rw [unhide HC], rfl⟩
      | false =>
        have h1 := Cu.isClass_false hc
        rw [len_toList] at h1
        have h1' : ¬ i + 1 < s.size ∨ (i + 1 < s.size ∧ Cu.isName (Cu.byt s.data.toList i) = false) ∨ (i + 1 < s.size ∧ Cu.isName (Cu.byt s.data.toList i) = true ∧ ((Cu.byt s.data.toList (i + 1) : Int) == 61) = false) := by
          rcases h1 with h | h | ⟨h, h', h''⟩
          · left; exact h
          · right; left; exact h
          · right; right; refine ⟨h, h', ?_⟩; rw [beq_eq_false_iff_ne]; omega
        have HC := hide hc
        clear h1 hc
        rcases h1' with h1 | ⟨h1, h2⟩ | ⟨h1, h2, h3⟩
        all_goals try (have hi1 : i < s.size := by omega)
        all_goals try (have hbe := byt_eq s i hi1)
        all_goals try (have hbe2 := byt_eq s (i + 1) h1)
        all_goals
          go_wp2_with (first | (go_at_call 70; refine (isName_nat _ _ hb).mono ?_; rintro e w' ⟨rfl, rfl⟩))
          go_meet
          case rel => exact ⟨by rw [unhide HC], rfl⟩
    case rest =>
    obtain ⟨rfl, rfl⟩ := hcut
    go_upto_if 30 with fail
    go_cut [8, 9] (fun j ok wc => ReadMid s i wr j ok wc)
    case first =>
      have hB0 := Blk.new wr [.int .u8 0, .slice none 0 0, .int .u8 0, .slice none 0 0, .slice none 0 0, .int .i64 i] 162
      cases hc : Cu.isClass s.data.toList i with
      | true =>
        obtain ⟨h1, -, -⟩ := Cu.isClass_true hc
        rw [len_toList] at h1
        have HC := hide hc
        clear hc
        go_wp2_with fail
        refine (class_any s i _ hs (by omega)).mono ?_
        rintro e w1 ⟨aI, cI, b, p, lI, hcg, rfl, hoI, hb1⟩
        have hX := hB0.below hb1 (by simp)
        have hmid := hide (mid_class (unhide HC) hcg (((Below.refl _ _).alloc (Nat.le_refl _) _).trans (hb1.mono (by simp))) hX (by simpa using hoI))
        obtain ⟨x0, x1, x2, x3, x4, x5, x6⟩ := hX.six
        have hXlt := hX.lt
        clear hcg hoI
        go_wp2
        go_meet
        case rel => exact unhide hmid
      | false =>
        have hb := byt_lt s.data.toList i
        have HC := hide hc
        clear hc
        cases hm : Cu.more s.data.toList i with
        | true =>
          obtain ⟨h5, h6⟩ := Cu.more_true hm
          rw [len_toList] at h5
          have h7 : ((Cu.byt s.data.toList i : Int) != 59) = true := by rw [bne_iff_ne]; omega
          have HM := hide hm
          clear hm h6
          have hbe := byt_eq s i h5
          go_wp2_with fail
          refine (rule_any s i _ hs (by omega)).mono ?_
          rintro e w1 ⟨aL, aR, cL, cR, b, p, op, lL, lR, hcg, rfl, hoL, hoR, hb1⟩
          have hX := hB0.below hb1 (by simp)
          have hmid := hide (mid_rule (unhide HC) (unhide HM) hcg (((Below.refl _ _).alloc (Nat.le_refl _) _).trans (hb1.mono (by simp))) hX (by simpa using hoL) (by simpa using hoR))
          obtain ⟨x0, x1, x2, x3, x4, x5, x6⟩ := hX.six
          have hXlt := hX.lt
          clear hcg hoL hoR
          go_wp2
          go_meet
          case rel => exact unhide hmid
        | false =>
          have h5 := Cu.more_false hm
          rw [len_toList] at h5
          have hmid := hide (mid_empty (s := s) (wr := wr) (unhide HC) hm)
          clear hm
          have h5' : ¬ i < s.size ∨ (i < s.size ∧ ((Cu.byt s.data.toList i : Int) != 59) = false) := by
            rcases h5 with h | ⟨h, h'⟩
            · left; exact h
            · right; refine ⟨h, ?_⟩; rw [h']; rfl
          clear h5
          rcases h5' with h5 | ⟨h5, h6⟩
          all_goals try (have hbe := byt_eq s i h5)
          all_goals
            go_wp2
            go_meet
            case rel => exact unhide hmid
    case rest =>
      obtain ⟨r, rfl, rfl, hX, hLn, hb1⟩ := hcut
      have hle := Cu.lineAt_le s.data.toList i (by rw [len_toList]; exact hi)
      rw [len_toList] at hle
      have HB := hide (Cu.readGo_bad (s := s.data.toList) (k := k) (i := i) (l := l.map Prod.fst))
      have HE := hide (Cu.readGo_end (s := s.data.toList) (k := k) (i := i) (l := l.map Prod.fst))
      have HS := hide (Cu.readGo_stop (s := s.data.toList) (k := k) (i := i) (l := l.map Prod.fst))
      have HN := hide (Cu.readGo_go (s := s.data.toList) (k := k) (i := i) (l := l.map Prod.fst))
      rw [len_toList] at HE HS HN
      generalize Cu.lineAt s.data.toList i = la at *
      obtain ⟨b, p, x⟩ := la
      simp only at hle HB HE HS HN hX hLn
      refine Hid.out ?_
      simp only
      refine hide ?_
      have HLn := hide hLn
      clear hLn
      cases b with
      | false =>
        have hr : Hid (ReadRes s w (.returned (.tuple #[.slice none 0 0, .int .i64 p, .bool false])) wc) := hide (Or.inl ⟨p, by rw [← unhide HG, (unhide HB) rfl], rfl, hbel.trans (hb1.mono hbel.size)⟩)
        go_wp2
        go_ret3
        exact unhide hr
      | true =>
        obtain ⟨x0, x1, x2, x3, x4, x5, x6⟩ := Blk.six (by exact hX)
        have hXlt := hX.lt
        have hcap : (l.length + 1) * 96 ≤ 140737488355328 := by omega
        have hmax : l.length + 1 ≤ maxLen := by unfold maxLen; omega
        have hO1 := hide (own_below (unhide HO) hb1)
        have hwr := hbel.size
        go_wp2_with (at_builtin; refine wpList_append_own _ rfl (.tmp 58) (.tmp 60) 84 rfl w.heap.size 162 i0 (.agg #[.int .u8 0, .slice none 0 0, .int .u8 0, .slice none 0 0, .slice none 0 0, .int .i64 0]) 6 96 Tryz.underlying84 ki kz0 kz1 kz2 rfl (by decide) (.slice a l.length cap) l.length (linesCells l) rfl ((unhide hO1).alloc _) ⟨wc.heap.size, 0, none⟩ 1 1 (lnCells x r) rfl rfl (news_new _ _ rfl _ _) (one6 _ _) hmax hcap (by simp; omega) ?_; intro v' w2 hown' hgrow _; refine Hid.out ?_)
        refine hide ?_
        obtain ⟨a', cap', hv'⟩ := own_form hown'
        subst hv'
        obtain ⟨g1, g2, g3⟩ := read_grow hbel hb1 ((Below.refl _ _).alloc (Nat.le_refl _) _) (unhide HO) (unhide HL) (unhide HLn) hown' hgrow
        have hlen : (l ++ [(x, r)]).length = l.length + 1 := by simp
        have hmap : (l ++ [(x, r)]).map Prod.fst = l.map Prod.fst ++ [x] := by simp
        have G1 := hide g1
        have G2 := hide g2
        have HLEN := hide hlen
        have HMAP := hide hmap
        clear hown' hgrow g1 g2 hlen hmap x0 x1 x2 x3 x4 x5 x6 hX
        by_cases hpe : p = s.size
        · have hr : Hid (ReadRes s w (.returned (.tuple #[.slice a' (l.length + 1) cap', .int .i64 p, .bool true])) w2) := hide (Or.inr ⟨p, cap', l ++ [(x, r)], a', by rw [← unhide HG, (unhide HE) trivial hpe, unhide HMAP], by rw [unhide HLEN], unhide G1, unhide G2, g3⟩)
          have h1 : ((p : Int) == (s.size : Int)) = true := by rw [hpe]; simp
          clear hpe
          go_wp2
          go_ret3
          exact unhide hr
        · have h1 : ((p : Int) == (s.size : Int)) = false := by rw [beq_eq_false_iff_ne]; omega
          have h2 : p < s.size := by omega
          have hbe := byt_eq s p h2
          have hb := byt_lt s.data.toList p
          by_cases h59 : Cu.byt s.data.toList p = 59
          · have h3 : ((Cu.byt s.data.toList p : Int) != 59) = false := by rw [h59]; rfl
            by_cases hk0 : k = 0
            · have hr : Hid (ReadRes s w (.returned (.tuple #[.slice none 0 0, .int .i64 p, .bool false])) w2) := hide (Or.inl ⟨p, by rw [← unhide HG, (unhide HS) trivial hpe (Or.inr hk0)], rfl, g3⟩)
              have h4 : 12 ≤ l.length + 1 := by omega
              clear hpe h59 hk0
              go_wp2
              go_ret3
              exact unhide hr
            · obtain ⟨m, rfl⟩ : ∃ m, k = m + 1 := ⟨k - 1, by omega⟩
              have hr : Hid (ReadRel s w (.slice a' (l.length + 1) cap') (.int .i64 ((p : Int) + 1)) w2) := hide ⟨p + 1, m, cap', l ++ [(x, r)], a', by omega, by go_num, by rw [unhide HLEN], by rw [unhide HLEN]; omega, unhide G1, unhide G2, g3, by rw [unhide HMAP, ← unhide HG, (unhide HN) trivial hpe (by rw [h59]; omega)]⟩
              have h4 : ¬ 12 ≤ l.length + 1 := by omega
              clear hpe h59 hk0
              go_wp2
              go_roundw
              case rel => first | exact unhide hr | ((repeat apply Exists.intro); exact ⟨unhide hr, rfl⟩)
              case measure => simp [intOf]; omega
          · have h3 : ((Cu.byt s.data.toList p : Int) != 59) = true := by rw [bne_iff_ne]; omega
            have hr : Hid (ReadRes s w (.returned (.tuple #[.slice none 0 0, .int .i64 p, .bool false])) w2) := hide (Or.inl ⟨p, by rw [← unhide HG, (unhide HS) trivial hpe (Or.inl h59)], rfl, g3⟩)
            clear hpe h59
            go_wp2
            go_ret3
            exact unhide hr
end Go.Proofs.YtbppbejigedioabGreatDoor
/- Walks: the reference's named, unnamed, meet, twice. -/
namespace Go.Proofs.YtbppbejigedioabGreatDoor
open Go.RowKit

theorem linesCells_get (L : List (Cu.Ln × Refs)) (i j : Nat) (hi : i < L.length) (hj : j < 6) : (linesCells L)[i * 6 + j]? = (lnCells L[i].1 L[i].2)[j]? := by
  induction L generalizing i with
  | nil => simp at hi
  | cons y L ih =>
    have hl : (lnCells y.1 y.2).length = 6 := rfl
    cases i with
    | zero => simp only [linesCells, Nat.zero_mul, Nat.zero_add]; rw [List.getElem?_append_left (by omega)]; rfl
    | succ i =>
      simp only [linesCells]
      rw [List.getElem?_append_right (by omega), hl, show (i + 1) * 6 + j - 6 = i * 6 + j by omega, ih i (by simpa using hi)]
      rfl
/-- The cells of line i. -/
theorem line_cells {w : World} {base cap : Nat} {L : List (Cu.Ln × Refs)} {a : Option Addr} (ho : w.ownsRow base 162 6 (.slice a L.length cap) L.length (linesCells L)) (i : Nat) (hi : i < L.length) :
    ∃ g x r, a = some ⟨g, 0, none⟩ ∧ L[i]? = some (x, r) ∧ (L.map Prod.fst)[i]? = some x ∧ (x, r) ∈ L ∧
      w.cell? ⟨g, i * 6, none⟩ = some (.int .u8 x.name) ∧ w.cell? ⟨g, i * 6 + 1, none⟩ = some (.slice r.aI x.items.length r.cI) ∧ w.cell? ⟨g, i * 6 + 2, none⟩ = some (.int .u8 x.op) ∧
      w.cell? ⟨g, i * 6 + 3, none⟩ = some (.slice r.aL x.left.length r.cL) ∧ w.cell? ⟨g, i * 6 + 4, none⟩ = some (.slice r.aR x.right.length r.cR) ∧ w.cell? ⟨g, i * 6 + 5, none⟩ = some (.int .i64 x.at_) := by
  rcases ho.2 with ⟨_, h2⟩ | ⟨g, cap', cur, hv, _, _, h3, h4, _⟩
  · omega
  · simp only [Value.slice.injEq, true_and] at hv
    obtain ⟨rfl, rfl⟩ := hv
    have hc : ∀ j, j < 6 → w.cell? ⟨g, i * 6 + j, none⟩ = (lnCells L[i].1 L[i].2)[j]? := fun j hj => by
      rw [ho.cellAt (i * 6 + j) (by omega), linesCells_get L i j hi hj]
    exact ⟨g, L[i].1, L[i].2, rfl, by simp [hi], by simp [hi], List.getElem_mem _, hc 0 (by omega), hc 1 (by omega), hc 2 (by omega), hc 3 (by omega), hc 4 (by omega), hc 5 (by omega)⟩

set_option maxRecDepth 100000 in
set_option maxHeartbeats 400000 in
theorem named_any (L : List (Cu.Ln × Refs)) (a : Option Addr) (cap base : Nat) (n : Int) (c : Nat) (w : World) (ho : w.ownsRow base 162 6 (.slice a L.length cap) L.length (linesCells L)) (hn0 : 0 ≤ n) (hn : n ≤ L.length) (hL : L.length ≤ 12) :
    Calls Tryz.prog 92 #[.slice a L.length cap, .int .i64 n, .int .u8 c] w fun e w' => e = .returned (.bool (Cu.named (L.map Prod.fst) n.toNat c)) ∧ w = w' := by
  obtain ⟨n, rfl⟩ := Int.eq_ofNat_of_zero_le hn0
  rw [Int.toNat_natCast]
  go_enter Tryz.func92, Tryz.ntmps92
  go_wp2
  go_loop [7] (fun x => ∃ k : Nat, k ≤ n ∧ x = .int .i64 k ∧ Cu.named (L.map Prod.fst) k c = false) (fun x => 13 - (intOf x).toNat)
  case atStart => exact ⟨0, by omega, rfl, rfl⟩
  case round =>
    obtain ⟨k, hk, rfl, hno⟩ := hrel
    have HN := hide hno
    clear hno
    by_cases hlt : k < n
    · obtain ⟨g, x, r, rfl, h1, h2, h3, c0, -⟩ := line_cells ho k (by omega)
      have HS := hide (Cu.named_succ (c := c) h2)
      have HT := hide (Cu.named_true (c := c) (n := n) h2 hlt)
      clear ho h1 h2 h3
      cases hx : (x.name == c) with
      | true =>
        have hx2 : ((x.name : Int) == (c : Int)) = true := by rw [beq_iff_eq] at hx ⊢; omega
        have HX := hide hx
        clear hx
        go_wp2
        go_ret
        exact ⟨ret_bool ((unhide HT) (unhide HX)).symm, rfl⟩
      | false =>
        have hx2 : ((x.name : Int) == (c : Int)) = false := by rw [beq_eq_false_iff_ne] at hx ⊢; omega
        have HX := hide hx
        clear hx
        go_wp2
        go_round
        case rel => exact ⟨k + 1, by omega, by go_num, by rw [unhide HS, unhide HN, unhide HX]; rfl⟩
        case measure => simp [intOf]; omega
    · go_wp2
      go_ret
      exact ⟨ret_bool (by rw [show n = k by omega, unhide HN]), rfl⟩

theorem atomCells_length (l : List Cu.Atom) : (atomCells l).length = l.length * 3 := by
  induction l with
  | nil => rfl
  | cons y l ih => simp [atomCells, ih]; omega
theorem atomCells_get (l : List Cu.Atom) (i j : Nat) (hi : i < l.length) (hj : j < 3) : (atomCells l)[i * 3 + j]? = ([.int .u8 l[i].1, .int .u8 l[i].2.1, .int .i64 l[i].2.2] : List Value)[j]? := by
  induction l generalizing i with
  | nil => simp at hi
  | cons y l ih =>
    cases i with
    | zero => simp only [atomCells, Nat.zero_mul, Nat.zero_add]; rw [List.getElem?_append_left (by simpa using hj)]; rfl
    | succ i =>
      simp only [atomCells]
      rw [List.getElem?_append_right (by simp; omega), show (i + 1) * 3 + j - ([.int .u8 y.1, .int .u8 y.2.1, .int .i64 y.2.2] : List Value).length = i * 3 + j by simp; omega, ih i (by simpa using hi)]
      rfl
theorem atom_cells {w : World} {base cap : Nat} {l : List Cu.Atom} {a : Option Addr} (ho : w.ownsRow base 229 3 (.slice a l.length cap) l.length (atomCells l)) (i : Nat) (hi : i < l.length) :
    ∃ g x, a = some ⟨g, 0, none⟩ ∧ l[i]? = some x ∧ w.cell? ⟨g, i * 3, none⟩ = some (.int .u8 x.1) ∧ w.cell? ⟨g, i * 3 + 1, none⟩ = some (.int .u8 x.2.1) ∧ w.cell? ⟨g, i * 3 + 2, none⟩ = some (.int .i64 x.2.2) := by
  rcases ho.2 with ⟨_, h2⟩ | ⟨g, cap', cur, hv, _, _, h3, h4, _⟩
  · omega
  · simp only [Value.slice.injEq, true_and] at hv
    obtain ⟨rfl, rfl⟩ := hv
    have hc : ∀ j, j < 3 → w.cell? ⟨g, i * 3 + j, none⟩ = ([.int .u8 l[i].1, .int .u8 l[i].2.1, .int .i64 l[i].2.2] : List Value)[j]? := fun j hj => by
      rw [ho.cellAt (i * 3 + j) (by omega), atomCells_get l i j hi hj]
    exact ⟨g, l[i], rfl, by simp [hi], hc 0 (by omega), hc 1 (by omega), hc 2 (by omega)⟩
theorem itemCells_get (l : List Cu.Item) (i j : Nat) (hi : i < l.length) (hj : j < 3) : (itemCells l)[i * 3 + j]? = ([.int .i64 l[i].1, .int .i64 l[i].2.1, .int .i64 l[i].2.2] : List Value)[j]? := by
  induction l generalizing i with
  | nil => simp at hi
  | cons y l ih =>
    cases i with
    | zero => simp only [itemCells, Nat.zero_mul, Nat.zero_add]; rw [List.getElem?_append_left (by simpa using hj)]; rfl
    | succ i =>
      simp only [itemCells]
      rw [List.getElem?_append_right (by simp; omega), show (i + 1) * 3 + j - ([.int .i64 y.1, .int .i64 y.2.1, .int .i64 y.2.2] : List Value).length = i * 3 + j by simp; omega, ih i (by simpa using hi)]
      rfl
theorem item_cells {w : World} {base cap : Nat} {l : List Cu.Item} {a : Option Addr} (ho : w.ownsRow base 207 3 (.slice a l.length cap) l.length (itemCells l)) (i : Nat) (hi : i < l.length) :
    ∃ g x, a = some ⟨g, 0, none⟩ ∧ l[i]? = some x ∧ w.cell? ⟨g, i * 3, none⟩ = some (.int .i64 x.1) ∧ w.cell? ⟨g, i * 3 + 1, none⟩ = some (.int .i64 x.2.1) ∧ w.cell? ⟨g, i * 3 + 2, none⟩ = some (.int .i64 x.2.2) := by
  rcases ho.2 with ⟨_, h2⟩ | ⟨g, cap', cur, hv, _, _, h3, h4, _⟩
  · omega
  · simp only [Value.slice.injEq, true_and] at hv
    obtain ⟨rfl, rfl⟩ := hv
    have hc : ∀ j, j < 3 → w.cell? ⟨g, i * 3 + j, none⟩ = ([.int .i64 l[i].1, .int .i64 l[i].2.1, .int .i64 l[i].2.2] : List Value)[j]? := fun j hj => by
      rw [ho.cellAt (i * 3 + j) (by omega), itemCells_get l i j hi hj]
    exact ⟨g, l[i], rfl, by simp [hi], hc 0 (by omega), hc 1 (by omega), hc 2 (by omega)⟩

/-- The place that unnamed hands back. -/
def placeOf (o : Option Nat) : Int := match o with
  | some p => (p : Int)
  | none => -1

set_option maxRecDepth 100000 in
set_option maxHeartbeats 400000 in
theorem unnamed_any (L : List (Cu.Ln × Refs)) (a : Option Addr) (cap base : Nat) (n : Int) (l : List Cu.Atom) (al : Option Addr) (capl basel : Nat) (w : World) (ho : w.ownsRow base 162 6 (.slice a L.length cap) L.length (linesCells L)) (hn0 : 0 ≤ n) (hn : n ≤ L.length) (hL : L.length ≤ 12)
    (hl : w.ownsRow basel 229 3 (.slice al l.length capl) l.length (atomCells l)) (hll : l.length ≤ 4) (hby : ∀ y ∈ l, y.1 < 256) :
    Calls Tryz.prog 94 #[.slice a L.length cap, .int .i64 n, .slice al l.length capl] w fun e w' => e = .returned (.int .i64 (placeOf (Cu.unnamed (L.map Prod.fst) n.toNat l))) ∧ w = w' := by
  obtain ⟨n, rfl⟩ := Int.eq_ofNat_of_zero_le hn0
  rw [Int.toNat_natCast]
  have HO := hide ho
  clear ho
  go_enter Tryz.func94, Tryz.ntmps94
  go_wp2
  go_loop [7] (fun x => ∃ k : Nat, k ≤ l.length ∧ x = .int .i64 k ∧ (l.take k).find? (fun x => Cu.isName x.1 && !Cu.named (L.map Prod.fst) n x.1) = none) (fun x => 5 - (intOf x).toNat)
  case atStart => exact ⟨0, by omega, rfl, rfl⟩
  case round =>
    obtain ⟨k, hk, rfl, hno⟩ := hrel
    have HN := hide hno
    clear hno
    by_cases hlt : k < l.length
    · obtain ⟨g, x, rfl, h1, c0, c1, c2⟩ := atom_cells hl k hlt
      have hxb : x.1 < 256 := hby x (List.mem_of_getElem? h1)
      have HS := hide (Cu.find_none_succ h1 (unhide HN))
      have HF := hide (Cu.find_some_at h1 (unhide HN))
      clear hl h1 hby
      cases hx : Cu.isName x.1 with
      | false =>
        have hs := hide ((unhide HS) (by rw [hx]; rfl))
        go_wp2_with (first | (go_at_call 70; refine (isName_nat _ _ hxb).mono ?_; rintro e w' ⟨rfl, rfl⟩))
        go_round
        case rel => exact ⟨k + 1, by omega, by go_num, unhide hs⟩
        case measure => simp [intOf]; omega
      | true =>
        cases hx2 : Cu.named (L.map Prod.fst) n x.1 with
        | true =>
          have hs := hide ((unhide HS) (by rw [hx, hx2]; rfl))
          have HX2 := hide hx2
          clear hx2
          go_wp2_with (first | (go_at_call 70; refine (isName_nat _ _ hxb).mono ?_; rintro e w' ⟨rfl, rfl⟩) | (go_at_call 92; refine (named_any L a cap base _ _ _ (unhide HO) (by omega) (by omega) hL).mono ?_; rintro e w' ⟨rfl, rfl⟩; rw [Int.toNat_natCast, unhide HX2]))
          go_round
          case rel => exact ⟨k + 1, by omega, by go_num, unhide hs⟩
          case measure => simp [intOf]; omega
        | false =>
          have hs := hide ((unhide HF) (by rw [hx, hx2]; rfl))
          have HX2 := hide hx2
          clear hx2
          go_wp2_with (first | (go_at_call 70; refine (isName_nat _ _ hxb).mono ?_; rintro e w' ⟨rfl, rfl⟩) | (go_at_call 92; refine (named_any L a cap base _ _ _ (unhide HO) (by omega) (by omega) hL).mono ?_; rintro e w' ⟨rfl, rfl⟩; rw [Int.toNat_natCast, unhide HX2]))
          go_ret
          exact ⟨ret_int (by unfold Cu.unnamed; rw [unhide hs]; rfl), rfl⟩
    · go_wp2
      go_ret
      exact ⟨ret_int (by have h := unhide HN; rw [List.take_of_length_le (by omega)] at h; unfold Cu.unnamed; rw [h]; rfl), rfl⟩
end Go.Proofs.YtbppbejigedioabGreatDoor
