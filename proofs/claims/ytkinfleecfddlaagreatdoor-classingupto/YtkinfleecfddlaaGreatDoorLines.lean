/- The reference's lines in memory. -/
import Derived.Test.YtkinfleecfddlaaGreatDoorBlocks
import Derived.Test.YtkinfleecfddlaaGreatDoorPlainA
import Derived.Test.YtkinfleecfddlaaGreatDoorWalkD
import Derived.Test.YtkinfleecfddlaaGreatDoorWalkE
namespace Go.Proofs.YtkinfleecfddlaaGreatDoor
open Go.RowKit

/-- Where a line's three slices lie. -/
structure Refs where
  aI : Option Addr
  aL : Option Addr
  aR : Option Addr
  cI : Nat
  cL : Nat
  cR : Nat

def lnCells (x : Cu.Ln) (r : Refs) : List Value :=
  [.int .u8 x.name, .slice r.aI x.items.length r.cI, .int .u8 x.op, .slice r.aL x.left.length r.cL, .slice r.aR x.right.length r.cR, .int .i64 x.at_]
def linesCells : List (Cu.Ln × Refs) → List Value
  | [] => []
  | x :: r => lnCells x.1 x.2 ++ linesCells r
theorem linesCells_snoc (l : List (Cu.Ln × Refs)) (x : Cu.Ln × Refs) : linesCells (l ++ [x]) = linesCells l ++ lnCells x.1 x.2 := by
  induction l with
  | nil => simp [linesCells]
  | cons y l ih => simp [linesCells, ih]
theorem linesCells_length (l : List (Cu.Ln × Refs)) : (linesCells l).length = l.length * 6 := by
  induction l with
  | nil => rfl
  | cons y l ih => simp [linesCells, ih, lnCells]; omega

def LnOwn (w : World) (base : Nat) (x : Cu.Ln) (r : Refs) : Prop :=
  w.ownsRow base 100 3 (.slice r.aI x.items.length r.cI) x.items.length (itemCells x.items) ∧
  w.ownsRow base 163 3 (.slice r.aL x.left.length r.cL) x.left.length (atomCells x.left) ∧
  w.ownsRow base 163 3 (.slice r.aR x.right.length r.cR) x.right.length (atomCells x.right)
def LinesOwn (w : World) (base : Nat) (l : List (Cu.Ln × Refs)) : Prop := ∀ x ∈ l, LnOwn w base x.1 x.2

/-- Rows of two element types are two blocks. -/
theorem own_ne_type {w : World} {b1 b2 : Nat} {e1 e2 : TypeId} {s1 s2 n1 n2 : Nat} {v1 v2 : Value} {x1 x2 : List Value} (h1 : w.ownsRow b1 e1 s1 v1 n1 x1) (h2 : w.ownsRow b2 e2 s2 v2 n2 x2) (hne : e1 ≠ e2) : v1.ownBlock = none ∨ v1.ownBlock ≠ v2.ownBlock := by
  rcases h1.2 with ⟨rfl, _⟩ | ⟨g, cap, cur, rfl, _, hg, _⟩
  · left; rfl
  · right
    intro he
    rcases h2.2 with ⟨rfl, _⟩ | ⟨g2, cap2, cur2, rfl, _, hg2, _⟩
    · simp [Value.ownBlock] at he
    · simp [Value.ownBlock] at he
      subst he
      rw [hg] at hg2
      simp at hg2
      exact hne hg2.2
theorem own_grown {w W w2 : World} {b1 b2 : Nat} {e1 e2 : TypeId} {s1 s2 n1 n2 : Nat} {v1 v2 : Value} {x1 x2 : List Value} (h1 : w.ownsRow b1 e1 s1 v1 n1 x1) (h2 : w.ownsRow b2 e2 s2 v2 n2 x2) (hne : e1 ≠ e2) (hW : Below w.heap.size w W) (hg : W.grownBy w2 v2.ownBlock) : w2.ownsRow b1 e1 s1 v1 n1 x1 :=
  (own_below h1 hW).kept hg (own_ne_type h1 h2 hne)
theorem LnOwn.below {w w' : World} {base : Nat} {x : Cu.Ln} {r : Refs} (h : LnOwn w base x r) (hb : Below w.heap.size w w') : LnOwn w' base x r :=
  ⟨own_below h.1 hb, own_below h.2.1 hb, own_below h.2.2 hb⟩
theorem LnOwn.base {w : World} {base base' : Nat} {x : Cu.Ln} {r : Refs} (h : LnOwn w base x r) (hb : base' ≤ base) : LnOwn w base' x r :=
  ⟨own_base h.1 hb, own_base h.2.1 hb, own_base h.2.2 hb⟩
theorem LnOwn.grown {w W w2 : World} {base b2 : Nat} {x : Cu.Ln} {r : Refs} {s2 n2 : Nat} {v2 : Value} {x2 : List Value} (h : LnOwn w base x r) (h2 : w.ownsRow b2 93 s2 v2 n2 x2) (hW : Below w.heap.size w W) (hg : W.grownBy w2 v2.ownBlock) : LnOwn w2 base x r :=
  ⟨own_grown h.1 h2 (by decide) hW hg, own_grown h.2.1 h2 (by decide) hW hg, own_grown h.2.2 h2 (by decide) hW hg⟩
theorem LinesOwn.below {w w' : World} {base : Nat} {l : List (Cu.Ln × Refs)} (h : LinesOwn w base l) (hb : Below w.heap.size w w') : LinesOwn w' base l := fun x hx => (h x hx).below hb
theorem LinesOwn.grown {w W w2 : World} {base b2 : Nat} {l : List (Cu.Ln × Refs)} {s2 n2 : Nat} {v2 : Value} {x2 : List Value} (h : LinesOwn w base l) (h2 : w.ownsRow b2 93 s2 v2 n2 x2) (hW : Below w.heap.size w W) (hg : W.grownBy w2 v2.ownBlock) : LinesOwn w2 base l :=
  fun x hx => (h x hx).grown h2 hW hg
theorem LinesOwn.snoc {w : World} {base : Nat} {l : List (Cu.Ln × Refs)} {x : Cu.Ln × Refs} (h : LinesOwn w base l) (hx : LnOwn w base x.1 x.2) : LinesOwn w base (l ++ [x]) := by
  intro y hy
  rcases List.mem_append.1 hy with h1 | h1
  · exact h y h1
  · simp at h1; subst h1; exact hx

end Go.Proofs.YtkinfleecfddlaaGreatDoor
