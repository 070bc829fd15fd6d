/- append of a row, as one step of a region that draws; the book's block. -/
import Derived.Test.YtkinfleecfddlaaGreatDoorWalkZ
import Derived.Laws.AppendOwnNone
import Derived.Test.YtkinfleecfddlaaGreatDoorWalkT
namespace Go.Proofs.YtkinfleecfddlaaGreatDoor
open Go.RowKit

/-- append of a row, nil or owned, to a row of the call's own, as one step of a region that draws its order. -/
theorem step_append_row {P : Program} {ops : Array Oper} {o : Oper} {a : Act} {w : World} {K : Act → World → Prop} {Q : Exit → Act → World → Prop} {E : Prop}
    (hg : o.guard = none) (s x : Operand) (t : TypeId) (hop : o.op = Op.call { callee := Callee.builtin Builtin.append, args := #[s, x], argTypes := #[t, t] })
    (base : Nat) (e : TypeId) (i : TypeInfo) (z : Value) (size bytes : Nat) (h1 : P.underlying t = some (.slice e)) (h2 : P.info? e = some i) (h3 : i.zero = some z) (h4 : i.size = size) (h5 : i.bytes = bytes) (h6 : z.cells.size = size) (h7 : 0 < size)
    (v : Value) (n : Nat) (xs : List Value) (hs : a.eval s = v) (hown : w.ownsRow base e size v n xs)
    (bx : Nat) (ax : Option Addr) (m c : Nat) (news : List Value) (hx : a.eval x = .slice ax m c) (hxo : w.ownsRow bx e size (.slice ax m c) m news) (h1c : ∀ u ∈ news, u.oneCell' = true)
    (b1 : n + m ≤ maxLen) (b2 : (n + m) * bytes ≤ 140737488355328) (hbase : base ≤ w.heap.size)
    (hK : ∀ v' w', w'.ownsRow base e size v' (n + m) (xs ++ news) → w.grownBy w' v.ownBlock → K (a.put o.dst v') w') :
    if Region.wanted o (yielded ops a.tmps) = true then Oper.wp P o a w K Q else E := by
  rcases hxo.2 with ⟨hv, hm⟩ | ⟨g, cap', cur, hv, _⟩
  · have hlen := hxo.1
    subst hm
    have hnews : news = [] := List.eq_nil_of_length_eq_zero (by simpa using hlen)
    subst hnews
    have hw : Region.wanted o (yielded ops a.tmps) = true := by simp [Region.wanted, hg]
    rw [if_pos hw]
    have hrun := run_append_owned_none (P := P) (w := w) base t o.type e i size h1 h2 v n xs hown
    unfold Oper.wp
    simp [execOp, hop, resolve, invoke, builtin, hs, hx, hv, hrun, Result.andThen]
    exact hK v w (by simpa using hown) (grown_of_below (Below.refl _ _) _)
  · simp only [Value.slice.injEq, true_and] at hv
    obtain ⟨rfl, rfl⟩ := hv
    exact step_append_own hg s x t hop base e i z size bytes h1 h2 h3 h4 h5 h6 h7 v n xs hs hown ⟨g, 0, none⟩ m c news hx hxo.1 (own_news hxo) h1c b1 b2 hbase hK

/-- The book's cells: which classes are named, the items, the rules. -/
def bookCells (nm : Nat → Bool) (vi vr : Value) : List Value :=
  [.bool (nm 0), .bool (nm 1), .bool (nm 2), .bool (nm 3), .bool (nm 4), .bool (nm 5), .bool (nm 6), .bool (nm 7), .bool (nm 8), .bool (nm 9), .bool (nm 10), .bool (nm 11), .bool (nm 12),
   .bool (nm 13), .bool (nm 14), .bool (nm 15), .bool (nm 16), .bool (nm 17), .bool (nm 18), .bool (nm 19), .bool (nm 20), .bool (nm 21), .bool (nm 22), .bool (nm 23), .bool (nm 24), .bool (nm 25), vi, vr]
theorem bookCells_get (nm : Nat → Bool) (vi vr : Value) (k : Nat) (h : k < 26) : (bookCells nm vi vr)[k]? = some (.bool (nm k)) := by
  have e : k = 0 ∨ k = 1 ∨ k = 2 ∨ k = 3 ∨ k = 4 ∨ k = 5 ∨ k = 6 ∨ k = 7 ∨ k = 8 ∨ k = 9 ∨ k = 10 ∨ k = 11 ∨ k = 12 ∨ k = 13 ∨ k = 14 ∨ k = 15 ∨ k = 16 ∨ k = 17 ∨ k = 18 ∨ k = 19 ∨ k = 20 ∨ k = 21 ∨ k = 22 ∨ k = 23 ∨ k = 24 ∨ k = 25 := by omega
  rcases e with rfl | rfl | rfl | rfl | rfl | rfl | rfl | rfl | rfl | rfl | rfl | rfl | rfl | rfl | rfl | rfl | rfl | rfl | rfl | rfl | rfl | rfl | rfl | rfl | rfl | rfl <;> rfl
def nameIt (nm : Nat → Bool) (k : Nat) : Nat → Bool := fun j => if j = k then true else nm j
theorem bookCells_name (nm : Nat → Bool) (vi vr : Value) (k : Nat) (h : k < 26) : (bookCells nm vi vr).set k (.bool true) = bookCells (nameIt nm k) vi vr := by
  have e : k = 0 ∨ k = 1 ∨ k = 2 ∨ k = 3 ∨ k = 4 ∨ k = 5 ∨ k = 6 ∨ k = 7 ∨ k = 8 ∨ k = 9 ∨ k = 10 ∨ k = 11 ∨ k = 12 ∨ k = 13 ∨ k = 14 ∨ k = 15 ∨ k = 16 ∨ k = 17 ∨ k = 18 ∨ k = 19 ∨ k = 20 ∨ k = 21 ∨ k = 22 ∨ k = 23 ∨ k = 24 ∨ k = 25 := by omega
  rcases e with rfl | rfl | rfl | rfl | rfl | rfl | rfl | rfl | rfl | rfl | rfl | rfl | rfl | rfl | rfl | rfl | rfl | rfl | rfl | rfl | rfl | rfl | rfl | rfl | rfl | rfl <;> rfl

/-- An item of a class: the class, the item. -/
abbrev KItem := Int × Cu.Item
def kitemCells : List KItem → List Value
  | [] => []
  | x :: r => [.int .i32 x.2.1, .int .i32 x.2.2.1, .int .i64 x.1, .int .i64 x.2.2.2] ++ kitemCells r
theorem kitemCells_snoc (l : List KItem) (x : KItem) : kitemCells (l ++ [x]) = kitemCells l ++ [.int .i32 x.2.1, .int .i32 x.2.2.1, .int .i64 x.1, .int .i64 x.2.2.2] := by
  induction l with
  | nil => rfl
  | cons y l ih => simp [kitemCells, ih]
/-- A rule, as the program holds it. -/
def ruleCells : List PLn → List Value
  | [] => []
  | x :: r => [leftV x.1.left, .bool (x.1.op == 124), .slice x.2.1 x.1.right.length x.2.2] ++ ruleCells r
theorem ruleCells_snoc (l : List PLn) (x : PLn) : ruleCells (l ++ [x]) = ruleCells l ++ [leftV x.1.left, .bool (x.1.op == 124), .slice x.2.1 x.1.right.length x.2.2] := by
  induction l with
  | nil => rfl
  | cons y l ih => simp [ruleCells, ih]
theorem Tryz.info123 : (Tryz.prog.info? 123).map (fun i => (i.zero, i.size, i.bytes)) = some (some (.agg #[.nilIface, .bool false, .slice none 0 0]), 3, 48) := by kernel_rfl

/-- The book lies in block B: which classes are named, its items, its rules. -/
def BookAt (w : World) (B : Nat) (nm : Nat → Bool) (its : List KItem) (rs : List PLn) : Prop :=
  ∃ (ai ar : Option Addr) (ci cr : Nat), Blk w B (bookCells nm (.slice ai its.length ci) (.slice ar rs.length cr)) 72 ∧
    w.ownsRow B 85 4 (.slice ai its.length ci) its.length (kitemCells its) ∧ w.ownsRow B 123 3 (.slice ar rs.length cr) rs.length (ruleCells rs)
theorem BookAt.below {w w' : World} {B : Nat} {nm : Nat → Bool} {its : List KItem} {rs : List PLn} (h : BookAt w B nm its rs) (hb : Below w.heap.size w w') : BookAt w' B nm its rs := by
  obtain ⟨ai, ar, ci, cr, h1, h2, h3⟩ := h
  exact ⟨ai, ar, ci, cr, h1.below hb h1.lt, own_below h2 hb, own_below h3 hb⟩
theorem BookAt.lt {w : World} {B : Nat} {nm : Nat → Bool} {its : List KItem} {rs : List PLn} (h : BookAt w B nm its rs) : B < w.heap.size := by
  obtain ⟨ai, ar, ci, cr, h1, h2, h3⟩ := h
  exact h1.lt
end Go.Proofs.YtkinfleecfddlaaGreatDoor
