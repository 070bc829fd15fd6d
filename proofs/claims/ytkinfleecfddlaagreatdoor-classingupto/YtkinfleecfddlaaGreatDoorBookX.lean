/- append of a row, as one step of a region that draws; the book's block. -/
import Derived.Test.YtkinfleecfddlaaGreatDoorRdB
import Derived.Laws.AppendOwnNone
import Derived.Test.YtkinfleecfddlaaGreatDoorRdE
namespace Go.Proofs.YtkinfleecfddlaaGreatDoor
open Go.RowKit

/-- append of a row, nil or owned, to a row of the call's own, as one step of a region that draws its order. -/
theorem step_append_row {P : Program} {ops : Array Oper} {o : Oper} {a : Act} {w : World} {K : Act → World → Prop} {Q : Exit → Act → World → Prop} {E : Prop}
    (hg : o.guard = none) (s x : Operand) (t : TypeId) (hop : o.op = Op.call { callee := Callee.builtin Builtin.append, args := #[s, x], argTypes := #[t, t] })
    (base : Nat) (e : TypeId) (i : TypeInfo) (z : Value) (size bytes : Nat) (h1 : P.underlying t = some (.slice e)) (h2 : P.info? e = some i) (h3 : i.zero = some z) (h4 : i.size = size) (h5 : i.bytes = bytes) (h6 : z.cells.size = size) (h7 : 0 < size)
    (v : Value) (n : Nat) (xs : List Value) (hs : a.eval s = v) (hown : w.ownsRow base e size v n xs)
    (bx : Nat) (ax : Option Addr) (m c : Nat) (news : List Value) (hx : a.eval x = .slice ax m c) (hxo : w.ownsRow bx e size (.slice ax m c) m news) (h1c : ∀ u ∈ news, u.oneCell' = true)
    (b1 : n + m ≤ maxLen) (b2 : (n + m) * bytes ≤ 140737488355328) (hbase : base ≤ w.heap.size)
    (hK : ∀ v' w', w'.ownsRow base e size v' (n + m) (xs ++ news) → w.grownBy w' v.ownBlock → K (a.put o.dst v') w') :
    if Region.wanted o (yielded ops a.tmps) = true then Oper.wp P o a w K Q else E := by
  rcases hxo.2 with ⟨hv, hm⟩ | ⟨g, cap', cur, hv, _⟩
  · have hlen := hxo.1
    subst hm
    have hnews : news = [] := List.eq_nil_of_length_eq_zero (by simpa using hlen)
    subst hnews
    have hw : Region.wanted o (yielded ops a.tmps) = true := by simp [Region.wanted, hg]
    rw [if_pos hw]
    have hrun := run_append_owned_none (P := P) (w := w) base t o.type e i size h1 h2 v n xs hown
    unfold Oper.wp
    simp [execOp, hop, resolve, invoke, builtin, hs, hx, hv, hrun, Result.andThen]
    exact hK v w (by simpa using hown) (grown_of_below (Below.refl _ _) _)
  · simp only [Value.slice.injEq, true_and] at hv
    obtain ⟨rfl, rfl⟩ := hv
    exact step_append_own hg s x t hop base e i z size bytes h1 h2 h3 h4 h5 h6 h7 v n xs hs hown ⟨g, 0, none⟩ m c news hx hxo.1 (own_news hxo) h1c b1 b2 hbase hK

/-- The book's cells: which classes are named, the items, the rules. -/
def bookCells (nm : Nat → Bool) (vi vr : Value) : List Value :=
  [.bool (nm 0), .bool (nm 1), .bool (nm 2), .bool (nm 3), .bool (nm 4), .bool (nm 5), .bool (nm 6), .bool (nm 7), .bool (nm 8), .bool (nm 9), .bool (nm 10), .bool (nm 11), .bool (nm 12),
   .bool (nm 13), .bool (nm 14), .bool (nm 15), .bool (nm 16), .bool (nm 17), .bool (nm 18), .bool (nm 19), .bool (nm 20), .bool (nm 21), .bool (nm 22), .bool (nm 23), .bool (nm 24), .bool (nm 25), vi, vr]
theorem bookCells_get (nm : Nat → Bool) (vi vr : Value) (k : Nat) (h : k < 26) : (bookCells nm vi vr)[k]? = some (.bool (nm k)) := by
  have e : k = 0 ∨ k = 1 ∨ k = 2 ∨ k = 3 ∨ k = 4 ∨ k = 5 ∨ k = 6 ∨ k = 7 ∨ k = 8 ∨ k = 9 ∨ k = 10 ∨ k = 11 ∨ k = 12 ∨ k = 13 ∨ k = 14 ∨ k = 15 ∨ k = 16 ∨ k = 17 ∨ k = 18 ∨ k = 19 ∨ k = 20 ∨ k = 21 ∨ k = 22 ∨ k = 23 ∨ k = 24 ∨ k = 25 := by omega
  rcases e with rfl | rfl | rfl | rfl | rfl | rfl | rfl | rfl | rfl | rfl | rfl | rfl | rfl | rfl | rfl | rfl | rfl | rfl | rfl | rfl | rfl | rfl | rfl | rfl | rfl | rfl <;> rfl
def nameIt (nm : Nat → Bool) (k : Nat) : Nat → Bool := fun j => if j = k then true else nm j
theorem bookCells_name (nm : Nat → Bool) (vi vr : Value) (k : Nat) (h : k < 26) : (bookCells nm vi vr).set k (.bool true) = bookCells (nameIt nm k) vi vr := by
  have e : k = 0 ∨ k = 1 ∨ k = 2 ∨ k = 3 ∨ k = 4 ∨ k = 5 ∨ k = 6 ∨ k = 7 ∨ k = 8 ∨ k = 9 ∨ k = 10 ∨ k = 11 ∨ k = 12 ∨ k = 13 ∨ k = 14 ∨ k = 15 ∨ k = 16 ∨ k = 17 ∨ k = 18 ∨ k = 19 ∨ k = 20 ∨ k = 21 ∨ k = 22 ∨ k = 23 ∨ k = 24 ∨ k = 25 := by omega
  rcases e with rfl | rfl | rfl | rfl | rfl | rfl | rfl | rfl | rfl | rfl | rfl | rfl | rfl | rfl | rfl | rfl | rfl | rfl | rfl | rfl | rfl | rfl | rfl | rfl | rfl | rfl <;> rfl

/-- An item of a class: the class, the item. -/
abbrev KItem := Int × Cu.Item
def kitemCells : List KItem → List Value
  | [] => []
  | x :: r => [.int .i32 x.2.1, .int .i32 x.2.2.1, .int .i64 x.1, .int .i64 x.2.2.2] ++ kitemCells r
theorem kitemCells_snoc (l : List KItem) (x : KItem) : kitemCells (l ++ [x]) = kitemCells l ++ [.int .i32 x.2.1, .int .i32 x.2.2.1, .int .i64 x.1, .int .i64 x.2.2.2] := by
  induction l with
  | nil => rfl
  | cons y l ih => simp [kitemCells, ih]
/-- A rule, as the program holds it. -/
def ruleCells : List PLn → List Value
  | [] => []
  | x :: r => [leftV x.1.left, .bool (x.1.op == 124), .slice x.2.1 x.1.right.length x.2.2] ++ ruleCells r
theorem ruleCells_snoc (l : List PLn) (x : PLn) : ruleCells (l ++ [x]) = ruleCells l ++ [leftV x.1.left, .bool (x.1.op == 124), .slice x.2.1 x.1.right.length x.2.2] := by
  induction l with
  | nil => rfl
  | cons y l ih => simp [ruleCells, ih]
theorem Tryz.info123 : (Tryz.prog.info? 123).map (fun i => (i.zero, i.size, i.bytes)) = some (some (.agg #[.nilIface, .bool false, .slice none 0 0]), 3, 48) := by kernel_rfl

/-- The book lies in block B: which classes are named, its items, its rules. -/
def BookAt (w : World) (B : Nat) (nm : Nat → Bool) (its : List KItem) (rs : List PLn) : Prop :=
  ∃ (ai ar : Option Addr) (ci cr : Nat), Blk w B (bookCells nm (.slice ai its.length ci) (.slice ar rs.length cr)) 72 ∧
    w.ownsRow B 85 4 (.slice ai its.length ci) its.length (kitemCells its) ∧ w.ownsRow B 123 3 (.slice ar rs.length cr) rs.length (ruleCells rs)
theorem BookAt.below {w w' : World} {B : Nat} {nm : Nat → Bool} {its : List KItem} {rs : List PLn} (h : BookAt w B nm its rs) (hb : Below w.heap.size w w') : BookAt w' B nm its rs := by
  obtain ⟨ai, ar, ci, cr, h1, h2, h3⟩ := h
  exact ⟨ai, ar, ci, cr, h1.below hb h1.lt, own_below h2 hb, own_below h3 hb⟩
theorem BookAt.lt {w : World} {B : Nat} {nm : Nat → Bool} {its : List KItem} {rs : List PLn} (h : BookAt w B nm its rs) : B < w.heap.size := by
  obtain ⟨ai, ar, ci, cr, h1, h2, h3⟩ := h
  exact h1.lt
end Go.Proofs.YtkinfleecfddlaaGreatDoor
/- Walks: item.meets, slices.IndexFunc and slices.ContainsFunc at it. -/
namespace Go.Proofs.YtkinfleecfddlaaGreatDoor
open Go.RowKit

def pmet (i o : Cu.Item) : Bool := decide (i.1 ≤ o.2.1) && decide (o.1 ≤ i.2.1)
def kitemV (k : Int) (i : Cu.Item) : Value := .agg #[.int .i32 i.1, .int .i32 i.2.1, .int .i64 k, .int .i64 i.2.2]
def meetsV (k : Int) (i : Cu.Item) : Value := .func (.func 90) #[kitemV k i] #[]

set_option maxRecDepth 100000 in
set_option maxHeartbeats 400000 in
theorem meets_any (k k' : Int) (x y : Cu.Item) (w : World) :
    Calls Tryz.prog 90 #[kitemV k x, kitemV k' y] w fun e w' => e = .returned (.bool (pmet x y)) ∧ Below w.heap.size w w' := by
  obtain ⟨x0, x1, x2⟩ := x
  obtain ⟨y0, y1, y2⟩ := y
  have hm := hide (show pmet (x0, x1, x2) (y0, y1, y2) = (decide (x0 ≤ y1) && decide (y0 ≤ x1)) from rfl)
  unfold kitemV
  simp only
  go_enter Tryz.func90, Tryz.ntmps90
  go_wp2
  all_goals go_ret
  all_goals go_light
  all_goals refine ⟨ret_bool ?_, ((Below.refl _ _).alloc (Nat.le_refl _) _).alloc (by simp) _⟩
  all_goals
    rw [unhide hm, Bool.eq_iff_iff]
    simp
    try omega

theorem kitemCells_get (l : List KItem) (i j : Nat) (hi : i < l.length) (hj : j < 4) : (kitemCells l)[i * 4 + j]? = ([.int .i32 l[i].2.1, .int .i32 l[i].2.2.1, .int .i64 l[i].1, .int .i64 l[i].2.2.2] : List Value)[j]? := by
  induction l generalizing i with
  | nil => simp at hi
  | cons y l ih =>
    cases i with
    | zero => simp only [kitemCells, Nat.zero_mul, Nat.zero_add]; rw [List.getElem?_append_left (by simp; omega)]; rfl
    | succ i =>
      simp only [kitemCells]
      rw [List.getElem?_append_right (by simp; omega), show (i + 1) * 4 + j - [Value.int .i32 y.2.1, Value.int .i32 y.2.2.1, Value.int .i64 y.1, Value.int .i64 y.2.2.2].length = i * 4 + j by simp; omega, ih i (by simpa using hi)]
      rfl
theorem kitem_cells {w : World} {base cap : Nat} {l : List KItem} {a : Option Addr} (ho : w.ownsRow base 85 4 (.slice a l.length cap) l.length (kitemCells l)) (i : Nat) (hi : i < l.length) :
    ∃ (g : Nat) (x : KItem), a = some ⟨g, 0, none⟩ ∧ l[i]? = some x ∧ g < w.heap.size ∧ w.cell? ⟨g, i * 4, none⟩ = some (.int .i32 x.2.1) ∧ w.cell? ⟨g, i * 4 + 1, none⟩ = some (.int .i32 x.2.2.1) ∧ w.cell? ⟨g, i * 4 + 2, none⟩ = some (.int .i64 x.1) ∧ w.cell? ⟨g, i * 4 + 3, none⟩ = some (.int .i64 x.2.2.2) := by
  rcases ho.2 with ⟨_, h2⟩ | ⟨g, cap', cur, hv, _, hh, h3, h4, _⟩
  · omega
  · simp only [Value.slice.injEq, true_and] at hv
    obtain ⟨rfl, rfl⟩ := hv
    have hc : ∀ j, j < 4 → w.cell? ⟨g, i * 4 + j, none⟩ = ([.int .i32 l[i].2.1, .int .i32 l[i].2.2.1, .int .i64 l[i].1, .int .i64 l[i].2.2.2] : List Value)[j]? := fun j hj => by
      rw [ho.cellAt (i * 4 + j) (by omega), kitemCells_get l i j hi hj]
    exact ⟨g, l[i], rfl, by simp [hi], (Array.getElem?_eq_some_iff.1 hh).1, hc 0 (by omega), hc 1 (by omega), hc 2 (by omega), hc 3 (by omega)⟩
theorem any_take_succ {α : Type} {p : α → Bool} {l : List α} {k : Nat} {x : α} (h : l[k]? = some x) (h1 : (l.take k).any p = false) (h2 : p x = false) : (l.take (k + 1)).any p = false := by
  rw [List.take_add_one, h, List.any_append, h1]
  simp [h2]

set_option maxRecDepth 100000 in
set_option maxHeartbeats 1000000 in
theorem indexFunc_any (k : Int) (x : Cu.Item) (l : List KItem) (a : Option Addr) (cap : Nat) (w : World) (hl : l.length ≤ 4294967296) (ho : w.ownsRow 0 85 4 (.slice a l.length cap) l.length (kitemCells l)) :
    Calls Tryz.prog 114 #[.slice a l.length cap, meetsV k x] w fun e w' => ∃ r : Int, e = .returned (.int .i64 r) ∧ (l.any fun o => pmet x o.2) = decide (0 ≤ r) ∧ Below w.heap.size w w' := by
  have HO := hide ho
  clear ho
  unfold meetsV
  go_enter Tryz.func114, Tryz.ntmps114
  go_wp2
  go_loopw [8] (fun v wr => ∃ n : Nat, n ≤ l.length ∧ v = .int .i64 n ∧ Below w.heap.size w wr ∧ ((l.take n).any fun o => pmet x o.2) = false) (fun v _ => l.length + 1 - (intOf v).toNat)
  case atStart => exact ⟨0, by omega, rfl, Below.refl _ _, rfl⟩
  case round =>
    obtain ⟨n, hn, rfl, hb, hno⟩ := hrel
    have HNO := hide hno
    clear hno
    by_cases hlt : n < l.length
    · obtain ⟨g, y, rfl, hy, hg, c0, c1, c2, c3⟩ := kitem_cells (own_below (unhide HO) hb) n hlt
      have HY := hide hy
      clear hy
      have hmt := fun w => meets_any k y.1 x y.2 w
      unfold kitemV at hmt
      cases hp : pmet x y.2 with
      | true =>
        have hr : Hid ((l.any fun o => pmet x o.2) = true) := hide (by rw [List.any_eq_true]; exact ⟨y, List.mem_of_getElem? (unhide HY), hp⟩)
        rw [hp] at hmt
        have HM := hide hmt
        clear hmt hp
        unfold kitemV
        go_wp2_with (go_at_call 90; refine (unhide HM _).mono ?_; rintro e w2 ⟨rfl, hb2⟩)
        go_ret
        exact ⟨n, rfl, by rw [unhide hr]; simp, hb.trans (hb2.mono hb.size)⟩
      | false =>
        have hr := hide (any_take_succ (p := fun o : KItem => pmet x o.2) (unhide HY) (unhide HNO) hp)
        rw [hp] at hmt
        have HM := hide hmt
        clear hmt hp
        unfold kitemV
        go_wp2_with (go_at_call 90; refine (unhide HM _).mono ?_; rintro e w2 ⟨rfl, hb2⟩)
        go_roundw
        case rel => first | exact ⟨n + 1, by omega, by go_num, hb.trans (hb2.mono hb.size), unhide hr⟩ | ((repeat apply Exists.intro); exact ⟨⟨n + 1, by omega, by go_num, hb.trans (hb2.mono hb.size), unhide hr⟩, rfl⟩)
        case measure => simp [intOf]; omega
    · have hr : Hid ((l.any fun o => pmet x o.2) = false) := hide (by rw [← unhide HNO, List.take_of_length_le (by omega)])
      go_wp2
      go_ret
      exact ⟨-1, rfl, by rw [unhide hr]; rfl, hb⟩

set_option maxRecDepth 100000 in
set_option maxHeartbeats 400000 in
theorem containsFunc_any (k : Int) (x : Cu.Item) (l : List KItem) (a : Option Addr) (cap : Nat) (w : World) (hl : l.length ≤ 4294967296) (ho : w.ownsRow 0 85 4 (.slice a l.length cap) l.length (kitemCells l)) :
    Calls Tryz.prog 89 #[.slice a l.length cap, meetsV k x] w fun e w' => e = .returned (.bool (l.any fun o => pmet x o.2)) ∧ Below w.heap.size w w' := by
  have HI := hide (indexFunc_any k x l a cap w hl ho)
  unfold meetsV at HI ⊢
  clear ho
  go_enter Tryz.func89, Tryz.ntmps89
  go_wp2_with fail
  refine (unhide HI).mono ?_
  rintro e w2 ⟨r, rfl, hr, hb2⟩
  have HR := hide hr
  clear hr
  go_wp2
  go_ret
  exact ⟨ret_bool (unhide HR).symm, hb2⟩
end Go.Proofs.YtkinfleecfddlaaGreatDoor
