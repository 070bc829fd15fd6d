/- append of a row, as one step of a region that draws; the book's block. -/
import Derived.Test.YtbppbejigedioabGreatDoorRdB
import Derived.Laws.AppendOwnNone
import Derived.Test.YtbppbejigedioabGreatDoorRdE
namespace Go.Proofs.YtbppbejigedioabGreatDoor
open Go.RowKit

/-- append of a row, nil or owned, to a row of the call's own, as one step of a region that draws its order. -/
theorem step_append_row {P : Program} {ops : Array Oper} {o : Oper} {a : Act} {w : World} {K : Act → World → Prop} {Q : Exit → Act → World → Prop} {E : Prop}
    (hg : o.guard = none) (s x : Operand) (t : TypeId) (hop : o.op = Op.call { callee := Callee.builtin Builtin.append, args := #[s, x], argTypes := #[t, t] })
    (base : Nat) (e : TypeId) (i : TypeInfo) (z : Value) (size bytes : Nat) (h1 : P.underlying t = some (.slice e)) (h2 : P.info? e = some i) (h3 : i.zero = some z) (h4 : i.size = size) (h5 : i.bytes = bytes) (h6 : z.cells.size = size) (h7 : 0 < size)
    (v : Value) (n : Nat) (xs : List Value) (hs : a.eval s = v) (hown : w.ownsRow base e size v n xs)
    (bx : Nat) (ax : Option Addr) (m c : Nat) (news : List Value) (hx : a.eval x = .slice ax m c) (hxo : w.ownsRow bx e size (.slice ax m c) m news) (h1c : ∀ u ∈ news, u.oneCell' = true)
    (b1 : n + m ≤ maxLen) (b2 : (n + m) * bytes ≤ 140737488355328) (hbase : base ≤ w.heap.size)
    (hK : ∀ v' w', w'.ownsRow base e size v' (n + m) (xs ++ news) → w.grownBy w' v.ownBlock → K (a.put o.dst v') w') :
    if Region.wanted o (yielded ops a.tmps) = true then Oper.wp P o a w K Q else E := by
  rcases hxo.2 with ⟨hv, hm⟩ | ⟨g, cap', cur, hv, _⟩
  · have hlen := hxo.1
    subst hm
    have hnews : news = [] := List.eq_nil_of_length_eq_zero (by simpa using hlen)
    subst hnews
    have hw : Region.wanted o (yielded ops a.tmps) = true := by simp [Region.wanted, hg]
    rw [if_pos hw]
    have hrun := run_append_owned_none (P := P) (w := w) base t o.type e i size h1 h2 v n xs hown
    unfold Oper.wp
    simp [execOp, hop, resolve, invoke, builtin, hs, hx, hv, hrun, Result.andThen]
    exact hK v w (by simpa using hown) (grown_of_below (Below.refl _ _) _)
  · simp only [Value.slice.injEq, true_and] at hv
    obtain ⟨rfl, rfl⟩ := hv
    exact step_append_own hg s x t hop base e i z size bytes h1 h2 h3 h4 h5 h6 h7 v n xs hs hown ⟨g, 0, none⟩ m c news hx hxo.1 (own_news hxo) h1c b1 b2 hbase hK

def standB (k s : Int) : Bool := !decide (s = 27) && (decide (k = 27) || decide (k = s))
set_option maxRecDepth 100000 in
set_option maxHeartbeats 400000 in
theorem stands_any (k p s : Int) (w : World) : Calls Tryz.prog 129 #[.agg #[.int .i64 k, .int .i64 p], .int .i64 s] w fun e w' => e = .returned (.bool (standB k s)) ∧ Below w.heap.size w w' := by
  have hm := hide (show standB k s = (!decide (s = 27) && (decide (k = 27) || decide (k = s))) from rfl)
  go_enter Tryz.func129, Tryz.ntmps129
  go_wp2
  all_goals go_ret
  all_goals go_light
  all_goals refine ⟨ret_bool ?_, (Below.refl _ _).alloc (Nat.le_refl _) _⟩
  all_goals
    rw [unhide hm, Bool.eq_iff_iff]
    simp_all
/-- Can a symbol stand at its place on a right side? (k: the place times 28, and the symbol; 27 is the end.) -/
def rst (R : List Cu.Atom) (k : Nat) : Bool := ((R[k / 28]?).map fun a => standB (Cu.sk a.1) ((k % 28 : Nat) : Int)).getD true
/-- The rules, among the first n, on whose right side it can stand. -/
def rtTo (rs : List PLn) (k : Nat) : Nat → Nat
  | 0 => 0
  | n + 1 => if ((rs[n]?).map fun x => rst x.1.right k).getD false then rtTo rs k n ||| 2 ^ n else rtTo rs k n
def rtOf (rs : List PLn) (k : Nat) : Nat := rtTo rs k rs.length
theorem rtTo_lt (rs : List PLn) (k n : Nat) : rtTo rs k n < 2 ^ n := by
  induction n with
  | zero => simp [rtTo]
  | succ n ih =>
    unfold rtTo
    split
    · exact Nat.or_lt_two_pow (by omega) (by omega)
    · omega
theorem rtTo_bit (rs : List PLn) (k n i : Nat) (hi : i < n) (x : PLn) (hx : rs[i]? = some x) : (rtTo rs k n).testBit i = rst x.1.right k := by
  induction n with
  | zero => omega
  | succ n ih =>
    by_cases h : i = n
    · subst h
      have h0 : (rtTo rs k i).testBit i = false := Nat.testBit_lt_two_pow (rtTo_lt rs k i)
      unfold rtTo
      rw [hx]
      simp only [Option.map_some, Option.getD_some]
      by_cases hb : rst x.1.right k = true
      · rw [if_pos hb, hb]; simp
      · rw [if_neg hb, h0]; simpa using hb
    · have := ih (by omega)
      unfold rtTo
      split
      · rw [Nat.testBit_or, this, Nat.testBit_two_pow_of_ne (by omega), Bool.or_false]
      · exact this
theorem rtTo_app (rs : List PLn) (x : PLn) (k n : Nat) (hn : n ≤ rs.length) : rtTo (rs ++ [x]) k n = rtTo rs k n := by
  induction n with
  | zero => rfl
  | succ n ih =>
    unfold rtTo
    rw [ih (by omega), List.getElem?_append_left (by omega)]
theorem rtOf_snoc (rs : List PLn) (x : PLn) (k : Nat) : rtOf (rs ++ [x]) k = if rst x.1.right k then rtOf rs k ||| 2 ^ rs.length else rtOf rs k := by
  unfold rtOf
  rw [List.length_append, List.length_singleton, rtTo, rtTo_app rs x k _ (Nat.le_refl _)]
  simp
theorem rtOf_lt {rs : List PLn} (h : rs.length ≤ 12) (k : Nat) : rtOf rs k < 65536 :=
  Nat.lt_of_lt_of_le (rtTo_lt _ _ _) (Nat.le_trans (Nat.pow_le_pow_right (by decide) h) (by decide))
theorem rtOf_bit {rs : List PLn} {i : Nat} {x : PLn} (hx : rs[i]? = some x) (k : Nat) : (rtOf rs k).testBit i = rst x.1.right k :=
  rtTo_bit rs k rs.length i (List.getElem?_eq_some_iff.1 hx).1 x hx
/-- The rules whose right side stands where a symbol is followed by another (27: by the end). -/
def stN (rs : List PLn) (a b : Nat) : Nat := rtOf rs a &&& rtOf rs (28 + b)
theorem stN_lt {rs : List PLn} (h : rs.length ≤ 12) (a b : Nat) : stN rs a b < 65536 := Nat.lt_of_le_of_lt Nat.and_le_left (rtOf_lt h a)
theorem stN_bit {rs : List PLn} {i : Nat} {x : PLn} (hx : rs[i]? = some x) (a b : Nat) : (stN rs a b).testBit i = (rst x.1.right a && rst x.1.right (28 + b)) := by
  unfold stN
  rw [Nat.testBit_and, rtOf_bit hx, rtOf_bit hx]
/-- The book's first cells: which classes are named, the items, the rules. -/
def bookHead (nm : Nat → Bool) (vi vr : Value) : List Value :=
  [.bool (nm 0), .bool (nm 1), .bool (nm 2), .bool (nm 3), .bool (nm 4), .bool (nm 5), .bool (nm 6), .bool (nm 7), .bool (nm 8), .bool (nm 9), .bool (nm 10), .bool (nm 11), .bool (nm 12),
   .bool (nm 13), .bool (nm 14), .bool (nm 15), .bool (nm 16), .bool (nm 17), .bool (nm 18), .bool (nm 19), .bool (nm 20), .bool (nm 21), .bool (nm 22), .bool (nm 23), .bool (nm 24), .bool (nm 25), vi, vr]
theorem bookHead_get (nm : Nat → Bool) (vi vr : Value) (k : Nat) (h : k < 26) : (bookHead nm vi vr)[k]? = some (.bool (nm k)) := by
  have e : k = 0 ∨ k = 1 ∨ k = 2 ∨ k = 3 ∨ k = 4 ∨ k = 5 ∨ k = 6 ∨ k = 7 ∨ k = 8 ∨ k = 9 ∨ k = 10 ∨ k = 11 ∨ k = 12 ∨ k = 13 ∨ k = 14 ∨ k = 15 ∨ k = 16 ∨ k = 17 ∨ k = 18 ∨ k = 19 ∨ k = 20 ∨ k = 21 ∨ k = 22 ∨ k = 23 ∨ k = 24 ∨ k = 25 := by omega
  rcases e with rfl | rfl | rfl | rfl | rfl | rfl | rfl | rfl | rfl | rfl | rfl | rfl | rfl | rfl | rfl | rfl | rfl | rfl | rfl | rfl | rfl | rfl | rfl | rfl | rfl | rfl <;> rfl
def nameIt (nm : Nat → Bool) (k : Nat) : Nat → Bool := fun j => if j = k then true else nm j
theorem bookHead_name (nm : Nat → Bool) (vi vr : Value) (k : Nat) (h : k < 26) : (bookHead nm vi vr).set k (.bool true) = bookHead (nameIt nm k) vi vr := by
  have e : k = 0 ∨ k = 1 ∨ k = 2 ∨ k = 3 ∨ k = 4 ∨ k = 5 ∨ k = 6 ∨ k = 7 ∨ k = 8 ∨ k = 9 ∨ k = 10 ∨ k = 11 ∨ k = 12 ∨ k = 13 ∨ k = 14 ∨ k = 15 ∨ k = 16 ∨ k = 17 ∨ k = 18 ∨ k = 19 ∨ k = 20 ∨ k = 21 ∨ k = 22 ∨ k = 23 ∨ k = 24 ∨ k = 25 := by omega
  rcases e with rfl | rfl | rfl | rfl | rfl | rfl | rfl | rfl | rfl | rfl | rfl | rfl | rfl | rfl | rfl | rfl | rfl | rfl | rfl | rfl | rfl | rfl | rfl | rfl | rfl | rfl <;> rfl

def rtCells (rt : Nat → Nat) : List Value := (List.range 56).map fun k => Value.int .u16 (rt k)
/-- The book's cells: the first ones, and for each symbol the rules on whose right side it can stand. -/
def bookCells (nm : Nat → Bool) (vi vr : Value) (rt : Nat → Nat) : List Value := bookHead nm vi vr ++ rtCells rt
theorem bookCells_get (nm : Nat → Bool) (vi vr : Value) (rt : Nat → Nat) (k : Nat) (h : k < 26) : (bookCells nm vi vr rt)[k]? = some (.bool (nm k)) := by
  unfold bookCells
  rw [List.getElem?_append_left (by show k < 28; omega), bookHead_get _ _ _ _ h]
theorem bookCells_name (nm : Nat → Bool) (vi vr : Value) (rt : Nat → Nat) (k : Nat) (h : k < 26) : (bookCells nm vi vr rt).set k (.bool true) = bookCells (nameIt nm k) vi vr rt := by
  unfold bookCells
  rw [List.set_append_left _ _ (by show k < 28; omega), bookHead_name _ _ _ _ h]
theorem bookCells_right (nm : Nat → Bool) (vi vr : Value) (rt : Nat → Nat) (k : Nat) (h : k < 56) : (bookCells nm vi vr rt)[28 + k]? = some (.int .u16 (rt k)) := by
  unfold bookCells rtCells
  rw [List.getElem?_append_right (by show 28 ≤ 28 + k; omega), show 28 + k - (bookHead nm vi vr).length = k from by show 28 + k - 28 = k; omega, List.getElem?_map, List.getElem?_range h]
  rfl
def setRt (rt : Nat → Nat) (k u : Nat) : Nat → Nat := fun j => if j = k then u else rt j
theorem bookCells_set (nm : Nat → Bool) (vi vr : Value) (rt : Nat → Nat) (k u : Nat) (h : k < 56) : (bookCells nm vi vr rt).set (28 + k) (.int .u16 (u : Int)) = bookCells nm vi vr (setRt rt k u) := by
  unfold bookCells
  rw [List.set_append_right _ _ (by show 28 ≤ 28 + k; omega), show 28 + k - (bookHead nm vi vr).length = k from by show 28 + k - 28 = k; omega]
  congr 1
  unfold rtCells setRt
  apply List.ext_getElem?
  intro j
  rw [List.getElem?_set, List.getElem?_map, List.getElem?_map]
  by_cases hj : k = j
  · subst hj
    rw [if_pos rfl, if_pos (by simpa using h), List.getElem?_range h]
    simp
  · rw [if_neg hj]
    by_cases h2 : j < 56
    · rw [List.getElem?_range h2]
      rw [Option.map_some, Option.map_some, if_neg (fun e => hj e.symm)]
    · rw [List.getElem?_eq_none (by simp; omega)]
      rfl
theorem bookCells_same (nm : Nat → Bool) (vi vr : Value) {rt rt' : Nat → Nat} (h : ∀ k, k < 56 → rt k = rt' k) : bookCells nm vi vr rt = bookCells nm vi vr rt' := by
  unfold bookCells rtCells
  congr 1
  apply List.map_congr_left
  intro k hk
  rw [h k (by simpa using hk)]

/-- An item of a class: the class, the item. -/
abbrev KItem := Int × Cu.Item
def kitemCells : List KItem → List Value
  | [] => []
  | x :: r => [.int .i32 x.2.1, .int .i32 x.2.2.1, .int .i64 x.1, .int .i64 x.2.2.2] ++ kitemCells r
theorem kitemCells_snoc (l : List KItem) (x : KItem) : kitemCells (l ++ [x]) = kitemCells l ++ [.int .i32 x.2.1, .int .i32 x.2.2.1, .int .i64 x.1, .int .i64 x.2.2.2] := by
  induction l with
  | nil => rfl
  | cons y l ih => simp [kitemCells, ih]
/-- A rule, as the program holds it. -/
def ruleCells : List PLn → List Value
  | [] => []
  | x :: r => [leftV x.1.left, .bool (x.1.op == 124), .slice x.2.1 x.1.right.length x.2.2] ++ ruleCells r
theorem ruleCells_snoc (l : List PLn) (x : PLn) : ruleCells (l ++ [x]) = ruleCells l ++ [leftV x.1.left, .bool (x.1.op == 124), .slice x.2.1 x.1.right.length x.2.2] := by
  induction l with
  | nil => rfl
  | cons y l ih => simp [ruleCells, ih]
theorem Tryz.info126 : (Tryz.prog.info? 126).map (fun i => (i.zero, i.size, i.bytes)) = some (some (.agg #[.nilIface, .bool false, .slice none 0 0]), 3, 48) := by kernel_rfl

/-- The book lies in block B: which classes are named, its items, its rules. -/
def BookAt (w : World) (B : Nat) (nm : Nat → Bool) (its : List KItem) (rs : List PLn) : Prop :=
  ∃ (ai ar : Option Addr) (ci cr : Nat), Blk w B (bookCells nm (.slice ai its.length ci) (.slice ar rs.length cr) (rtOf rs)) 73 ∧
    w.ownsRow B 108 4 (.slice ai its.length ci) its.length (kitemCells its) ∧ w.ownsRow B 126 3 (.slice ar rs.length cr) rs.length (ruleCells rs)
theorem BookAt.below {w w' : World} {B : Nat} {nm : Nat → Bool} {its : List KItem} {rs : List PLn} (h : BookAt w B nm its rs) (hb : Below w.heap.size w w') : BookAt w' B nm its rs := by
  obtain ⟨ai, ar, ci, cr, h1, h2, h3⟩ := h
  exact ⟨ai, ar, ci, cr, h1.below hb h1.lt, own_below h2 hb, own_below h3 hb⟩
theorem BookAt.lt {w : World} {B : Nat} {nm : Nat → Bool} {its : List KItem} {rs : List PLn} (h : BookAt w B nm its rs) : B < w.heap.size := by
  obtain ⟨ai, ar, ci, cr, h1, h2, h3⟩ := h
  exact h1.lt
end Go.Proofs.YtbppbejigedioabGreatDoor
/- Walks: item.meets, slices.IndexFunc and slices.ContainsFunc at it. -/
namespace Go.Proofs.YtbppbejigedioabGreatDoor
open Go.RowKit

def pmet (i o : Cu.Item) : Bool := decide (i.1 ≤ o.2.1) && decide (o.1 ≤ i.2.1)
def kitemV (k : Int) (i : Cu.Item) : Value := .agg #[.int .i32 i.1, .int .i32 i.2.1, .int .i64 k, .int .i64 i.2.2]
def meetsV (k : Int) (i : Cu.Item) : Value := .func (.func 113) #[kitemV k i] #[]

set_option maxRecDepth 100000 in
set_option maxHeartbeats 400000 in
theorem meets_any (k k' : Int) (x y : Cu.Item) (w : World) :
    Calls Tryz.prog 113 #[kitemV k x, kitemV k' y] w fun e w' => e = .returned (.bool (pmet x y)) ∧ Below w.heap.size w w' := by
  obtain ⟨x0, x1, x2⟩ := x
  obtain ⟨y0, y1, y2⟩ := y
  have hm := hide (show pmet (x0, x1, x2) (y0, y1, y2) = (decide (x0 ≤ y1) && decide (y0 ≤ x1)) from rfl)
  unfold kitemV
  simp only
  go_enter Tryz.func113, Tryz.ntmps113
  go_wp2
  all_goals go_ret
  all_goals go_light
  all_goals refine ⟨ret_bool ?_, ((Below.refl _ _).alloc (Nat.le_refl _) _).alloc (by simp) _⟩
  all_goals
    rw [unhide hm, Bool.eq_iff_iff]
    simp
    try omega

theorem kitemCells_get (l : List KItem) (i j : Nat) (hi : i < l.length) (hj : j < 4) : (kitemCells l)[i * 4 + j]? = ([.int .i32 l[i].2.1, .int .i32 l[i].2.2.1, .int .i64 l[i].1, .int .i64 l[i].2.2.2] : List Value)[j]? := by
  induction l generalizing i with
  | nil => simp at hi
  | cons y l ih =>
    cases i with
    | zero => simp only [kitemCells, Nat.zero_mul, Nat.zero_add]; rw [List.getElem?_append_left (by simp; omega)]; rfl
    | succ i =>
      simp only [kitemCells]
      rw [List.getElem?_append_right (by simp; omega), show (i + 1) * 4 + j - [Value.int .i32 y.2.1, Value.int .i32 y.2.2.1, Value.int .i64 y.1, Value.int .i64 y.2.2.2].length = i * 4 + j by simp; omega, ih i (by simpa using hi)]
      rfl
theorem kitem_cells {w : World} {base cap : Nat} {l : List KItem} {a : Option Addr} (ho : w.ownsRow base 108 4 (.slice a l.length cap) l.length (kitemCells l)) (i : Nat) (hi : i < l.length) :
    ∃ (g : Nat) (x : KItem), a = some ⟨g, 0, none⟩ ∧ l[i]? = some x ∧ g < w.heap.size ∧ w.cell? ⟨g, i * 4, none⟩ = some (.int .i32 x.2.1) ∧ w.cell? ⟨g, i * 4 + 1, none⟩ = some (.int .i32 x.2.2.1) ∧ w.cell? ⟨g, i * 4 + 2, none⟩ = some (.int .i64 x.1) ∧ w.cell? ⟨g, i * 4 + 3, none⟩ = some (.int .i64 x.2.2.2) := by
  rcases ho.2 with ⟨_, h2⟩ | ⟨g, cap', cur, hv, _, hh, h3, h4, _⟩
  · omega
  · simp only [Value.slice.injEq, true_and] at hv
    obtain ⟨rfl, rfl⟩ := hv
    have hc : ∀ j, j < 4 → w.cell? ⟨g, i * 4 + j, none⟩ = ([.int .i32 l[i].2.1, .int .i32 l[i].2.2.1, .int .i64 l[i].1, .int .i64 l[i].2.2.2] : List Value)[j]? := fun j hj => by
      rw [ho.cellAt (i * 4 + j) (by omega), kitemCells_get l i j hi hj]
    exact ⟨g, l[i], rfl, by simp [hi], (Array.getElem?_eq_some_iff.1 hh).1, hc 0 (by omega), hc 1 (by omega), hc 2 (by omega), hc 3 (by omega)⟩
theorem any_take_succ {α : Type} {p : α → Bool} {l : List α} {k : Nat} {x : α} (h : l[k]? = some x) (h1 : (l.take k).any p = false) (h2 : p x = false) : (l.take (k + 1)).any p = false := by
  rw [List.take_add_one, h, List.any_append, h1]
  simp [h2]

set_option maxRecDepth 100000 in
set_option maxHeartbeats 1000000 in
theorem indexFunc_any (k : Int) (x : Cu.Item) (l : List KItem) (a : Option Addr) (cap : Nat) (w : World) (hl : l.length ≤ 4294967296) (ho : w.ownsRow 0 108 4 (.slice a l.length cap) l.length (kitemCells l)) :
    Calls Tryz.prog 146 #[.slice a l.length cap, meetsV k x] w fun e w' => ∃ r : Int, e = .returned (.int .i64 r) ∧ (l.any fun o => pmet x o.2) = decide (0 ≤ r) ∧ Below w.heap.size w w' := by
  have HO := hide ho
  clear ho
  unfold meetsV
  go_enter Tryz.func146, Tryz.ntmps146
  go_wp2
  go_loopw [8] (fun v wr => ∃ n : Nat, n ≤ l.length ∧ v = .int .i64 n ∧ Below w.heap.size w wr ∧ ((l.take n).any fun o => pmet x o.2) = false) (fun v _ => l.length + 1 - (intOf v).toNat)
  case atStart => exact ⟨0, by omega, rfl, Below.refl _ _, rfl⟩
  case round =>
    obtain ⟨n, hn, rfl, hb, hno⟩ := hrel
    have HNO := hide hno
    clear hno
    by_cases hlt : n < l.length
    · obtain ⟨g, y, rfl, hy, hg, c0, c1, c2, c3⟩ := kitem_cells (own_below (unhide HO) hb) n hlt
      have HY := hide hy
      clear hy
      have hmt := fun w => meets_any k y.1 x y.2 w
      unfold kitemV at hmt
      cases hp : pmet x y.2 with
      | true =>
        have hr : Hid ((l.any fun o => pmet x o.2) = true) := hide (by rw [List.any_eq_true]; exact ⟨y, List.mem_of_getElem? (unhide HY), hp⟩)
        rw [hp] at hmt
        have HM := hide hmt
        clear hmt hp
        unfold kitemV
        go_wp2_with (go_at_call 113; refine (unhide HM _).mono ?_; rintro e w2 ⟨rfl, hb2⟩)
        go_ret
        exact ⟨n, rfl, by rw [unhide hr]; simp, hb.trans (hb2.mono hb.size)⟩
      | false =>
        have hr := hide (any_take_succ (p := fun o : KItem => pmet x o.2) (unhide HY) (unhide HNO) hp)
        rw [hp] at hmt
        have HM := hide hmt
        clear hmt hp
        unfold kitemV
        go_wp2_with (go_at_call 113; refine (unhide HM _).mono ?_; rintro e w2 ⟨rfl, hb2⟩)
        go_roundw
        case rel => first | exact ⟨n + 1, by omega, by go_num, hb.trans (hb2.mono hb.size), unhide hr⟩ | ((repeat apply Exists.intro); exact ⟨⟨n + 1, by omega, by go_num, hb.trans (hb2.mono hb.size), unhide hr⟩, rfl⟩)
        case measure => simp [intOf]; omega
    · have hr : Hid ((l.any fun o => pmet x o.2) = false) := hide (by rw [← unhide HNO, List.take_of_length_le (by omega)])
      go_wp2
      go_ret
      exact ⟨-1, rfl, by rw [unhide hr]; rfl, hb⟩

set_option maxRecDepth 100000 in
set_option maxHeartbeats 400000 in
theorem containsFunc_any (k : Int) (x : Cu.Item) (l : List KItem) (a : Option Addr) (cap : Nat) (w : World) (hl : l.length ≤ 4294967296) (ho : w.ownsRow 0 108 4 (.slice a l.length cap) l.length (kitemCells l)) :
    Calls Tryz.prog 112 #[.slice a l.length cap, meetsV k x] w fun e w' => e = .returned (.bool (l.any fun o => pmet x o.2)) ∧ Below w.heap.size w w' := by
  have HI := hide (indexFunc_any k x l a cap w hl ho)
  unfold meetsV at HI ⊢
  clear ho
  go_enter Tryz.func112, Tryz.ntmps112
  go_wp2_with fail
  refine (unhide HI).mono ?_
  rintro e w2 ⟨r, rfl, hr, hb2⟩
  have HR := hide hr
  clear hr
  go_wp2
  go_ret
  exact ⟨ret_bool (unhide HR).symm, hb2⟩
end Go.Proofs.YtbppbejigedioabGreatDoor
