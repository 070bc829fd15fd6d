/- Walks: item.meets, slices.IndexFunc and slices.ContainsFunc at it. -/
import Derived.Test.YtkinfleecfddlaaGreatDoorBookA
namespace Go.Proofs.YtkinfleecfddlaaGreatDoor
open Go.RowKit

def pmet (i o : Cu.Item) : Bool := decide (i.1 ≤ o.2.1) && decide (o.1 ≤ i.2.1)
def kitemV (k : Int) (i : Cu.Item) : Value := .agg #[.int .i32 i.1, .int .i32 i.2.1, .int .i64 k, .int .i64 i.2.2]
def meetsV (k : Int) (i : Cu.Item) : Value := .func (.func 90) #[kitemV k i] #[]

set_option maxRecDepth 100000 in
set_option maxHeartbeats 400000 in
theorem meets_any (k k' : Int) (x y : Cu.Item) (w : World) :
    Calls Tryz.prog 90 #[kitemV k x, kitemV k' y] w fun e w' => e = .returned (.bool (pmet x y)) ∧ Below w.heap.size w w' := by
  obtain ⟨x0, x1, x2⟩ := x
  obtain ⟨y0, y1, y2⟩ := y
  have hm := hide (show pmet (x0, x1, x2) (y0, y1, y2) = (decide (x0 ≤ y1) && decide (y0 ≤ x1)) from rfl)
  unfold kitemV
  simp only
  go_enter Tryz.func90, Tryz.ntmps90
  go_wp2
  all_goals go_ret
  all_goals go_light
  all_goals refine ⟨ret_bool ?_, ((Below.refl _ _).alloc (Nat.le_refl _) _).alloc (by simp) _⟩
  all_goals
    rw [unhide hm, Bool.eq_iff_iff]
    simp
    try omega

theorem kitemCells_get (l : List KItem) (i j : Nat) (hi : i < l.length) (hj : j < 4) : (kitemCells l)[i * 4 + j]? = ([.int .i32 l[i].2.1, .int .i32 l[i].2.2.1, .int .i64 l[i].1, .int .i64 l[i].2.2.2] : List Value)[j]? := by
  induction l generalizing i with
  | nil => simp at hi
  | cons y l ih =>
    cases i with
    | zero => simp only [kitemCells, Nat.zero_mul, Nat.zero_add]; rw [List.getElem?_append_left (by simp; omega)]; rfl
    | succ i =>
      simp only [kitemCells]
      rw [List.getElem?_append_right (by simp; omega), show (i + 1) * 4 + j - [Value.int .i32 y.2.1, Value.int .i32 y.2.2.1, Value.int .i64 y.1, Value.int .i64 y.2.2.2].length = i * 4 + j by simp; omega, ih i (by simpa using hi)]
      rfl
theorem kitem_cells {w : World} {base cap : Nat} {l : List KItem} {a : Option Addr} (ho : w.ownsRow base 85 4 (.slice a l.length cap) l.length (kitemCells l)) (i : Nat) (hi : i < l.length) :
    ∃ (g : Nat) (x : KItem), a = some ⟨g, 0, none⟩ ∧ l[i]? = some x ∧ g < w.heap.size ∧ w.cell? ⟨g, i * 4, none⟩ = some (.int .i32 x.2.1) ∧ w.cell? ⟨g, i * 4 + 1, none⟩ = some (.int .i32 x.2.2.1) ∧ w.cell? ⟨g, i * 4 + 2, none⟩ = some (.int .i64 x.1) ∧ w.cell? ⟨g, i * 4 + 3, none⟩ = some (.int .i64 x.2.2.2) := by
  rcases ho.2 with ⟨_, h2⟩ | ⟨g, cap', cur, hv, _, hh, h3, h4, _⟩
  · omega
  · simp only [Value.slice.injEq, true_and] at hv
    obtain ⟨rfl, rfl⟩ := hv
    have hc : ∀ j, j < 4 → w.cell? ⟨g, i * 4 + j, none⟩ = ([.int .i32 l[i].2.1, .int .i32 l[i].2.2.1, .int .i64 l[i].1, .int .i64 l[i].2.2.2] : List Value)[j]? := fun j hj => by
      rw [ho.cellAt (i * 4 + j) (by omega), kitemCells_get l i j hi hj]
    exact ⟨g, l[i], rfl, by simp [hi], (Array.getElem?_eq_some_iff.1 hh).1, hc 0 (by omega), hc 1 (by omega), hc 2 (by omega), hc 3 (by omega)⟩
theorem any_take_succ {α : Type} {p : α → Bool} {l : List α} {k : Nat} {x : α} (h : l[k]? = some x) (h1 : (l.take k).any p = false) (h2 : p x = false) : (l.take (k + 1)).any p = false := by
  rw [List.take_add_one, h, List.any_append, h1]
  simp [h2]

set_option maxRecDepth 100000 in
set_option maxHeartbeats 1000000 in
theorem indexFunc_any (k : Int) (x : Cu.Item) (l : List KItem) (a : Option Addr) (cap : Nat) (w : World) (hl : l.length ≤ 4294967296) (ho : w.ownsRow 0 85 4 (.slice a l.length cap) l.length (kitemCells l)) :
    Calls Tryz.prog 114 #[.slice a l.length cap, meetsV k x] w fun e w' => ∃ r : Int, e = .returned (.int .i64 r) ∧ (l.any fun o => pmet x o.2) = decide (0 ≤ r) ∧ Below w.heap.size w w' := by
  have HO := hide ho
  clear ho
  unfold meetsV
  go_enter Tryz.func114, Tryz.ntmps114
  go_wp2
  go_loopw [8] (fun v wr => ∃ n : Nat, n ≤ l.length ∧ v = .int .i64 n ∧ Below w.heap.size w wr ∧ ((l.take n).any fun o => pmet x o.2) = false) (fun v _ => l.length + 1 - (intOf v).toNat)
  case atStart => exact ⟨0, by omega, rfl, Below.refl _ _, rfl⟩
  case round =>
    obtain ⟨n, hn, rfl, hb, hno⟩ := hrel
    have HNO := hide hno
    clear hno
    by_cases hlt : n < l.length
    · obtain ⟨g, y, rfl, hy, hg, c0, c1, c2, c3⟩ := kitem_cells (own_below (unhide HO) hb) n hlt
      have HY := hide hy
      clear hy
      have hmt := fun w => meets_any k y.1 x y.2 w
      unfold kitemV at hmt
      cases hp : pmet x y.2 with
      | true =>
        have hr : Hid ((l.any fun o => pmet x o.2) = true) := hide (by rw [List.any_eq_true]; exact ⟨y, List.mem_of_getElem? (unhide HY), hp⟩)
        rw [hp] at hmt
        have HM := hide hmt
        clear hmt hp
        unfold kitemV
        go_wp2_with (go_at_call 90; refine (unhide HM _).mono ?_; rintro e w2 ⟨rfl, hb2⟩)
        go_ret
        exact ⟨n, rfl, by rw [unhide hr]; simp, hb.trans (hb2.mono hb.size)⟩
      | false =>
        have hr := hide (any_take_succ (p := fun o : KItem => pmet x o.2) (unhide HY) (unhide HNO) hp)
        rw [hp] at hmt
        have HM := hide hmt
        clear hmt hp
        unfold kitemV
        go_wp2_with (go_at_call 90; refine (unhide HM _).mono ?_; rintro e w2 ⟨rfl, hb2⟩)
        go_roundw
        case rel => first | exact ⟨n + 1, by omega, by go_num, hb.trans (hb2.mono hb.size), unhide hr⟩ | ((repeat apply Exists.intro); exact ⟨⟨n + 1, by omega, by go_num, hb.trans (hb2.mono hb.size), unhide hr⟩, rfl⟩)
        case measure => simp [intOf]; omega
    · have hr : Hid ((l.any fun o => pmet x o.2) = false) := hide (by rw [← unhide HNO, List.take_of_length_le (by omega)])
      go_wp2
      go_ret
      exact ⟨-1, rfl, by rw [unhide hr]; rfl, hb⟩

set_option maxRecDepth 100000 in
set_option maxHeartbeats 400000 in
theorem containsFunc_any (k : Int) (x : Cu.Item) (l : List KItem) (a : Option Addr) (cap : Nat) (w : World) (hl : l.length ≤ 4294967296) (ho : w.ownsRow 0 85 4 (.slice a l.length cap) l.length (kitemCells l)) :
    Calls Tryz.prog 89 #[.slice a l.length cap, meetsV k x] w fun e w' => e = .returned (.bool (l.any fun o => pmet x o.2)) ∧ Below w.heap.size w w' := by
  have HI := hide (indexFunc_any k x l a cap w hl ho)
  unfold meetsV at HI ⊢
  clear ho
  go_enter Tryz.func89, Tryz.ntmps89
  go_wp2_with fail
  refine (unhide HI).mono ?_
  rintro e w2 ⟨r, rfl, hr, hb2⟩
  have HR := hide hr
  clear hr
  go_wp2
  go_ret
  exact ⟨ret_bool (unhide HR).symm, hb2⟩
end Go.Proofs.YtkinfleecfddlaaGreatDoor
