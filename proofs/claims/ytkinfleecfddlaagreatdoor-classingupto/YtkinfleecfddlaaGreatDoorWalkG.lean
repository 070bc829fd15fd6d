/- Walks: the reference's named, unnamed, meet, twice. -/
import Derived.Test.YtkinfleecfddlaaGreatDoorLines
import Derived.Test.YtkinfleecfddlaaGreatDoorPlainA
import Derived.BigQuiet
import Derived.Deep.QuietTactic
namespace Go.Proofs.YtkinfleecfddlaaGreatDoor
open Go.RowKit

theorem linesCells_get (L : List (Cu.Ln × Refs)) (i j : Nat) (hi : i < L.length) (hj : j < 6) : (linesCells L)[i * 6 + j]? = (lnCells L[i].1 L[i].2)[j]? := by
  induction L generalizing i with
  | nil => simp at hi
  | cons y L ih =>
    have hl : (lnCells y.1 y.2).length = 6 := rfl
    cases i with
    | zero => simp only [linesCells, Nat.zero_mul, Nat.zero_add]; rw [List.getElem?_append_left (by omega)]; rfl
    | succ i =>
      simp only [linesCells]
      rw [List.getElem?_append_right (by omega), hl, show (i + 1) * 6 + j - 6 = i * 6 + j by omega, ih i (by simpa using hi)]
      rfl
/-- The cells of line i. -/
theorem line_cells {w : World} {base cap : Nat} {L : List (Cu.Ln × Refs)} {a : Option Addr} (ho : w.ownsRow base 93 6 (.slice a L.length cap) L.length (linesCells L)) (i : Nat) (hi : i < L.length) :
    ∃ g x r, a = some ⟨g, 0, none⟩ ∧ L[i]? = some (x, r) ∧ (L.map Prod.fst)[i]? = some x ∧ (x, r) ∈ L ∧
      w.cell? ⟨g, i * 6, none⟩ = some (.int .u8 x.name) ∧ w.cell? ⟨g, i * 6 + 1, none⟩ = some (.slice r.aI x.items.length r.cI) ∧ w.cell? ⟨g, i * 6 + 2, none⟩ = some (.int .u8 x.op) ∧
      w.cell? ⟨g, i * 6 + 3, none⟩ = some (.slice r.aL x.left.length r.cL) ∧ w.cell? ⟨g, i * 6 + 4, none⟩ = some (.slice r.aR x.right.length r.cR) ∧ w.cell? ⟨g, i * 6 + 5, none⟩ = some (.int .i64 x.at_) := by
  rcases ho.2 with ⟨_, h2⟩ | ⟨g, cap', cur, hv, _, _, h3, h4, _⟩
  · omega
  · simp only [Value.slice.injEq, true_and] at hv
    obtain ⟨rfl, rfl⟩ := hv
    have hc : ∀ j, j < 6 → w.cell? ⟨g, i * 6 + j, none⟩ = (lnCells L[i].1 L[i].2)[j]? := fun j hj => by
      rw [ho.cellAt (i * 6 + j) (by omega), linesCells_get L i j hi hj]
    exact ⟨g, L[i].1, L[i].2, rfl, by simp [hi], by simp [hi], List.getElem_mem _, hc 0 (by omega), hc 1 (by omega), hc 2 (by omega), hc 3 (by omega), hc 4 (by omega), hc 5 (by omega)⟩

set_option maxRecDepth 100000 in
set_option maxHeartbeats 400000 in
theorem named_any (L : List (Cu.Ln × Refs)) (a : Option Addr) (cap base : Nat) (n : Int) (c : Nat) (w : World) (ho : w.ownsRow base 93 6 (.slice a L.length cap) L.length (linesCells L)) (hn0 : 0 ≤ n) (hn : n ≤ L.length) (hL : L.length ≤ 12) :
    Calls Tryz.prog 43 #[.slice a L.length cap, .int .i64 n, .int .u8 c] w fun e w' => e = .returned (.bool (Cu.named (L.map Prod.fst) n.toNat c)) ∧ w = w' := by
  obtain ⟨n, rfl⟩ := Int.eq_ofNat_of_zero_le hn0
  rw [Int.toNat_natCast]
  go_enter Tryz.func43, Tryz.ntmps43
  go_wp2
  go_loop [7] (fun x => ∃ k : Nat, k ≤ n ∧ x = .int .i64 k ∧ Cu.named (L.map Prod.fst) k c = false) (fun x => 13 - (intOf x).toNat)
  case atStart => exact ⟨0, by omega, rfl, rfl⟩
  case round =>
    obtain ⟨k, hk, rfl, hno⟩ := hrel
    have HN := hide hno
    clear hno
    by_cases hlt : k < n
    · obtain ⟨g, x, r, rfl, h1, h2, h3, c0, -⟩ := line_cells ho k (by omega)
      have HS := hide (Cu.named_succ (c := c) h2)
      have HT := hide (Cu.named_true (c := c) (n := n) h2 hlt)
      clear ho h1 h2 h3
      cases hx : (x.name == c) with
      | true =>
        have hx2 : ((x.name : Int) == (c : Int)) = true := by rw [beq_iff_eq] at hx ⊢; omega
        have HX := hide hx
        clear hx
        go_wp2
        go_ret
        exact ⟨ret_bool ((unhide HT) (unhide HX)).symm, rfl⟩
      | false =>
        have hx2 : ((x.name : Int) == (c : Int)) = false := by rw [beq_eq_false_iff_ne] at hx ⊢; omega
        have HX := hide hx
        clear hx
        go_wp2
        go_round
        case rel => exact ⟨k + 1, by omega, by go_num, by rw [unhide HS, unhide HN, unhide HX]; rfl⟩
        case measure => simp [intOf]; omega
    · go_wp2
      go_ret
      exact ⟨ret_bool (by rw [show n = k by omega, unhide HN]), rfl⟩

theorem atomCells_length (l : List Cu.Atom) : (atomCells l).length = l.length * 3 := by
  induction l with
  | nil => rfl
  | cons y l ih => simp [atomCells, ih]; omega
theorem atomCells_get (l : List Cu.Atom) (i j : Nat) (hi : i < l.length) (hj : j < 3) : (atomCells l)[i * 3 + j]? = ([.int .u8 l[i].1, .int .u8 l[i].2.1, .int .i64 l[i].2.2] : List Value)[j]? := by
  induction l generalizing i with
  | nil => simp at hi
  | cons y l ih =>
    cases i with
    | zero => simp only [atomCells, Nat.zero_mul, Nat.zero_add]; rw [List.getElem?_append_left (by simpa using hj)]; rfl
    | succ i =>
      simp only [atomCells]
      rw [List.getElem?_append_right (by simp; omega), show (i + 1) * 3 + j - ([.int .u8 y.1, .int .u8 y.2.1, .int .i64 y.2.2] : List Value).length = i * 3 + j by simp; omega, ih i (by simpa using hi)]
      rfl
theorem atom_cells {w : World} {base cap : Nat} {l : List Cu.Atom} {a : Option Addr} (ho : w.ownsRow base 163 3 (.slice a l.length cap) l.length (atomCells l)) (i : Nat) (hi : i < l.length) :
    ∃ g x, a = some ⟨g, 0, none⟩ ∧ l[i]? = some x ∧ w.cell? ⟨g, i * 3, none⟩ = some (.int .u8 x.1) ∧ w.cell? ⟨g, i * 3 + 1, none⟩ = some (.int .u8 x.2.1) ∧ w.cell? ⟨g, i * 3 + 2, none⟩ = some (.int .i64 x.2.2) := by
  rcases ho.2 with ⟨_, h2⟩ | ⟨g, cap', cur, hv, _, _, h3, h4, _⟩
  · omega
  · simp only [Value.slice.injEq, true_and] at hv
    obtain ⟨rfl, rfl⟩ := hv
    have hc : ∀ j, j < 3 → w.cell? ⟨g, i * 3 + j, none⟩ = ([.int .u8 l[i].1, .int .u8 l[i].2.1, .int .i64 l[i].2.2] : List Value)[j]? := fun j hj => by
      rw [ho.cellAt (i * 3 + j) (by omega), atomCells_get l i j hi hj]
    exact ⟨g, l[i], rfl, by simp [hi], hc 0 (by omega), hc 1 (by omega), hc 2 (by omega)⟩
theorem itemCells_get (l : List Cu.Item) (i j : Nat) (hi : i < l.length) (hj : j < 3) : (itemCells l)[i * 3 + j]? = ([.int .i64 l[i].1, .int .i64 l[i].2.1, .int .i64 l[i].2.2] : List Value)[j]? := by
  induction l generalizing i with
  | nil => simp at hi
  | cons y l ih =>
    cases i with
    | zero => simp only [itemCells, Nat.zero_mul, Nat.zero_add]; rw [List.getElem?_append_left (by simpa using hj)]; rfl
    | succ i =>
      simp only [itemCells]
      rw [List.getElem?_append_right (by simp; omega), show (i + 1) * 3 + j - ([.int .i64 y.1, .int .i64 y.2.1, .int .i64 y.2.2] : List Value).length = i * 3 + j by simp; omega, ih i (by simpa using hi)]
      rfl
theorem item_cells {w : World} {base cap : Nat} {l : List Cu.Item} {a : Option Addr} (ho : w.ownsRow base 100 3 (.slice a l.length cap) l.length (itemCells l)) (i : Nat) (hi : i < l.length) :
    ∃ g x, a = some ⟨g, 0, none⟩ ∧ l[i]? = some x ∧ w.cell? ⟨g, i * 3, none⟩ = some (.int .i64 x.1) ∧ w.cell? ⟨g, i * 3 + 1, none⟩ = some (.int .i64 x.2.1) ∧ w.cell? ⟨g, i * 3 + 2, none⟩ = some (.int .i64 x.2.2) := by
  rcases ho.2 with ⟨_, h2⟩ | ⟨g, cap', cur, hv, _, _, h3, h4, _⟩
  · omega
  · simp only [Value.slice.injEq, true_and] at hv
    obtain ⟨rfl, rfl⟩ := hv
    have hc : ∀ j, j < 3 → w.cell? ⟨g, i * 3 + j, none⟩ = ([.int .i64 l[i].1, .int .i64 l[i].2.1, .int .i64 l[i].2.2] : List Value)[j]? := fun j hj => by
      rw [ho.cellAt (i * 3 + j) (by omega), itemCells_get l i j hi hj]
    exact ⟨g, l[i], rfl, by simp [hi], hc 0 (by omega), hc 1 (by omega), hc 2 (by omega)⟩

/-- The place that unnamed hands back. -/
def placeOf (o : Option Nat) : Int := match o with
  | some p => (p : Int)
  | none => -1

set_option maxRecDepth 100000 in
set_option maxHeartbeats 400000 in
theorem unnamed_any (L : List (Cu.Ln × Refs)) (a : Option Addr) (cap base : Nat) (n : Int) (l : List Cu.Atom) (al : Option Addr) (capl basel : Nat) (w : World) (ho : w.ownsRow base 93 6 (.slice a L.length cap) L.length (linesCells L)) (hn0 : 0 ≤ n) (hn : n ≤ L.length) (hL : L.length ≤ 12)
    (hl : w.ownsRow basel 163 3 (.slice al l.length capl) l.length (atomCells l)) (hll : l.length ≤ 4) (hby : ∀ y ∈ l, y.1 < 256) :
    Calls Tryz.prog 45 #[.slice a L.length cap, .int .i64 n, .slice al l.length capl] w fun e w' => e = .returned (.int .i64 (placeOf (Cu.unnamed (L.map Prod.fst) n.toNat l))) ∧ w = w' := by
  obtain ⟨n, rfl⟩ := Int.eq_ofNat_of_zero_le hn0
  rw [Int.toNat_natCast]
  have HO := hide ho
  clear ho
  go_enter Tryz.func45, Tryz.ntmps45
  go_wp2
  go_loop [7] (fun x => ∃ k : Nat, k ≤ l.length ∧ x = .int .i64 k ∧ (l.take k).find? (fun x => Cu.isName x.1 && !Cu.named (L.map Prod.fst) n x.1) = none) (fun x => 5 - (intOf x).toNat)
  case atStart => exact ⟨0, by omega, rfl, rfl⟩
  case round =>
    obtain ⟨k, hk, rfl, hno⟩ := hrel
    have HN := hide hno
    clear hno
    by_cases hlt : k < l.length
    · obtain ⟨g, x, rfl, h1, c0, c1, c2⟩ := atom_cells hl k hlt
      have hxb : x.1 < 256 := hby x (List.mem_of_getElem? h1)
      have HS := hide (Cu.find_none_succ h1 (unhide HN))
      have HF := hide (Cu.find_some_at h1 (unhide HN))
      clear hl h1 hby
      cases hx : Cu.isName x.1 with
      | false =>
        have hs := hide ((unhide HS) (by rw [hx]; rfl))
        go_wp2_with (first | (go_at_call 40; refine (isName_nat _ _ hxb).mono ?_; rintro e w' ⟨rfl, rfl⟩))
        go_round
        case rel => exact ⟨k + 1, by omega, by go_num, unhide hs⟩
        case measure => simp [intOf]; omega
      | true =>
        cases hx2 : Cu.named (L.map Prod.fst) n x.1 with
        | true =>
          have hs := hide ((unhide HS) (by rw [hx, hx2]; rfl))
          have HX2 := hide hx2
          clear hx2
          go_wp2_with (first | (go_at_call 40; refine (isName_nat _ _ hxb).mono ?_; rintro e w' ⟨rfl, rfl⟩) | (go_at_call 43; refine (named_any L a cap base _ _ _ (unhide HO) (by omega) (by omega) hL).mono ?_; rintro e w' ⟨rfl, rfl⟩; rw [Int.toNat_natCast, unhide HX2]))
          go_round
          case rel => exact ⟨k + 1, by omega, by go_num, unhide hs⟩
          case measure => simp [intOf]; omega
        | false =>
          have hs := hide ((unhide HF) (by rw [hx, hx2]; rfl))
          have HX2 := hide hx2
          clear hx2
          go_wp2_with (first | (go_at_call 40; refine (isName_nat _ _ hxb).mono ?_; rintro e w' ⟨rfl, rfl⟩) | (go_at_call 43; refine (named_any L a cap base _ _ _ (unhide HO) (by omega) (by omega) hL).mono ?_; rintro e w' ⟨rfl, rfl⟩; rw [Int.toNat_natCast, unhide HX2]))
          go_ret
          exact ⟨ret_int (by unfold Cu.unnamed; rw [unhide hs]; rfl), rfl⟩
    · go_wp2
      go_ret
      exact ⟨ret_int (by have h := unhide HN; rw [List.take_of_length_le (by omega)] at h; unfold Cu.unnamed; rw [h]; rfl), rfl⟩
end Go.Proofs.YtkinfleecfddlaaGreatDoor
