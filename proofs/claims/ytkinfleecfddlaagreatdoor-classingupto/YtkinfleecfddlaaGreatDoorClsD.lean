/- The program's symbol of a character. -/
import Derived.Test.YtkinfleecfddlaaGreatDoorBookF
import Derived.Test.YtkinfleecfddlaaGreatDoorClsB
namespace Go.Proofs.YtkinfleecfddlaaGreatDoor
open Go.RowKit

set_option maxRecDepth 100000 in
set_option maxHeartbeats 1000000 in
theorem symcmp_any (x : KItem) (c : Nat) (W : World) : Calls Tryz.prog 75 #[.agg #[.int .i32 x.2.1, .int .i32 x.2.2.1, .int .i64 x.1, .int .i64 x.2.2.2], .int .i32 c] W fun e w' => e = .returned (.int .i64 (Lib.compareInt x.2.2.1 c)) ∧ Below W.heap.size W w' := by
  have hcon := fun W' => compare_rune (x.2.2.1 : Int) (c : Int) W'
  generalize Lib.compareInt (x.2.2.1 : Int) (c : Int) = r at hcon ⊢
  go_enter Tryz.func75, Tryz.ntmps75
  go_wp2_with (go_at_call 38; refine (hcon _).mono ?_; rintro e w' ⟨rfl, rfl⟩)
  go_ret
  exact ⟨rfl, (Below.refl _ _).alloc (Nat.le_refl _) _⟩
theorem compare_neg {a b : Int} (h : a < b) : Lib.compareInt a b = -1 := by unfold Lib.compareInt; rw [if_pos h]
theorem compare_pos {a b : Int} (h : ¬ a < b) : 0 ≤ Lib.compareInt a b := by
  unfold Lib.compareInt; rw [if_neg h]; split <;> decide

/-- Where the items that end ahead of c end. -/
def Parted (its : List KItem) (c i : Nat) : Prop := (∀ k x, k < i → its[k]? = some x → x.2.2.1 < c) ∧ (∀ k x, i ≤ k → its[k]? = some x → c ≤ x.2.2.1)
def Lasts (its : List KItem) : Prop := its.Pairwise fun x y => x.2.2.1 < y.2.2.1
theorem lasts_le {its : List KItem} (h : Lasts its) {i j : Nat} {x y : KItem} (hx : its[i]? = some x) (hy : its[j]? = some y) (hij : i ≤ j) : x.2.2.1 ≤ y.2.2.1 := by
  rcases Nat.eq_or_lt_of_le hij with rfl | hlt
  · rw [hx] at hy; simp at hy; subst hy; exact Nat.le_refl _
  · obtain ⟨hi, rfl⟩ := List.getElem?_eq_some_iff.1 hx
    obtain ⟨hj, rfl⟩ := List.getElem?_eq_some_iff.1 hy
    exact Nat.le_of_lt ((List.pairwise_iff_getElem.1 h) i j hi hj hlt)

def BsRel (its : List KItem) (c : Nat) (w : World) (v x : Value) (wr : World) : Prop :=
  ∃ lo hi : Nat, v = .int .i64 lo ∧ x = .int .i64 hi ∧ lo ≤ hi ∧ hi ≤ its.length ∧ Below w.heap.size w wr ∧ (∀ k x, k < lo → its[k]? = some x → x.2.2.1 < c) ∧ (∀ k x, hi ≤ k → its[k]? = some x → c ≤ x.2.2.1)

set_option maxRecDepth 100000 in
set_option maxHeartbeats 1000000 in
theorem bsearch_any (its : List KItem) (a : Option Addr) (cap base c : Nat) (w : World) (ho : w.ownsRow base 85 4 (.slice a its.length cap) its.length (kitemCells its)) (hlen : its.length ≤ 2400) (hL : Lasts its) :
    Calls Tryz.prog 74 #[.slice a its.length cap, .int .i32 c, .func (.func 75) #[] #[]] w fun e w' => ∃ (i : Nat) (b : Bool), e = .returned (.tuple #[.int .i64 i, .bool b]) ∧ i ≤ its.length ∧ Parted its c i ∧ Below w.heap.size w w' := by
  have HO := hide ho
  have HL := hide hL
  clear ho hL
  go_enter Tryz.func74, Tryz.ntmps74
  go_wp2
  go_loopw [9, 10] (fun v x wr => BsRel its c w v x wr) (fun v x _ => (intOf x).toNat - (intOf v).toNat)
  case atStart =>
    go_light
    exact ⟨0, its.length, rfl, rfl, Nat.zero_le _, Nat.le_refl _, Below.refl _ _, fun k x hk => by omega, fun k x hk hx => by have := (List.getElem?_eq_some_iff.1 hx).1; omega⟩
  case round =>
    obtain ⟨lo, hi, rfl, rfl, hlh, hhn, hb, hA, hZ⟩ := hrel
    have HA := hide hA
    have HZ := hide hZ
    clear hA hZ
    by_cases hlt : lo < hi
    · obtain ⟨m, hm⟩ : ∃ m : Nat, ((lo : Int) + (hi : Int)) / 2 = (m : Int) := ⟨(lo + hi) / 2, by omega⟩
      have hm1 : lo ≤ m := by omega
      have hm2 : m < hi := by omega
      obtain ⟨g, x, rfl, hx, hg, c0, c1, c2, c3⟩ := kitem_cells (own_below (unhide HO) hb) m (by omega)
      have HX := hide hx
      have HC := hide (fun W => symcmp_any x c W)
      clear hx
      by_cases hcm : x.2.2.1 < c
      · have hneg := compare_neg (show (x.2.2.1 : Int) < (c : Int) by omega)
        have hrel2 : Hid (∀ w', Below wr.heap.size wr w' → BsRel its c w (.int .i64 ((m : Int) + 1)) (.int .i64 hi) w') := hide (fun w' hw' => ⟨m + 1, hi, by go_num, rfl, by omega, hhn, hb.trans (hw'.mono hb.size), fun k y hk hy => Nat.lt_of_le_of_lt (lasts_le (unhide HL) hy (unhide HX) (by omega)) hcm, unhide HZ⟩)
        clear hcm
        go_wp2_with (go_at_call 75; refine (unhide HC _).mono ?_; rintro e w1 ⟨rfl, hb1⟩; have HB1 := hide hb1; clear hb1; rw [hneg])
        go_roundw
        case rel => first | exact unhide hrel2 _ (unhide HB1) | ((repeat apply Exists.intro); exact ⟨unhide hrel2 _ (unhide HB1), rfl⟩)
        case measure => simp [intOf]; omega
      · have hpos := compare_pos (show ¬ (x.2.2.1 : Int) < (c : Int) by omega)
        generalize hr : Lib.compareInt (x.2.2.1 : Int) (c : Int) = r at hpos HC
        have hrel2 : Hid (∀ w', Below wr.heap.size wr w' → BsRel its c w (.int .i64 lo) (.int .i64 m) w') := hide (fun w' hw' => ⟨lo, m, rfl, rfl, hm1, by omega, hb.trans (hw'.mono hb.size), unhide HA, fun k y hk hy => by have := lasts_le (unhide HL) (unhide HX) hy hk; omega⟩)
        have hd : decide (r < 0) = false := by rw [decide_eq_false_iff_not]; omega
        clear hcm hpos hr
        go_wp2_with (go_at_call 75; refine (unhide HC _).mono ?_; rintro e w1 ⟨rfl, hb1⟩; have HB1 := hide hb1; clear hb1)
        go_roundw
        case rel => first | exact unhide hrel2 _ (unhide HB1) | ((repeat apply Exists.intro); exact ⟨unhide hrel2 _ (unhide HB1), rfl⟩)
        case measure => simp [intOf]; omega
    · obtain rfl : hi = lo := by omega
      have hfin : Hid (∀ (b : Bool) w', Below w.heap.size w w' → ∃ (i : Nat) (b' : Bool), Ending.returned (.tuple #[.int .i64 hi, .bool b]) = .returned (.tuple #[.int .i64 i, .bool b']) ∧ i ≤ its.length ∧ Parted its c i ∧ Below w.heap.size w w') := hide (fun b w' hw' => ⟨hi, b, rfl, hhn, ⟨unhide HA, unhide HZ⟩, hw'⟩)
      by_cases hn : hi < its.length
      · obtain ⟨g, x, rfl, hx, hg, c0, c1, c2, c3⟩ := kitem_cells (own_below (unhide HO) hb) hi hn
        have HC := hide (fun W => symcmp_any x c W)
        generalize hr : Lib.compareInt (x.2.2.1 : Int) (c : Int) = r at HC
        clear hx hr
        go_wp2_with (go_at_call 75; refine (unhide HC _).mono ?_; rintro e w1 ⟨rfl, hb1⟩; have HB1 := hide (hb.trans (hb1.mono hb.size)); clear hb1)
        go_ret2
        exact unhide hfin _ _ (unhide HB1)
      · go_wp2
        go_ret2
        exact unhide hfin _ _ hb
end Go.Proofs.YtkinfleecfddlaaGreatDoor
