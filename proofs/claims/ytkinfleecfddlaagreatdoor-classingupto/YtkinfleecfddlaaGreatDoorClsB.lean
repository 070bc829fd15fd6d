/- The reference's class of a character. -/
import Derived.Test.YtkinfleecfddlaaGreatDoorClsA
import Derived.Test.YtkinfleecfddlaaGreatDoorBookC
namespace Go.Proofs.YtkinfleecfddlaaGreatDoor
open Go.RowKit
namespace Cu
def hit (c : Int) (y : Item) : Bool := decide ((y.1 : Int) ≤ c ∧ c ≤ (y.2.1 : Int))
def hitLn (c : Int) (x : Ln) : Bool := x.items.any (hit c)
/-- The letter of a character's class. -/
def classOf (l : List Ln) (c : Int) : Nat := ((l.find? (hitLn c)).map fun x => x.name).getD 95
theorem classOf_none {l : List Ln} {c : Int} (h : l.find? (hitLn c) = none) : classOf l c = 95 := by unfold classOf; rw [h]; rfl
theorem classOf_some {l : List Ln} {c : Int} {x : Ln} (h : l.find? (hitLn c) = some x) : classOf l c = x.name := by unfold classOf; rw [h]; rfl
end Cu

set_option maxRecDepth 100000 in
set_option maxHeartbeats 1000000 in
theorem classOf_any (L : List (Cu.Ln × Refs)) (a : Option Addr) (cap base : Nat) (x : Cu.Chr) (w : World) (ho : w.ownsRow base 93 6 (.slice a L.length cap) L.length (linesCells L)) (hlo : LinesOwn w base L) (hL : L.length ≤ 12) (hI : ∀ y ∈ L, y.1.items.length ≤ 200) :
    Calls Tryz.prog 51 #[.slice a L.length cap, .agg #[.int .i64 x.1, .int .i64 x.2.1, .int .i64 x.2.2]] w fun e w' => e = .returned (.int .u8 (Cu.classOf (L.map Prod.fst) x.2.2)) ∧ Below w.heap.size w w' := by
  obtain ⟨at_, n_, c⟩ := x
  simp only
  have hrowlt : ∀ wr, Below w.heap.size w wr → wr.ownsRow base 93 6 (.slice a L.length cap) L.length (linesCells L) ∧ LinesOwn wr base L := fun wr hb => ⟨own_below ho hb, hlo.below hb⟩
  have HROW := hide hrowlt
  clear hrowlt ho hlo
  go_enter Tryz.func51, Tryz.ntmps51
  go_wp2
  go_loopw [5] (fun v wr => ∃ m : Nat, m ≤ L.length ∧ v = .int .i64 m ∧ Below w.heap.size w wr ∧ Blk wr w.heap.size [.int .i64 at_, .int .i64 n_, .int .i64 c] 107 ∧ ((L.map Prod.fst).take m).find? (Cu.hitLn c) = none) (fun v _ => 14 - (intOf v).toNat)
  case atStart =>
    go_light
    exact ⟨0, by omega, rfl, (Below.refl _ _).alloc (Nat.le_refl _) _, Blk.new w _ _, by simp⟩
  case round =>
    obtain ⟨m, hm, rfl, hbel, hB, hno⟩ := hrel
    have HNO := hide hno
    clear hno
    by_cases hml : m < L.length
    · obtain ⟨ho1, hlo1⟩ := unhide HROW wr hbel
      obtain ⟨g, x2, r2, rfl, a1, a2, a3, c0, c1, c2, c3, c4, c5⟩ := line_cells ho1 m hml
      have hI3 : x2.items.length ≤ 200 := hI _ a3
      have A2 := hide a2
      clear ho1 hlo1 a1 a2 a3 c0 c1 c2 c3 c4 c5
      go_wp2
      go_loopw [6] (fun v w2 => ∃ q : Nat, q ≤ x2.items.length ∧ v = .int .i64 q ∧ Below w.heap.size w w2 ∧ Blk w2 w.heap.size [.int .i64 at_, .int .i64 n_, .int .i64 c] 107 ∧ (x2.items.take q).any (Cu.hit c) = false) (fun v _ => 201 - (intOf v).toNat)
      case atStart =>
        go_light
        exact ⟨0, by omega, rfl, hbel, hB, by simp⟩
      case round =>
        clear hB
        obtain ⟨q, hq, rfl, hbel2, hB2, hnh⟩ := hrel
        have HNH := hide hnh
        clear hnh
        obtain ⟨ho2, hlo2⟩ := unhide HROW _ hbel2
        obtain ⟨g', x3, r3, hg', a1, a2, a3, c0, c1, c2, c3, c4, c5⟩ := line_cells ho2 m hml
        obtain rfl : g = g' := by simpa using hg'
        obtain rfl : x3 = x2 := by have h := unhide A2; rw [a2] at h; simpa using h
        have hown3 := hlo2 _ a3
        obtain ⟨b0, b1, b2, b3⟩ := hB2.three
        have hBlt := hB2.lt
        clear ho2 hlo2 hg' c2 c3 c4 c5 a1 a2 a3
        by_cases hql : q < x3.items.length
        · obtain ⟨gz, z, haz, f3, z0, z1, z2⟩ := item_cells hown3.1 q hql
          simp only at haz
          rw [haz] at c1
          have F3 := hide f3
          clear hown3 f3 haz
          have hnext : Hid (Cu.hit c z = false → (x3.items.take (q + 1)).any (Cu.hit c) = false) := hide (fun h => any_take_succ (unhide F3) (unhide HNH) h)
          have hcond : ¬ (z.1 : Int) ≤ c ∨ ((z.1 : Int) ≤ c ∧ ¬ c ≤ (z.2.1 : Int)) ∨ ((z.1 : Int) ≤ c ∧ c ≤ (z.2.1 : Int)) := by omega
          rcases hcond with h1 | ⟨h1, h2⟩ | ⟨h1, h2⟩
          · have hr := hide (unhide hnext (by unfold Cu.hit; rw [decide_eq_false_iff_not]; omega))
            have d1 : decide ((z.1 : Int) ≤ c) = false := by rw [decide_eq_false_iff_not]; exact h1
            clear h1
            go_wp2
            go_quiet (fail)
            have hfin : Hid (∀ k, ∃ q' : Nat, q' ≤ x3.items.length ∧ Value.int .i64 ((q : Int) + 1) = .int .i64 q' ∧ Below w.heap.size w (wr.drewN k) ∧ Blk (wr.drewN k) w.heap.size [.int .i64 at_, .int .i64 n_, .int .i64 c] 107 ∧ (x3.items.take q').any (Cu.hit c) = false) := hide (fun k => ⟨q + 1, by omega, by go_num, below_drewN hbel2 k, hB2.drewN k, unhide hr⟩)
            go_wp2
            go_roundw
            case rel => first | exact unhide hfin _ | ((repeat apply Exists.intro); exact ⟨unhide hfin _, rfl⟩)
            case measure => simp [intOf]; omega
          · have hr := hide (unhide hnext (by unfold Cu.hit; rw [decide_eq_false_iff_not]; omega))
            have d1 : decide ((z.1 : Int) ≤ c) = true := by rw [decide_eq_true_eq]; exact h1
            have d2 : decide (c ≤ (z.2.1 : Int)) = false := by rw [decide_eq_false_iff_not]; exact h2
            clear h1 h2
            go_wp2
            go_quiet (fail)
            have hfin : Hid (∀ k, ∃ q' : Nat, q' ≤ x3.items.length ∧ Value.int .i64 ((q : Int) + 1) = .int .i64 q' ∧ Below w.heap.size w (wr.drewN k) ∧ Blk (wr.drewN k) w.heap.size [.int .i64 at_, .int .i64 n_, .int .i64 c] 107 ∧ (x3.items.take q').any (Cu.hit c) = false) := hide (fun k => ⟨q + 1, by omega, by go_num, below_drewN hbel2 k, hB2.drewN k, unhide hr⟩)
            go_wp2
            go_roundw
            case rel => first | exact unhide hfin _ | ((repeat apply Exists.intro); exact ⟨unhide hfin _, rfl⟩)
            case measure => simp [intOf]; omega
          · have hr : Hid (Cu.classOf (L.map Prod.fst) c = x3.name) := hide (Cu.classOf_some (Cu.find_some_at (unhide A2) (unhide HNO) (by unfold Cu.hitLn; rw [List.any_eq_true]; exact ⟨z, List.mem_of_getElem? (unhide F3), by unfold Cu.hit; rw [decide_eq_true_eq]; exact ⟨h1, h2⟩⟩)))
            have d1 : decide ((z.1 : Int) ≤ c) = true := by rw [decide_eq_true_eq]; exact h1
            have d2 : decide (c ≤ (z.2.1 : Int)) = true := by rw [decide_eq_true_eq]; exact h2
            clear h1 h2
            go_wp2
            go_quiet (fail)
            go_wp2
            go_ret
            exact ⟨by rw [unhide hr]; rfl, below_drewN hbel2 _⟩
        · have hr : Hid (((L.map Prod.fst).take (m + 1)).find? (Cu.hitLn c) = none) := hide (Cu.find_none_succ (unhide A2) (unhide HNO) (by unfold Cu.hitLn; rw [← unhide HNH, List.take_of_length_le (by omega)]))
          go_wp2
          go_roundw
          case rel => first | exact ⟨m + 1, by omega, by go_num, hbel2, hB2, unhide hr⟩ | ((repeat apply Exists.intro); exact ⟨⟨m + 1, by omega, by go_num, hbel2, hB2, unhide hr⟩, rfl⟩)
          case measure => simp [intOf]; omega
    · have hr : Hid (Cu.classOf (L.map Prod.fst) c = 95) := hide (Cu.classOf_none (by rw [← unhide HNO, List.take_of_length_le (by simp; omega)]))
      go_wp2
      go_ret
      exact ⟨by rw [unhide hr]; rfl, hbel⟩
end Go.Proofs.YtkinfleecfddlaaGreatDoor
