/- Walks: the reference's meet and twice. -/
import Derived.Test.YtbppbejigedioabGreatDoorRefB
import Derived.Deep.DeepCutAuto
import Derived.Deep.CutBlock
namespace Go.Proofs.YtbppbejigedioabGreatDoor
open Go.RowKit

set_option maxRecDepth 100000 in
set_option maxHeartbeats 400000 in
theorem meet_any (x y : Cu.Item) (w : World) :
    Calls Tryz.prog 134 #[.agg #[.int .i64 x.1, .int .i64 x.2.1, .int .i64 x.2.2], .agg #[.int .i64 y.1, .int .i64 y.2.1, .int .i64 y.2.2]] w fun e w' => e = .returned (.bool (Cu.meet x y)) ∧ Below w.heap.size w w' := by
  obtain ⟨x0, x1, x2⟩ := x
  obtain ⟨y0, y1, y2⟩ := y
  have hm := hide (show Cu.meet (x0, x1, x2) (y0, y1, y2) = decide (x0 ≤ y1 ∧ y0 ≤ x1 ∧ x0 ≤ x1 ∧ y0 ≤ y1) from rfl)
  simp only
  go_enter Tryz.func134, Tryz.ntmps134
  go_wp2
  all_goals go_ret
  all_goals go_light
  all_goals refine ⟨ret_bool ?_, ((Below.refl _ _).alloc (Nat.le_refl _) _).alloc (by simp) _⟩
  all_goals
    rw [unhide hm, Bool.eq_iff_iff]
    simp only [decide_eq_true_eq, Bool.false_eq_true, false_iff]
    try omega

/-- No item so far has a character in common with x. -/
def NoMeet (l : List Cu.Item) (x : Cu.Item) : Prop := ∀ y ∈ l, Cu.meet y x = false

def TwRel (l : List Cu.Ln) (n k : Nat) (y : Cu.Item) (m : Nat) : Prop :=
  if m ≤ n then NoMeet ((l.take m).flatMap fun x => x.items) y else NoMeet (Cu.ahead l n k) y
theorem noMeet_append {a b : List Cu.Item} {y : Cu.Item} (h1 : NoMeet a y) (h2 : NoMeet b y) : NoMeet (a ++ b) y := by
  intro z hz
  rcases List.mem_append.1 hz with h | h
  · exact h1 z h
  · exact h2 z h
theorem tw_lt {l : List Cu.Ln} {n k m : Nat} {y : Cu.Item} {x : Cu.Ln} (hm : m < n) (hx : l[m]? = some x) (h1 : NoMeet ((l.take m).flatMap fun x => x.items) y) (h2 : NoMeet x.items y) : TwRel l n k y (m + 1) := by
  unfold TwRel
  rw [if_pos (by omega), List.take_add_one, hx]
  simpa using noMeet_append h1 h2
theorem tw_eq {l : List Cu.Ln} {n k : Nat} {y : Cu.Item} {x : Cu.Ln} (hx : l[n]? = some x) (h1 : NoMeet ((l.take n).flatMap fun x => x.items) y) (h2 : NoMeet (x.items.take k) y) : TwRel l n k y (n + 1) := by
  unfold TwRel
  rw [if_neg (by omega)]
  unfold Cu.ahead
  rw [hx]
  exact noMeet_append h1 h2
theorem tw_false {l : List Cu.Ln} {n k : Nat} {y : Cu.Item} {x : Cu.Ln} (hx : l[n]? = some x) (hy : x.items[k]? = some y) (h : NoMeet (Cu.ahead l n k) y) : Cu.twice l n k = false := by
  unfold Cu.twice
  rw [hx]
  simp only [Option.map_some, Option.getD_some, hy]
  rw [List.any_eq_false]
  intro z hz
  rw [h z hz]; decide
theorem tw_true {l : List Cu.Ln} {n k m q : Nat} {y z : Cu.Item} {x x2 : Cu.Ln} (hx : l[n]? = some x) (hy : x.items[k]? = some y) (hm : l[m]? = some x2) (hz : x2.items[q]? = some z) (hlim : m < n ∨ (m = n ∧ q < k)) (h : Cu.meet z y = true) : Cu.twice l n k = true := by
  unfold Cu.twice
  rw [hx]
  simp only [Option.map_some, Option.getD_some, hy]
  rw [List.any_eq_true]
  refine ⟨z, ?_, h⟩
  unfold Cu.ahead
  rw [List.mem_append]
  rcases hlim with h1 | ⟨rfl, h1⟩
  · left
    rw [List.mem_flatMap]
    refine ⟨x2, ?_, List.mem_of_getElem? hz⟩
    rw [List.mem_iff_getElem?]
    exact ⟨m, by rw [List.getElem?_take_of_lt h1]; exact hm⟩
  · right
    rw [hm]
    rw [List.mem_iff_getElem?]
    exact ⟨q, by simp only [Option.map_some, Option.getD_some]; rw [List.getElem?_take_of_lt h1]; exact hz⟩
theorem noMeet_succ {l : List Cu.Item} {q : Nat} {y z : Cu.Item} (h1 : NoMeet (l.take q) y) (hz : l[q]? = some z) (h2 : Cu.meet z y = false) : NoMeet (l.take (q + 1)) y := by
  rw [List.take_add_one, hz]
  exact noMeet_append h1 (fun u hu => by simp at hu; subst hu; exact h2)

set_option maxRecDepth 100000 in
set_option maxHeartbeats 1000000 in
theorem twice_any (L : List (Cu.Ln × Refs)) (a : Option Addr) (cap base : Nat) (n k : Nat) (x : Cu.Ln) (r : Refs) (w : World) (ho : w.ownsRow base 162 6 (.slice a L.length cap) L.length (linesCells L)) (hlo : LinesOwn w base L) (hL : L.length ≤ 12)
    (hI : ∀ y ∈ L, y.1.items.length ≤ 200) (hn : L[n]? = some (x, r)) (hk : k < x.items.length) :
    Calls Tryz.prog 93 #[.slice a L.length cap, .int .i64 n, .int .i64 k] w fun e w' => e = .returned (.bool (Cu.twice (L.map Prod.fst) n k)) ∧ Below w.heap.size w w' := by
  have hnl : n < L.length := (List.getElem?_eq_some_iff.1 hn).1
  obtain ⟨g, x', r', rfl, e1, e2, e3, c0, c1, c2, c3, c4, c5⟩ := line_cells ho n hnl
  obtain ⟨rfl, rfl⟩ : x' = x ∧ r' = r := by rw [hn] at e1; simpa [eq_comm] using e1
  have hown := hlo _ e3
  obtain ⟨gi, y, hai, f1, d0, d1, d2⟩ := item_cells hown.1 k hk
  simp only at hai
  rw [hai] at c1
  have hIx := hI _ e3
  simp only at hIx
  go_enter Tryz.func93, Tryz.ntmps93
  have hnl2 : n < 12 := by omega
  have f1' : x'.items[k]? = some y := f1
  have hrowlt : ∀ wr, Below w.heap.size w wr → wr.ownsRow base 162 6 (.slice (some ⟨g, 0, none⟩) L.length cap) L.length (linesCells L) ∧ LinesOwn wr base L := fun wr hb => ⟨own_below ho hb, hlo.below hb⟩
  have HROW := hide hrowlt
  have HTF := hide (tw_false e2 f1')
  have HTT := hide (fun m q z x2 => tw_true (m := m) (q := q) (z := z) (x2 := x2) e2 f1')
  have HE := hide (tw_eq (k := k) (y := y) e2)
  clear hrowlt ho hlo
  go_wp2
  go_loopw [8] (fun v wr => ∃ m : Nat, m ≤ n + 1 ∧ v = .int .i64 m ∧ Below w.heap.size w wr ∧ Blk wr w.heap.size [.int .i64 y.1, .int .i64 y.2.1, .int .i64 y.2.2] 207 ∧ TwRel (L.map Prod.fst) n k y m) (fun v _ => 14 - (intOf v).toNat)
  case atStart =>
    go_light
    exact ⟨0, by omega, rfl, (Below.refl _ _).alloc (Nat.le_refl _) _, Blk.new w _ _, by unfold TwRel; rw [if_pos (by omega)]; intro z hz; simp at hz⟩
  case round =>
    obtain ⟨m, hm, rfl, hbel, hB, htw⟩ := hrel
    have HW := hide htw
    clear htw c0 c1 c2 c3 c4 c5 d0 d1 d2
    by_cases hmn : m ≤ n
    · obtain ⟨ho1, hlo1⟩ := unhide HROW wr hbel
      obtain ⟨g', x2, r2, hg', a1, a2, a3, c0, c1, c2, c3, c4, c5⟩ := line_cells ho1 m (by omega)
      obtain rfl : g = g' := by simpa using hg'
      have hI2 := hide (hI _ a3)
      have hI3 : x2.items.length ≤ 200 := hI _ a3
      have hWn : Hid (NoMeet (((L.map Prod.fst).take m).flatMap fun x => x.items) y) := hide (by have h := unhide HW; unfold TwRel at h; rwa [if_pos hmn] at h)
      have A2 := hide a2
      have A3 := hide a3
      clear ho1 hlo1 a1 a2 a3 hg' c0 c1 c2 c3 c4 c5
      go_wp2
      go_loopw [9] (fun v w2 => ∃ q : Nat, q ≤ x2.items.length ∧ (m = n → q ≤ k) ∧ v = .int .i64 q ∧ Below w.heap.size w w2 ∧ Blk w2 w.heap.size [.int .i64 y.1, .int .i64 y.2.1, .int .i64 y.2.2] 207 ∧ NoMeet (x2.items.take q) y) (fun v _ => 201 - (intOf v).toNat)
      case atStart =>
        go_light
        exact ⟨0, by omega, fun _ => by omega, rfl, hbel, hB, fun z hz => by simp at hz⟩
      case round =>
        clear hB
        obtain ⟨q, hq, hqk, rfl, hbel2, hB2, hnm⟩ := hrel
        have HNM := hide hnm
        clear hnm
        obtain ⟨ho2, hlo2⟩ := unhide HROW _ hbel2
        obtain ⟨g', x3, r3, hg', a1, a2, a3, c0, c1, c2, c3, c4, c5⟩ := line_cells ho2 m (by omega)
        obtain rfl : g = g' := by simpa using hg'
        obtain rfl : x3 = x2 := by have h := unhide A2; rw [a2] at h; simpa using h
        have hown3 := hlo2 _ a3
        obtain ⟨b0, b1, b2, b3⟩ := hB2.three
        have hBlt := hB2.lt
        clear ho2 hlo2 hg' c0 c2 c3 c4 c5 a1 a2 a3
        by_cases hent : q < x3.items.length ∧ (m < n ∨ q < k)
        · obtain ⟨hql, hlim⟩ := hent
          obtain ⟨gz, z, haz, f3, z0, z1, z2⟩ := item_cells hown3.1 q hql
          simp only at haz
          rw [haz] at c1
          have F3 := hide f3
          have HLIM := hide hlim
          clear hown3 f3 haz
          have hcond : m < n ∨ (¬ m < n ∧ q < k) := by omega
          clear hlim
          rcases hcond with h1 | ⟨h1, h2⟩
          all_goals
            go_upto_region 8 with fail
            go_cut [10] (fun b wc => b = .bool (Cu.meet z y) ∧ Below wr.heap.size wr wc)
            case first =>
              go_region_with (go_at_call 134; refine (meet_any z y _).mono ?_; rintro e w3 ⟨rfl, hb3⟩)
              all_goals
                go_wp2_with fail
                go_meet
                case rel => exact ⟨rfl, ((Below.refl _ wr).drew).trans hb3⟩
            case rest =>
              obtain ⟨rfl, hb3⟩ := hcut
              have hbel3 : Hid (Below w.heap.size w wc) := hide (hbel2.trans (hb3.mono hbel2.size))
              have hB3 := hide (hB2.below hb3 hBlt)
              clear hB2 b0 b1 b2 b3 c1 z0 z1 z2
              cases hmt : Cu.meet z y with
              | true =>
                have hr := hide (unhide HTT m q z x3 (unhide A2) (unhide F3) (by omega) hmt)
                go_wp2
                go_ret
                exact ⟨ret_bool (unhide hr).symm, unhide hbel3⟩
              | false =>
                have hr := hide (noMeet_succ (unhide HNM) (unhide F3) hmt)
                go_wp2
                go_roundw
                case rel => first | exact ⟨q + 1, by omega, fun _ => by omega, by go_num, unhide hbel3, unhide hB3, unhide hr⟩ | ((repeat apply Exists.intro); exact ⟨⟨q + 1, by omega, fun _ => by omega, by go_num, unhide hbel3, unhide hB3, unhide hr⟩, rfl⟩)
                case measure => simp [intOf]; omega
        · have hcond : ¬ q < x3.items.length ∨ (q < x3.items.length ∧ ¬ m < n ∧ ¬ q < k) := by omega
          have hnext : Hid (TwRel (L.map Prod.fst) n k y (m + 1)) := hide (by
            by_cases h1 : m < n
            · have h2 : q = x3.items.length := by omega
              have h3 := unhide HNM
              rw [h2, List.take_length] at h3
              exact tw_lt h1 (unhide A2) (unhide hWn) h3
            · have h2 : m = n := by omega
              have h3 : q = k := by
                have h4 := hqk h2
                subst h2
                have h5 : x3 = x' := by have h := unhide A2; rw [e2] at h; simpa [eq_comm] using h
                subst h5
                omega
              have h4 := unhide HNM
              have h5 := unhide hWn
              have h6 := unhide A2
              rw [h3] at h4
              subst h2
              exact tw_eq h6 h5 h4)
          clear hown3 hent
          rcases hcond with h1 | ⟨h1, h2, h3⟩
          all_goals
            go_wp2
            go_roundw
            case rel => first | exact ⟨m + 1, by omega, by go_num, hbel2, hB2, unhide hnext⟩ | ((repeat apply Exists.intro); exact ⟨⟨m + 1, by omega, by go_num, hbel2, hB2, unhide hnext⟩, rfl⟩)
            case measure => simp [intOf]; omega
    · have hr := hide ((unhide HTF) (by have h := unhide HW; unfold TwRel at h; rwa [if_neg hmn] at h))
      go_wp2
      go_ret
      exact ⟨ret_bool (unhide hr).symm, hbel⟩
end Go.Proofs.YtbppbejigedioabGreatDoor
