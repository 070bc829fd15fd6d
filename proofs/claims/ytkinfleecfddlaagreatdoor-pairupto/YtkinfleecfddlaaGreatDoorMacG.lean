/- The machine: stand. -/
import Derived.Test.YtkinfleecfddlaaGreatDoorMacX
import Derived.Test.YtkinfleecfddlaaGreatDoorBookB
namespace Go.Proofs.YtkinfleecfddlaaGreatDoor
open Go.RowKit

/-- Do the signs stand at the beginning of the symbols? -/
def standL : List Cu.Atom → List Int → Bool
  | [], _ => true
  | _ :: _, [] => false
  | x :: l, b :: s => standB (Cu.sk x.1) b && standL l s
theorem standL_short {l : List Cu.Atom} {s : List Int} (h : s.length < l.length) : standL l s = false := by
  induction l generalizing s with
  | nil => simp at h
  | cons x l ih =>
    cases s with
    | nil => rfl
    | cons c s => simp at h; simp [standL, ih h]
theorem standL_step {l : List Cu.Atom} {s : List Int} {i : Nat} {x : Cu.Atom} {b : Int} (h : l[i]? = some x) (hb : s[i]? = some b) : standL (l.drop i) (s.drop i) = (standB (Cu.sk x.1) b && standL (l.drop (i + 1)) (s.drop (i + 1))) := by
  have hk : i < l.length := (List.getElem?_eq_some_iff.1 h).1
  have hi : i < s.length := (List.getElem?_eq_some_iff.1 hb).1
  rw [← List.getElem_cons_drop hk, (List.getElem?_eq_some_iff.1 h).2, ← List.getElem_cons_drop hi, (List.getElem?_eq_some_iff.1 hb).2, standL]
/-- The symbols of a slice of characters. -/
def SymsAt (w : World) (a : Option Addr) (s : List Int) : Prop := ∀ k v, s[k]? = some v → ∃ g o, a = some ⟨g, o, none⟩ ∧ g < w.heap.size ∧ w.cell? ⟨g, o + k * 2 + 1, none⟩ = some (.int .i64 v)
theorem SymsAt.below {w w' : World} {a : Option Addr} {s : List Int} (h : SymsAt w a s) (hb : Below w.heap.size w w') : SymsAt w' a s := fun k v hk => by
  obtain ⟨g, o, h1, h2, h3⟩ := h k v hk
  refine ⟨g, o, h1, Nat.lt_of_lt_of_le h2 hb.size, ?_⟩
  rw [show w'.cell? ⟨g, o + k * 2 + 1, none⟩ = w.cell? ⟨g, o + k * 2 + 1, none⟩ by simp only [World.cell?, hb.block _ h2]]
  exact h3

set_option maxRecDepth 100000 in
set_option maxHeartbeats 1000000 in
theorem stand_any (l : List Cu.Atom) (a : Option Addr) (cap base : Nat) (s : List Int) (ap : Option Addr) (cb : Nat) (w : World) (ho : w.ownsRow base 171 2 (.slice a l.length cap) l.length (signCells l)) (hs : SymsAt w ap s) (hl : l.length ≤ 4) (hsl : s.length ≤ 1048576) :
    Calls Tryz.prog 83 #[.slice a l.length cap, .slice ap s.length cb] w fun e w' => e = .returned (.bool (standL l s)) ∧ Below w.heap.size w w' := by
  have HO := hide ho
  have HS := hide hs
  clear ho hs
  by_cases hsh : s.length < l.length
  · have hr : Hid (standL l s = false) := hide (standL_short hsh)
    go_enter Tryz.func83, Tryz.ntmps83
    go_wp2
    go_ret
    exact ⟨by rw [unhide hr]; rfl, Below.refl _ _⟩
  · go_enter Tryz.func83, Tryz.ntmps83
    go_wp2
    go_loopw [14] (fun v wr => ∃ n : Nat, n ≤ l.length ∧ v = .int .i64 n ∧ Below w.heap.size w wr ∧ standL (l.drop n) (s.drop n) = standL l s) (fun v _ => 6 - (intOf v).toNat)
    case atStart =>
      go_light
      exact ⟨0, Nat.zero_le _, rfl, Below.refl _ _, rfl⟩
    case round =>
      obtain ⟨n, hn, rfl, hb, hbe⟩ := hrel
      have HBE := hide hbe
      clear hbe
      by_cases hlt : n < l.length
      · obtain ⟨g, x, rfl, hx, hg, c0, c1⟩ := sign_cells (own_below (unhide HO) hb) n hlt
        obtain ⟨v, hv⟩ : ∃ v, s[n]? = some v := ⟨s[n]'(by omega), by simp⟩
        obtain ⟨g2, o2, rfl, hg2, hc2⟩ := (unhide HS).below hb n v hv
        have hst := standL_step hx hv
        have HST := hide hst
        have hns : n < s.length := by omega
        have hgn : g ≠ wr.heap.size := by omega
        have hg2n : g2 ≠ wr.heap.size := by omega
        clear hst hx hv
        go_upto_region 6 with fail
        go_cut [26] (fun b wc => b = .bool (!standB (Cu.sk x.1) v) ∧ Below wr.heap.size wr wc)
        case first =>
          haveI hne : Nonempty (Bel (wr.alloc (.cells #[.int .i64 (Cu.sk x.1), .int .i64 x.2.2] 171))) := ⟨⟨_, Below.refl _ _⟩⟩
          have q0 : ∀ p : Bel (wr.alloc (.cells #[.int .i64 (Cu.sk x.1), .int .i64 x.2.2] 171)), p.v.cell? ⟨wr.heap.size, 0, none⟩ = some (.int .i64 (Cu.sk x.1)) := fun p => bel_cell ((Blk.new wr [.int .i64 (Cu.sk x.1), .int .i64 x.2.2] _).cell 0)
          have q1 : ∀ p : Bel (wr.alloc (.cells #[.int .i64 (Cu.sk x.1), .int .i64 x.2.2] 171)), p.v.cell? ⟨wr.heap.size, 1, none⟩ = some (.int .i64 x.2.2) := fun p => bel_cell ((Blk.new wr [.int .i64 (Cu.sk x.1), .int .i64 x.2.2] _).cell 1)
          have q2 : ∀ p : Bel (wr.alloc (.cells #[.int .i64 (Cu.sk x.1), .int .i64 x.2.2] 171)), p.v.cell? ⟨g2, o2 + n * 2 + 1, none⟩ = some (.int .i64 v) := fun p => bel_cell (by rw [World.cell?_alloc_lt _ _ ⟨g2, o2 + n * 2 + 1, none⟩ hg2]; exact hc2)
          refine wp_region_bel (by kernel_rfl) (by kernel_rfl) ?_
          repeat (quiet_step ((go_at_call 107; exact bel_call (fun W _ => stands_any _ _ _ W))))
          refine wpQuiet_nil ?_
          intro _ hw'
          obtain ⟨⟨wq, hwq⟩, rfl⟩ := hw'
          go_wp2_with fail
          go_meet
          case rel => exact ⟨rfl, ((Below.refl _ _).alloc (Nat.le_refl _) _).trans (hwq.mono (by simp))⟩
        case rest =>
          obtain ⟨rfl, hb3⟩ := hcut
          have hB3 := hide (hb.trans (hb3.mono hb.size))
          clear hb3
          cases hit : standB (Cu.sk x.1) v with
          | true =>
            have hr : Hid (∃ m : Nat, m ≤ l.length ∧ Value.int .i64 ((n : Int) + 1) = .int .i64 m ∧ Below w.heap.size w wc ∧ standL (l.drop m) (s.drop m) = standL l s) := hide ⟨n + 1, by omega, by go_num, unhide hB3, by rw [← unhide HBE, unhide HST, hit]; rfl⟩
            clear hit
            go_wp2
            go_roundw
            case rel => first | exact unhide hr | ((repeat apply Exists.intro); exact ⟨unhide hr, rfl⟩)
            case measure => simp [intOf]; omega
          | false =>
            have hr : Hid (standL l s = false) := hide (by rw [← unhide HBE, unhide HST, hit]; rfl)
            clear hit
            go_wp2
            go_ret
            exact ⟨by rw [unhide hr]; rfl, unhide hB3⟩
      · have hr : Hid (standL l s = true) := hide (by rw [← unhide HBE, List.drop_eq_nil_of_le (by omega)]; rfl)
        go_wp2
        go_ret
        exact ⟨by rw [unhide hr]; rfl, hb⟩
end Go.Proofs.YtkinfleecfddlaaGreatDoor
