/- Walks: signsOf. -/
import Derived.Test.YtkinfleecfddlaaGreatDoorWalkY0
namespace Go.Proofs.YtkinfleecfddlaaGreatDoor
open Go.RowKit

def SignsRes (l : List Cu.Atom) (w : World) (e : Ending) (w' : World) : Prop :=
  ∃ (a : Option Addr) (cap : Nat), e = .returned (.slice a l.length cap) ∧ w'.ownsRow w.heap.size 171 2 (.slice a l.length cap) l.length (signCells l) ∧ Below w.heap.size w w'

theorem own_lit2 (w : World) (b base : Nat) (x y : Value) (hb : w.heap.size = b) (h : base ≤ b) : (w.alloc (.cells #[x, y] 171)).ownsRow base 171 2 (.slice (some ⟨b, 0, none⟩) 1 1) 1 [x, y] := by
  subst hb
  exact ⟨rfl, .inr ⟨w.heap.size, 1, #[x, y], rfl, h, heap_alloc_new w _, Nat.le_refl _, by decide, rfl, rfl⟩⟩

set_option maxRecDepth 100000 in
set_option maxHeartbeats 400000 in
theorem signs_sign (k : Int) (i : Nat) (w : World) :
    Calls Tryz.prog 91 #[signV k i] w fun e w' => ∃ (a : Option Addr) (cap : Nat), e = .returned (.slice a 1 cap) ∧ w'.ownsRow w.heap.size 171 2 (.slice a 1 cap) 1 [.int .i64 k, .int .i64 i] ∧ Below w.heap.size w w' := by
  unfold signV
  have q_sign := as_sign_sign
  go_enter Tryz.func91, Tryz.ntmps91
  go_wp2
  go_ret
  exact ⟨_, _, rfl, own_lit2 _ _ _ _ _ (by simp) (by simp), ((Below.refl _ _).alloc (Nat.le_refl _) _).alloc (by simp) _⟩

set_option maxRecDepth 100000 in
set_option maxHeartbeats 400000 in
theorem signs_nothing (w : World) :
    Calls Tryz.prog 91 #[leftV []] w fun e w' => SignsRes [] w e w' := by
  have h : leftV [] = .iface 240 (.agg #[]) := rfl
  rw [h]
  have q_sign := as_nothing_sign
  have q_many := as_nothing_many
  have q_some := as_nothing_some
  have q_maybe := as_nothing_maybe
  have q_pair := as_nothing_pair
  go_enter Tryz.func91, Tryz.ntmps91
  go_wp2
  go_ret
  exact ⟨none, 0, rfl, World.ownsRow_nil _ _ _ _, Below.refl _ _⟩

set_option maxRecDepth 100000 in
set_option maxHeartbeats 1000000 in
theorem signs_atom (h k : Int) (i : Nat) (w : World) :
    Calls Tryz.prog 91 #[atomV h k i] w fun e w' => ∃ (a : Option Addr) (cap : Nat), e = .returned (.slice a 1 cap) ∧ w'.ownsRow w.heap.size 171 2 (.slice a 1 cap) 1 [.int .i64 k, .int .i64 i] ∧ Below w.heap.size w w' := by
  unfold atomV
  by_cases h0 : h = 0
  · rw [if_pos h0]
    unfold signV
    have q_sign := as_many_sign
    have q_many := as_many_many
    go_enter Tryz.func91, Tryz.ntmps91
    go_wp2_with fail
    refine (signs_sign k i _).mono ?_
    rintro e w1 ⟨a, cap, rfl, ho, hb⟩
    have HO := hide (own_base ho (by simp : w.heap.size ≤ _))
    have HB := hide (((Below.refl w.heap.size w).alloc (Nat.le_refl _) _).trans (hb.mono (by simp)))
    clear ho hb
    go_wp2
    go_ret
    exact ⟨a, cap, rfl, unhide HO, unhide HB⟩
  · rw [if_neg h0]
    by_cases h1 : h = 1
    · rw [if_pos h1]
      unfold signV
      have q_sign := as_some_sign
      have q_many := as_some_many
      have q_some := as_some_some
      go_enter Tryz.func91, Tryz.ntmps91
      go_wp2_with fail
      refine (signs_sign k i _).mono ?_
      rintro e w1 ⟨a, cap, rfl, ho, hb⟩
      have HO := hide (own_base ho (by simp : w.heap.size ≤ _))
      have HB := hide (((Below.refl w.heap.size w).alloc (Nat.le_refl _) _).trans (hb.mono (by simp)))
      clear ho hb
      go_wp2
      go_ret
      exact ⟨a, cap, rfl, unhide HO, unhide HB⟩
    · rw [if_neg h1]
      by_cases h2 : h = 2
      · rw [if_pos h2]
        unfold signV
        have q_sign := as_maybe_sign
        have q_many := as_maybe_many
        have q_some := as_maybe_some
        have q_maybe := as_maybe_maybe
        go_enter Tryz.func91, Tryz.ntmps91
        go_wp2_with fail
        refine (signs_sign k i _).mono ?_
        rintro e w1 ⟨a, cap, rfl, ho, hb⟩
        have HO := hide (own_base ho (by simp : w.heap.size ≤ _))
        have HB := hide (((Below.refl w.heap.size w).alloc (Nat.le_refl _) _).trans (hb.mono (by simp)))
        clear ho hb
        go_wp2
        go_ret
        exact ⟨a, cap, rfl, unhide HO, unhide HB⟩
      · rw [if_neg h2]
        exact signs_sign k i w
end Go.Proofs.YtkinfleecfddlaaGreatDoor
