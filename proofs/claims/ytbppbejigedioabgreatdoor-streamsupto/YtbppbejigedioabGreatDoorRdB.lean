/- Facts: the type switch over a node. -/
import Derived.Test.YtbppbejigedioabGreatDoorRdA
import Derived.Test.YtbppbejigedioabGreatDoorWalkE
import Derived.Deep.RegionLaw
namespace Go.Proofs.YtbppbejigedioabGreatDoor
open Go.RowKit
theorem as_sign_sign (v : Value) (w : World) : (Instr.typeAssert (.iface 193 v) 123 193 true).run Tryz.prog w = .ok (.tuple #[v, .bool true]) w := by kernel_rfl
theorem as_many_sign (v : Value) (w : World) : (Instr.typeAssert (.iface 196 v) 123 193 true).run Tryz.prog w = .ok (.tuple #[.agg #[.int .i64 0, .int .i64 0], .bool false]) w := by kernel_rfl
theorem as_many_many (v : Value) (w : World) : (Instr.typeAssert (.iface 196 v) 123 196 true).run Tryz.prog w = .ok (.tuple #[v, .bool true]) w := by kernel_rfl
theorem as_some_sign (v : Value) (w : World) : (Instr.typeAssert (.iface 197 v) 123 193 true).run Tryz.prog w = .ok (.tuple #[.agg #[.int .i64 0, .int .i64 0], .bool false]) w := by kernel_rfl
theorem as_some_many (v : Value) (w : World) : (Instr.typeAssert (.iface 197 v) 123 196 true).run Tryz.prog w = .ok (.tuple #[.agg #[.nilIface], .bool false]) w := by kernel_rfl
theorem as_some_some (v : Value) (w : World) : (Instr.typeAssert (.iface 197 v) 123 197 true).run Tryz.prog w = .ok (.tuple #[v, .bool true]) w := by kernel_rfl
theorem as_maybe_sign (v : Value) (w : World) : (Instr.typeAssert (.iface 198 v) 123 193 true).run Tryz.prog w = .ok (.tuple #[.agg #[.int .i64 0, .int .i64 0], .bool false]) w := by kernel_rfl
theorem as_maybe_many (v : Value) (w : World) : (Instr.typeAssert (.iface 198 v) 123 196 true).run Tryz.prog w = .ok (.tuple #[.agg #[.nilIface], .bool false]) w := by kernel_rfl
theorem as_maybe_some (v : Value) (w : World) : (Instr.typeAssert (.iface 198 v) 123 197 true).run Tryz.prog w = .ok (.tuple #[.agg #[.nilIface], .bool false]) w := by kernel_rfl
theorem as_maybe_maybe (v : Value) (w : World) : (Instr.typeAssert (.iface 198 v) 123 198 true).run Tryz.prog w = .ok (.tuple #[v, .bool true]) w := by kernel_rfl
theorem as_pair_sign (v : Value) (w : World) : (Instr.typeAssert (.iface 200 v) 123 193 true).run Tryz.prog w = .ok (.tuple #[.agg #[.int .i64 0, .int .i64 0], .bool false]) w := by kernel_rfl
theorem as_pair_many (v : Value) (w : World) : (Instr.typeAssert (.iface 200 v) 123 196 true).run Tryz.prog w = .ok (.tuple #[.agg #[.nilIface], .bool false]) w := by kernel_rfl
theorem as_pair_some (v : Value) (w : World) : (Instr.typeAssert (.iface 200 v) 123 197 true).run Tryz.prog w = .ok (.tuple #[.agg #[.nilIface], .bool false]) w := by kernel_rfl
theorem as_pair_maybe (v : Value) (w : World) : (Instr.typeAssert (.iface 200 v) 123 198 true).run Tryz.prog w = .ok (.tuple #[.agg #[.nilIface], .bool false]) w := by kernel_rfl
theorem as_pair_pair (v : Value) (w : World) : (Instr.typeAssert (.iface 200 v) 123 200 true).run Tryz.prog w = .ok (.tuple #[v, .bool true]) w := by kernel_rfl
theorem as_nothing_sign (v : Value) (w : World) : (Instr.typeAssert (.iface 303 v) 123 193 true).run Tryz.prog w = .ok (.tuple #[.agg #[.int .i64 0, .int .i64 0], .bool false]) w := by kernel_rfl
theorem as_nothing_many (v : Value) (w : World) : (Instr.typeAssert (.iface 303 v) 123 196 true).run Tryz.prog w = .ok (.tuple #[.agg #[.nilIface], .bool false]) w := by kernel_rfl
theorem as_nothing_some (v : Value) (w : World) : (Instr.typeAssert (.iface 303 v) 123 197 true).run Tryz.prog w = .ok (.tuple #[.agg #[.nilIface], .bool false]) w := by kernel_rfl
theorem as_nothing_maybe (v : Value) (w : World) : (Instr.typeAssert (.iface 303 v) 123 198 true).run Tryz.prog w = .ok (.tuple #[.agg #[.nilIface], .bool false]) w := by kernel_rfl
theorem as_nothing_pair (v : Value) (w : World) : (Instr.typeAssert (.iface 303 v) 123 200 true).run Tryz.prog w = .ok (.tuple #[.agg #[.nilIface, .nilIface], .bool false]) w := by kernel_rfl
end Go.Proofs.YtbppbejigedioabGreatDoor
/- Walks: signsOf. -/
namespace Go.Proofs.YtbppbejigedioabGreatDoor
open Go.RowKit

def SignsRes (l : List Cu.Atom) (w : World) (e : Ending) (w' : World) : Prop :=
  ∃ (a : Option Addr) (cap : Nat), e = .returned (.slice a l.length cap) ∧ w'.ownsRow w.heap.size 193 2 (.slice a l.length cap) l.length (signCells l) ∧ Below w.heap.size w w'

theorem own_lit2 (w : World) (b base : Nat) (x y : Value) (hb : w.heap.size = b) (h : base ≤ b) : (w.alloc (.cells #[x, y] 193)).ownsRow base 193 2 (.slice (some ⟨b, 0, none⟩) 1 1) 1 [x, y] := by
  subst hb
  exact ⟨rfl, .inr ⟨w.heap.size, 1, #[x, y], rfl, h, heap_alloc_new w _, Nat.le_refl _, by decide, rfl, rfl⟩⟩

set_option maxRecDepth 100000 in
set_option maxHeartbeats 400000 in
theorem signs_sign (k : Int) (i : Nat) (w : World) :
    Calls Tryz.prog 114 #[signV k i] w fun e w' => ∃ (a : Option Addr) (cap : Nat), e = .returned (.slice a 1 cap) ∧ w'.ownsRow w.heap.size 193 2 (.slice a 1 cap) 1 [.int .i64 k, .int .i64 i] ∧ Below w.heap.size w w' := by
  unfold signV
  have q_sign := as_sign_sign
  go_enter Tryz.func114, Tryz.ntmps114
  go_wp2
  go_ret
  exact ⟨_, _, rfl, own_lit2 _ _ _ _ _ (by simp) (by simp), ((Below.refl _ _).alloc (Nat.le_refl _) _).alloc (by simp) _⟩

set_option maxRecDepth 100000 in
set_option maxHeartbeats 400000 in
theorem signs_nothing (w : World) :
    Calls Tryz.prog 114 #[leftV []] w fun e w' => SignsRes [] w e w' := by
  have h : leftV [] = .iface 303 (.agg #[]) := rfl
  rw [h]
  have q_sign := as_nothing_sign
  have q_many := as_nothing_many
  have q_some := as_nothing_some
  have q_maybe := as_nothing_maybe
  have q_pair := as_nothing_pair
  go_enter Tryz.func114, Tryz.ntmps114
  go_wp2
  go_ret
  exact ⟨none, 0, rfl, World.ownsRow_nil _ _ _ _, Below.refl _ _⟩

set_option maxRecDepth 100000 in
set_option maxHeartbeats 1000000 in
theorem signs_atom (h k : Int) (i : Nat) (w : World) :
    Calls Tryz.prog 114 #[atomV h k i] w fun e w' => ∃ (a : Option Addr) (cap : Nat), e = .returned (.slice a 1 cap) ∧ w'.ownsRow w.heap.size 193 2 (.slice a 1 cap) 1 [.int .i64 k, .int .i64 i] ∧ Below w.heap.size w w' := by
  unfold atomV
  by_cases h0 : h = 0
  · rw [if_pos h0]
    unfold signV
    have q_sign := as_many_sign
    have q_many := as_many_many
    go_enter Tryz.func114, Tryz.ntmps114
    go_wp2_with fail
    refine (signs_sign k i _).mono ?_
    rintro e w1 ⟨a, cap, rfl, ho, hb⟩
    have HO := hide (own_base ho (by simp : w.heap.size ≤ _))
    have HB := hide (((Below.refl w.heap.size w).alloc (Nat.le_refl _) _).trans (hb.mono (by simp)))
    clear ho hb
    go_wp2
    go_ret
    exact ⟨a, cap, rfl, unhide HO, unhide HB⟩
  · rw [if_neg h0]
    by_cases h1 : h = 1
    · rw [if_pos h1]
      unfold signV
      have q_sign := as_some_sign
      have q_many := as_some_many
      have q_some := as_some_some
      go_enter Tryz.func114, Tryz.ntmps114
      go_wp2_with fail
      refine (signs_sign k i _).mono ?_
      rintro e w1 ⟨a, cap, rfl, ho, hb⟩
      have HO := hide (own_base ho (by simp : w.heap.size ≤ _))
      have HB := hide (((Below.refl w.heap.size w).alloc (Nat.le_refl _) _).trans (hb.mono (by simp)))
      clear ho hb
      go_wp2
      go_ret
      exact ⟨a, cap, rfl, unhide HO, unhide HB⟩
    · rw [if_neg h1]
      by_cases h2 : h = 2
      · rw [if_pos h2]
        unfold signV
        have q_sign := as_maybe_sign
        have q_many := as_maybe_many
        have q_some := as_maybe_some
        have q_maybe := as_maybe_maybe
        go_enter Tryz.func114, Tryz.ntmps114
        go_wp2_with fail
        refine (signs_sign k i _).mono ?_
        rintro e w1 ⟨a, cap, rfl, ho, hb⟩
        have HO := hide (own_base ho (by simp : w.heap.size ≤ _))
        have HB := hide (((Below.refl w.heap.size w).alloc (Nat.le_refl _) _).trans (hb.mono (by simp)))
        clear ho hb
        go_wp2
        go_ret
        exact ⟨a, cap, rfl, unhide HO, unhide HB⟩
      · rw [if_neg h2]
        exact signs_sign k i w
end Go.Proofs.YtbppbejigedioabGreatDoor
/- Walks: signsOf at a rule's left side. -/
namespace Go.Proofs.YtbppbejigedioabGreatDoor
open Go.RowKit

theorem own_some {w : World} {base : Nat} {e : TypeId} {size n cap : Nat} {a : Option Addr} {xs : List Value} (h : w.ownsRow base e size (.slice a n cap) n xs) (hn : 0 < n) : ∃ g, a = some ⟨g, 0, none⟩ := by
  rcases h.2 with ⟨_, h0⟩ | ⟨g, cap', cur, hv, _⟩
  · omega
  · simp only [Value.slice.injEq, true_and] at hv
    exact ⟨g, hv.1⟩
theorem own_news {w : World} {base : Nat} {e : TypeId} {size n cap g : Nat} {xs : List Value} (h : w.ownsRow base e size (.slice (some ⟨g, 0, none⟩) n cap) n xs) : ∀ j u, xs[j]? = some u → w.cell? ((⟨g, 0, none⟩ : Addr).add j) = some u :=
  h.cells (by simp [Value.ownBlock])
theorem signCells_length (l : List Cu.Atom) : (signCells l).length = l.length * 2 := by
  induction l with
  | nil => rfl
  | cons y l ih => simp [signCells, ih]; omega
theorem signCells_one (l : List Cu.Atom) : ∀ u ∈ signCells l, u.oneCell' = true := by
  induction l with
  | nil => intro u hu; simp [signCells] at hu
  | cons y l ih =>
    intro u hu
    simp only [signCells, List.mem_append] at hu
    rcases hu with h | h
    · exact one2 _ _ u h
    · exact ih u h

theorem below_one1 (w : World) (o : Obj) : Below w.heap.size w (w.alloc o).drew := ((Below.refl _ _).alloc (Nat.le_refl _) _).drew
theorem below_two {w W w1 : World} (h1 : Below W.heap.size W w1) (h : Below w.heap.size w W) : Below w.heap.size w w1 := h.trans (h1.mono h.size)
theorem pair_base (w : World) (o : Obj) : w.heap.size ≤ ((w.alloc o).drew).heap.size := by
  show w.heap.size ≤ (w.alloc o).heap.size
  simp
theorem pair_facts {w w1 : World} {x y : Value} {t : TypeId} (hb : Below ((w.alloc (.cells #[x, y] t)).drew).heap.size (w.alloc (.cells #[x, y] t)).drew w1) : w1.cell? ⟨w.heap.size, 1, none⟩ = some y ∧ w.heap.size + 1 ≤ w1.heap.size ∧ Below w.heap.size w w1 := by
  have hs : ((w.alloc (.cells #[x, y] t)).drew).heap.size = w.heap.size + 1 := by
    show (w.alloc (.cells #[x, y] t)).heap.size = _
    simp
  have h1 : Blk (w.alloc (.cells #[x, y] t)).drew w.heap.size [x, y] t := Blk.new w [x, y] t
  have h2 := hb.size
  exact ⟨(h1.below hb (by omega)).cell 1, by omega, below_two hb (below_one1 w _)⟩
theorem pair_facts2 {w w1 w2 : World} (hb : Below w1.heap.size w1 w2) (hs : w.heap.size + 1 ≤ w1.heap.size) (h : Below w.heap.size w w1) : w.heap.size + 1 ≤ w2.heap.size ∧ Below w.heap.size w w2 :=
  ⟨Nat.le_trans hs hb.size, below_two hb h⟩
theorem signs_done {l : List Cu.Atom} {x : Cu.Atom} {w w2 w3 : World} {a a' : Option Addr} {cap cap' : Nat} (ho : w3.ownsRow w.heap.size 193 2 (.slice a' (l.length + 1) cap') (l.length + 1) (signCells l ++ [.int .i64 (Cu.sk x.1), .int .i64 x.2.2])) (hg : w2.grownBy w3 (Value.slice a l.length cap).ownBlock)
    (hb : Below w.heap.size w w2) (ho2 : w2.ownsRow w.heap.size 193 2 (.slice a l.length cap) l.length (signCells l)) : SignsRes (l ++ [x]) w (.returned (.slice a' (l.length + 1) cap')) w3 := by
  have hlen : (l ++ [x]).length = l.length + 1 := by simp
  exact ⟨a', cap', by rw [hlen], by rw [hlen, signCells_snoc]; exact ho, hb.grown hg hb.size (fun k hk => (ho2.lt k hk).1)⟩

set_option maxRecDepth 100000 in
set_option maxHeartbeats 1000000 in
theorem signs_pair (l : List Cu.Atom) (x : Cu.Atom) (hl : l.length ≤ 3) (ih : ∀ w, Calls Tryz.prog 114 #[leftV l] w fun e w' => SignsRes l w e w') (w : World) :
    Calls Tryz.prog 114 #[leftV (l ++ [x])] w fun e w' => SignsRes (l ++ [x]) w e w' := by
  rw [leftV_snoc]
  have ih2 := signs_atom (Cu.hk x.2.1) (Cu.sk x.1) x.2.2
  have hnd : atomV (Cu.hk x.2.1) (Cu.sk x.1) x.2.2 = nodeV x := rfl
  rw [hnd] at ih2
  obtain ⟨tl, vl, hvl⟩ := leftV_iface l
  obtain ⟨ta, va, hva⟩ := atomV_iface (Cu.hk x.2.1) (Cu.sk x.1) x.2.2
  rw [hnd] at hva
  rw [hvl] at ih ⊢
  rw [hva] at ih2 ⊢
  have IH1 := hide ih
  have IH2 := hide ih2
  clear ih ih2 hvl hva hnd
  have q_sign := as_pair_sign
  have q_many := as_pair_many
  have q_some := as_pair_some
  have q_maybe := as_pair_maybe
  have q_pair := as_pair_pair
  obtain ⟨i0, ki, kz0, kz1, kz2⟩ := info_parts Tryz.info193
  have hcap : (l.length + 1) * 16 ≤ 140737488355328 := by omega
  have hmax : l.length + 1 ≤ maxLen := by unfold maxLen; omega
  go_enter Tryz.func114, Tryz.ntmps114
  go_wp2_with fail
  go_region_law (first
    | (refine step_append_own rfl (.tmp 37) (.tmp 40) 124 rfl w.heap.size 193 i0 (.agg #[.int .i64 0, .int .i64 0]) 2 16 Tryz.underlying124 ki kz0 kz1 kz2 rfl (by decide) (.slice a1 l.length cap1) l.length (signCells l) (by simp [Act.eval]) (by exact unhide HO2) ⟨g2, 0, none⟩ 1 cap2 [.int .i64 (Cu.sk x.1), .int .i64 x.2.2] (by simp [Act.eval]) rfl (by exact own_news (unhide HN2)) (one2 _ _) hmax hcap (by omega) ?_; intro v' w3 hown' hgrow; obtain ⟨a', cap', hv'⟩ := own_form hown'; subst hv'; have hfin : Hid (SignsRes (l ++ [x]) w (.returned (.slice a' (l.length + 1) cap')) w3) := hide (signs_done hown' hgrow (unhide HB2) (unhide HO2)); clear hown' hgrow)
    | (go_simp; go_wp2_with (first | (go_at_call_of 114 (Value.iface tl vl); refine (unhide IH1 _).mono ?_; rintro e w1 ⟨a1, cap1, rfl, ho1, hb1⟩; have HO1 := hide (own_base ho1 (pair_base w _)); obtain ⟨hc1, hs1, hB1⟩ := pair_facts hb1; have HB1 := hide hB1; clear ho1 hb1 hB1) | (go_at_call_of 114 (Value.iface ta va); refine (unhide IH2 _).mono ?_; rintro e w2 ⟨a2, cap2, rfl, ho2, hb2⟩; obtain ⟨g2, rfl⟩ := own_some ho2 (by omega); have HO2 := hide (own_below (unhide HO1) (by exact hb2)); have HN2 := hide ho2; obtain ⟨hs2, hB2⟩ := pair_facts2 hb2 hs1 (unhide HB1); have HB2 := hide hB2; clear ho2 hb2 hB2))))
  all_goals
    go_wp2
    go_ret
    exact unhide hfin
theorem signs_any (l : List Cu.Atom) (hl : l.length ≤ 4) (w : World) : Calls Tryz.prog 114 #[leftV l] w fun e w' => SignsRes l w e w' := by
  generalize hn : l.length = n at hl
  induction n generalizing l w with
  | zero => rw [List.eq_nil_of_length_eq_zero hn]; exact signs_nothing w
  | succ n ih =>
    rcases List.eq_nil_or_concat l with rfl | ⟨l', a, rfl⟩
    · simp at hn
    · rw [List.concat_eq_append] at hn ⊢
      simp at hn
      exact signs_pair l' a (by omega) (fun w => ih l' w hn (by omega)) w
end Go.Proofs.YtbppbejigedioabGreatDoor
