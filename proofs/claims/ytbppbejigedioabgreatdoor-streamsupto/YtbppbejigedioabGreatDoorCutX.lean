/- The reference's left sides: is, ahead, behind. -/
import Derived.Test.YtbppbejigedioabGreatDoorClsX
import Derived.Deep.QuietTactic
import Derived.BigQuiet
import Derived.Deep.RegionWith
import Derived.Deep.CutBlock
import Derived.Deep.DeepCutAuto
namespace Go.Proofs.YtbppbejigedioabGreatDoor
open Go.RowKit
namespace Cu
/-- Does a sign stand for a class? -/
def isB (c sg : Nat) : Bool := sg == 46 || sg == c
/-- Can one atom more stand in the classes (the last one first), where f says it of those ahead of it? -/
def aheadOne (x : Atom) (f : List UInt8 → Bool) : List UInt8 → Bool
  | [] => if x.2.1 = 32 then false else if x.2.1 = 63 ∨ x.2.1 = 42 then f [] else false
  | c :: s =>
    if x.2.1 = 32 then isB c.toNat x.1 && f s
    else if (x.2.1 = 63 ∨ x.2.1 = 42) ∧ f (c :: s) = true then true
    else if isB c.toNat x.1 = false then false
    else if f s = true ∨ x.2.1 = 63 then f s
    else aheadOne x f s
/-- Can the atoms (the last one first) stand in the classes (the last one first)? -/
def aheadR : List Atom → List UInt8 → Bool
  | [] => fun _ => true
  | x :: r => aheadOne x (aheadR r)
theorem aheadR_zero (s : List UInt8) : aheadR [] s = true := rfl
theorem aheadR_none (x : Atom) (r : List Atom) : aheadR (x :: r) [] = if x.2.1 = 32 then false else if x.2.1 = 63 ∨ x.2.1 = 42 then aheadR r [] else false := rfl
theorem aheadR_more (x : Atom) (r : List Atom) (c : UInt8) (s : List UInt8) : aheadR (x :: r) (c :: s) =
    if x.2.1 = 32 then isB c.toNat x.1 && aheadR r s
    else if (x.2.1 = 63 ∨ x.2.1 = 42) ∧ aheadR r (c :: s) = true then true
    else if isB c.toNat x.1 = false then false
    else if aheadR r s = true ∨ x.2.1 = 63 then aheadR r s
    else aheadR (x :: r) s := rfl
def aheadP (l : List Atom) (n : Nat) (s : List UInt8) : Bool := aheadR (l.take n).reverse s.reverse
end Cu

set_option maxRecDepth 100000 in
set_option maxHeartbeats 400000 in
theorem is_any (c sg : Nat) (w : World) : Calls Tryz.prog 137 #[.int .u8 c, .int .u8 sg] w fun e w' => e = .returned (.bool (Cu.isB c sg)) ∧ w' = w := by
  by_cases h1 : sg = 46
  · have hr : Hid (Cu.isB c sg = true) := hide (by unfold Cu.isB; rw [h1]; rfl)
    have d1 : ((sg : Int) == 46) = true := by rw [h1]; rfl
    clear h1
    go_enter Tryz.func137, Tryz.ntmps137
    go_wp2
    go_ret
    exact ⟨by rw [unhide hr]; rfl, rfl⟩
  · have d1 : ((sg : Int) == 46) = false := by rw [beq_eq_false_iff_ne]; omega
    by_cases h2 : sg = c
    · have hr : Hid (Cu.isB c sg = true) := hide (by unfold Cu.isB; rw [h2]; simp)
      subst h2
      clear h1
      go_enter Tryz.func137, Tryz.ntmps137
      go_wp2
      go_ret
      exact ⟨by rw [unhide hr]; rfl, rfl⟩
    · have hr : Hid (Cu.isB c sg = false) := hide (by unfold Cu.isB; simp [h1, h2])
      have d2 : ((sg : Int) == (c : Int)) = false := by rw [beq_eq_false_iff_ne]; omega
      clear h1 h2
      go_enter Tryz.func137, Tryz.ntmps137
      go_wp2
      go_ret
      exact ⟨by rw [unhide hr]; rfl, rfl⟩

theorem aheadP_zero (l : List Cu.Atom) (s : List UInt8) : Cu.aheadP l 0 s = true := by unfold Cu.aheadP; simp [Cu.aheadR_zero]
theorem take_rev {l : List Cu.Atom} {k : Nat} {x : Cu.Atom} (h : l[k]? = some x) : (l.take (k + 1)).reverse = x :: (l.take k).reverse := by
  rw [List.take_add_one, h]; simp
theorem aheadP_nil {l : List Cu.Atom} {k : Nat} {x : Cu.Atom} (h : l[k]? = some x) : Cu.aheadP l (k + 1) [] = if x.2.1 = 32 then false else if x.2.1 = 63 ∨ x.2.1 = 42 then Cu.aheadP l k [] else false := by
  unfold Cu.aheadP; rw [take_rev h, List.reverse_nil, Cu.aheadR_none]
theorem aheadP_cons {l : List Cu.Atom} {k : Nat} {x : Cu.Atom} (h : l[k]? = some x) (s : List UInt8) (c : UInt8) : Cu.aheadP l (k + 1) (s ++ [c]) =
    if x.2.1 = 32 then Cu.isB c.toNat x.1 && Cu.aheadP l k s
    else if (x.2.1 = 63 ∨ x.2.1 = 42) ∧ Cu.aheadP l k (s ++ [c]) = true then true
    else if Cu.isB c.toNat x.1 = false then false
    else if Cu.aheadP l k s = true ∨ x.2.1 = 63 then Cu.aheadP l k s
    else Cu.aheadP l (k + 1) s := by
  unfold Cu.aheadP
  have e : (s ++ [c]).reverse = c :: s.reverse := by simp
  rw [take_rev h, e, Cu.aheadR_more]
/-- The last byte, and what is ahead of it. -/
theorem str_last (s : ByteArray) (m : Nat) (hm : s.size = m + 1) : s.data.toList = (s.extract 0 m).data.toList ++ [s[m]] ∧ (s.extract 0 m).size = m := by
  have h1 : (s.extract 0 m).data.toList = s.data.toList.take m := by
    rw [extract_list]; simp
  have h2 : m < s.data.toList.length := by rw [len_toList]; omega
  refine ⟨?_, by rw [ByteArray.size_extract]; omega⟩
  rw [h1]
  have h3 : s.data.toList = s.data.toList.take m ++ s.data.toList.drop m := by simp
  have h4 : s.data.toList.drop m = [s.data.toList[m]] := by
    rw [← List.getElem_cons_drop h2, List.drop_eq_nil_of_le (by rw [len_toList]; omega)]
  conv => lhs; rw [h3, h4]
  rfl

/-- What is called for. -/
def AheadIs (l : List Cu.Atom) (a : Option Addr) (cap n : Nat) (s : ByteArray) (w : World) : Prop :=
  Calls Tryz.prog 101 #[.slice a l.length cap, .int .i64 n, .string s] w fun e w' => e = .returned (.bool (Cu.aheadP l n s.data.toList)) ∧ Below w.heap.size w w'

set_option maxRecDepth 100000 in
set_option maxHeartbeats 1000000 in
theorem ahead_nil (l : List Cu.Atom) (a : Option Addr) (cap base k : Nat) (s : ByteArray) (w : World) (ho : w.ownsRow base 229 3 (.slice a l.length cap) l.length (atomCells l)) (hk : k < l.length) (hl : l.length ≤ 4) (hs : s.size = 0)
    (ih : ∀ W, Below w.heap.size w W → AheadIs l a cap k s W) : AheadIs l a cap (k + 1) s w := by
  unfold AheadIs at ih ⊢
  obtain ⟨g, x, rfl, hx, c0, c1, c2⟩ := atom_cells ho k hk
  have hsn : s.data.toList = [] := List.eq_nil_of_length_eq_zero (by rw [len_toList]; exact hs)
  have hP := aheadP_nil hx
  rw [hsn] at ih ⊢
  have HIH := hide ih
  have HP := hide hP
  have hgw : g < w.heap.size := World.block_lt_of_cell? w ⟨g, k * 3, none⟩ c0
  have hng : g ≠ w.heap.size := by omega
  clear ih hP hx hsn ho
  by_cases h32 : x.2.1 = 32
  · have d1 : ((x.2.1 : Int) == 32) = true := by rw [h32]; rfl
    have hr : Hid (Cu.aheadP l (k + 1) [] = false) := hide (by rw [unhide HP, if_pos h32])
    clear h32
    go_enter Tryz.func101, Tryz.ntmps101
    go_wp2
    go_quiet (fail)
    go_wp2
    go_ret
    exact ⟨by rw [unhide hr]; rfl, below_drewN ((Below.refl _ _).alloc (Nat.le_refl _) _) _⟩
  · have d1 : ((x.2.1 : Int) == 32) = false := by rw [beq_eq_false_iff_ne]; omega
    by_cases hq : x.2.1 = 63 ∨ x.2.1 = 42
    · have hr : Hid (Cu.aheadP l (k + 1) [] = Cu.aheadP l k []) := hide (by rw [unhide HP, if_neg h32, if_pos hq])
      have d2 : ((x.2.1 : Int) == 63) = true ∨ (((x.2.1 : Int) == 63) = false ∧ ((x.2.1 : Int) == 42) = true) := by
        rcases hq with h | h
        · left; rw [h]; rfl
        · right; rw [h]; exact ⟨rfl, rfl⟩
      clear h32 hq
      rcases d2 with d2 | ⟨d2, d3⟩
      all_goals
        go_enter Tryz.func101, Tryz.ntmps101
        go_wp2
        go_quiet (fail)
        go_wp2_with fail
        refine (unhide HIH _ (below_drewN ((Below.refl _ _).alloc (Nat.le_refl _) _) _)).mono ?_
        rintro e w1 ⟨rfl, hb1⟩
        have HB1 := hide (below_two hb1 (below_drewN ((Below.refl w.heap.size w).alloc (Nat.le_refl _) _) _))
        clear hb1
        cases hv : Cu.aheadP l k [] with
        | true =>
          rw [hv] at hr
          go_wp2
          go_ret
          exact ⟨by rw [unhide hr]; rfl, unhide HB1⟩
        | false =>
          rw [hv] at hr
          go_wp2
          go_ret
          exact ⟨by rw [unhide hr]; rfl, unhide HB1⟩
    · have d2 : ((x.2.1 : Int) == 63) = false := by rw [beq_eq_false_iff_ne]; omega
      have d3 : ((x.2.1 : Int) == 42) = false := by rw [beq_eq_false_iff_ne]; omega
      have hr : Hid (Cu.aheadP l (k + 1) [] = false) := hide (by rw [unhide HP, if_neg h32, if_neg hq])
      clear h32 hq
      go_enter Tryz.func101, Tryz.ntmps101
      go_wp2
      go_quiet (fail)
      go_wp2
      go_ret
      exact ⟨by rw [unhide hr]; rfl, below_drewN ((Below.refl _ _).alloc (Nat.le_refl _) _) _⟩
end Go.Proofs.YtbppbejigedioabGreatDoor
/- The reference's left sides: ahead. -/
namespace Go.Proofs.YtbppbejigedioabGreatDoor
open Go.RowKit

/-- A local behind a call. -/
theorem loc_kept {w w1 : World} {q : Nat} {x y z : Value} {t : TypeId} (hb : Below ((w.alloc (.cells #[x, y, z] t)).drewN q).heap.size ((w.alloc (.cells #[x, y, z] t)).drewN q) w1) : Blk w1 w.heap.size [x, y, z] t := by
  have h1 : Blk ((w.alloc (.cells #[x, y, z] t)).drewN q) w.heap.size [x, y, z] t := (Blk.new w [x, y, z] t).drewN q
  exact h1.below hb h1.lt

set_option maxRecDepth 100000 in
set_option maxHeartbeats 2000000 in
theorem ahead_cons (l : List Cu.Atom) (a : Option Addr) (cap base k m : Nat) (s : ByteArray) (w : World) (ho : w.ownsRow base 229 3 (.slice a l.length cap) l.length (atomCells l)) (hk : k < l.length) (hl : l.length ≤ 4) (hs : s.size = m + 1) (hm : m ≤ 1048576)
    (ih1 : ∀ W, Below w.heap.size w W → AheadIs l a cap k s W) (ih2 : ∀ W, Below w.heap.size w W → AheadIs l a cap k (s.extract 0 m) W) (ih3 : ∀ W, Below w.heap.size w W → AheadIs l a cap (k + 1) (s.extract 0 m) W) : AheadIs l a cap (k + 1) s w := by
  unfold AheadIs at ih1 ih2 ih3 ⊢
  obtain ⟨g, x, rfl, hx, c0, c1, c2⟩ := atom_cells ho k hk
  obtain ⟨hsl, _⟩ := str_last s m hs
  have hbe := byt_eq s m (by omega)
  have hP := aheadP_cons hx (s.extract 0 m).data.toList s[m]
  rw [← hsl, hbe] at hP
  have HI1 := hide ih1
  have HI2 := hide ih2
  have HI3 := hide ih3
  have HP := hide hP
  have hgw : g < w.heap.size := World.block_lt_of_cell? w ⟨g, k * 3, none⟩ c0
  have hng : g ≠ w.heap.size := by omega
  clear ih1 ih2 ih3 hP hx hsl ho
  generalize Cu.byt s.data.toList m = c at hbe HP
  generalize hPk : Cu.aheadP l k s.data.toList = pk at HI1 HP
  generalize hPs : Cu.aheadP l k (s.extract 0 m).data.toList = ps at HI2 HP
  generalize hP3 : Cu.aheadP l (k + 1) (s.extract 0 m).data.toList = p3 at HI3 HP
  generalize hPr : Cu.aheadP l (k + 1) s.data.toList = pr at HP ⊢
  clear hPk hPs hP3 hPr
  by_cases h32 : x.2.1 = 32
  · have d1 : ((x.2.1 : Int) == 32) = true := by rw [h32]; rfl
    have hr0 : Hid (pr = (Cu.isB c x.1 && ps)) := hide (by rw [unhide HP, if_pos h32])
    clear h32 HP
    cases hit : Cu.isB c x.1 with
    | false =>
      have hr : Hid (pr = false) := hide (by rw [unhide hr0, hit]; rfl)
      have hc := fun W => is_any c x.1 W
      rw [hit] at hc
      clear hit hr0
      go_enter Tryz.func101, Tryz.ntmps101
      go_wp2
      go_quiet ((go_at_call 137; exact (hc _).mono (fun _ _ h => ⟨h.1, _, h.2⟩)))
      go_wp2
      go_ret
      exact ⟨by rw [unhide hr]; rfl, below_drewN ((Below.refl _ _).alloc (Nat.le_refl _) _) _⟩
    | true =>
      have hr : Hid (pr = ps) := hide (by rw [unhide hr0, hit]; rfl)
      have hc := fun W => is_any c x.1 W
      rw [hit] at hc
      clear hit hr0
      go_enter Tryz.func101, Tryz.ntmps101
      go_wp2
      go_quiet ((go_at_call 137; exact (hc _).mono (fun _ _ h => ⟨h.1, _, h.2⟩)))
      go_wp2_with fail
      refine (unhide HI2 _ (below_drewN ((Below.refl _ _).alloc (Nat.le_refl _) _) _)).mono ?_
      rintro e w1 ⟨rfl, hb1⟩
      have HB1 := hide (below_two hb1 (below_drewN ((Below.refl w.heap.size w).alloc (Nat.le_refl _) _) _))
      clear hb1
      go_wp2
      go_ret
      exact ⟨by rw [unhide hr]; rfl, unhide HB1⟩
  · have d1 : ((x.2.1 : Int) == 32) = false := by rw [beq_eq_false_iff_ne]; omega
    have hr0 : Hid (pr = if (x.2.1 = 63 ∨ x.2.1 = 42) ∧ pk = true then true else if Cu.isB c x.1 = false then false else if ps = true ∨ x.2.1 = 63 then ps else p3) := hide (by rw [unhide HP, if_neg h32])
    clear h32 HP
    cases hit : Cu.isB c x.1 with
    | false =>
      have hc := fun W => is_any c x.1 W
      rw [hit] at hc
      have hd : x.2.1 = 63 ∨ (x.2.1 ≠ 63 ∧ x.2.1 = 42) ∨ (x.2.1 ≠ 63 ∧ x.2.1 ≠ 42) := by omega
      rcases hd with h63 | ⟨h63, h42⟩ | ⟨h63, h42⟩
      ·
        have d2 : ((x.2.1 : Int) == 63) = true := by rw [h63]; rfl
        have hr1 : Hid (pr = (if pk = true then true else false)) := hide (by rw [unhide hr0, hit]; simp [h63])
        clear hr0 h63 hit
        go_enter Tryz.func101, Tryz.ntmps101
        go_wp2
        go_quiet ((go_at_call 137; exact (hc _).mono (fun _ _ h => ⟨h.1, _, h.2⟩)))
        go_wp2_with fail
        refine (unhide HI1 _ (below_drewN ((Below.refl w.heap.size w).alloc (Nat.le_refl _) _) _)).mono ?_
        rintro e w1 ⟨rfl, hb1⟩
        have HB1 := hide (below_two hb1 (below_drewN ((Below.refl w.heap.size w).alloc (Nat.le_refl _) _) _))
        have hbk1 := hide (loc_kept hb1)
        have hc1' : w1.cell? ⟨w.heap.size, 1, none⟩ = some (.int .u8 x.2.1) := (unhide hbk1).cell 1
        clear hb1
        cases pk with
        | true =>
          go_wp2
          go_ret
          exact ⟨by rw [unhide hr1]; rfl, unhide HB1⟩
        | false =>
          go_wp2
          go_ret
          exact ⟨by rw [unhide hr1]; rfl, unhide HB1⟩
      ·
        have d2 : ((x.2.1 : Int) == 63) = false := by rw [beq_eq_false_iff_ne]; omega
        have d3 : ((x.2.1 : Int) == 42) = true := by rw [h42]; rfl
        have hr1 : Hid (pr = (if pk = true then true else false)) := hide (by rw [unhide hr0, hit]; simp [h42])
        clear hr0 h63 h42 hit
        go_enter Tryz.func101, Tryz.ntmps101
        go_wp2
        go_quiet ((go_at_call 137; exact (hc _).mono (fun _ _ h => ⟨h.1, _, h.2⟩)))
        go_wp2_with fail
        refine (unhide HI1 _ (below_drewN ((Below.refl w.heap.size w).alloc (Nat.le_refl _) _) _)).mono ?_
        rintro e w1 ⟨rfl, hb1⟩
        have HB1 := hide (below_two hb1 (below_drewN ((Below.refl w.heap.size w).alloc (Nat.le_refl _) _) _))
        have hbk1 := hide (loc_kept hb1)
        have hc1' : w1.cell? ⟨w.heap.size, 1, none⟩ = some (.int .u8 x.2.1) := (unhide hbk1).cell 1
        clear hb1
        cases pk with
        | true =>
          go_wp2
          go_ret
          exact ⟨by rw [unhide hr1]; rfl, unhide HB1⟩
        | false =>
          go_wp2
          go_ret
          exact ⟨by rw [unhide hr1]; rfl, unhide HB1⟩
      ·
        have d2 : ((x.2.1 : Int) == 63) = false := by rw [beq_eq_false_iff_ne]; omega
        have d3 : ((x.2.1 : Int) == 42) = false := by rw [beq_eq_false_iff_ne]; omega
        have hr1 : Hid (pr = (false)) := hide (by rw [unhide hr0, hit]; simp [h63, h42])
        clear hr0 h63 h42 hit
        go_enter Tryz.func101, Tryz.ntmps101
        go_wp2
        go_quiet ((go_at_call 137; exact (hc _).mono (fun _ _ h => ⟨h.1, _, h.2⟩)))
        go_wp2
        go_ret
        exact ⟨by rw [unhide hr1]; rfl, below_drewN ((Below.refl w.heap.size w).alloc (Nat.le_refl _) _) _⟩
    | true =>
      have hc := fun W => is_any c x.1 W
      rw [hit] at hc
      have hd : x.2.1 = 63 ∨ (x.2.1 ≠ 63 ∧ x.2.1 = 42) ∨ (x.2.1 ≠ 63 ∧ x.2.1 ≠ 42) := by omega
      rcases hd with h63 | ⟨h63, h42⟩ | ⟨h63, h42⟩
      ·
        have d2 : ((x.2.1 : Int) == 63) = true := by rw [h63]; rfl
        have hr1 : Hid (pr = (if pk = true then true else ps)) := hide (by rw [unhide hr0, hit]; simp [h63])
        clear hr0 h63 hit
        go_enter Tryz.func101, Tryz.ntmps101
        go_wp2
        go_quiet ((go_at_call 137; exact (hc _).mono (fun _ _ h => ⟨h.1, _, h.2⟩)))
        go_wp2_with fail
        refine (unhide HI1 _ (below_drewN ((Below.refl w.heap.size w).alloc (Nat.le_refl _) _) _)).mono ?_
        rintro e w1 ⟨rfl, hb1⟩
        have HB1 := hide (below_two hb1 (below_drewN ((Below.refl w.heap.size w).alloc (Nat.le_refl _) _) _))
        have hbk1 := hide (loc_kept hb1)
        have hc1' : w1.cell? ⟨w.heap.size, 1, none⟩ = some (.int .u8 x.2.1) := (unhide hbk1).cell 1
        clear hb1
        cases pk with
        | true =>
          go_wp2
          go_ret
          exact ⟨by rw [unhide hr1]; rfl, unhide HB1⟩
        | false =>
          go_wp2_with fail
          refine (unhide HI2 _ (unhide HB1)).mono ?_
          rintro e w2 ⟨rfl, hb2⟩
          have HB2 := hide (below_two hb2 (unhide HB1))
          have hc2' : w2.cell? ⟨w.heap.size, 1, none⟩ = some (.int .u8 x.2.1) := ((unhide hbk1).below hb2 (unhide hbk1).lt).cell 1
          clear hb2
          cases ps with
          | true =>
            go_wp2
            go_ret
            exact ⟨by rw [unhide hr1]; rfl, unhide HB2⟩
          | false =>
            go_wp2
            go_ret
            exact ⟨by rw [unhide hr1]; rfl, unhide HB2⟩
      ·
        have d2 : ((x.2.1 : Int) == 63) = false := by rw [beq_eq_false_iff_ne]; omega
        have d3 : ((x.2.1 : Int) == 42) = true := by rw [h42]; rfl
        have hr1 : Hid (pr = (if pk = true then true else if ps = true then ps else p3)) := hide (by rw [unhide hr0, hit]; simp [h42])
        clear hr0 h63 h42 hit
        go_enter Tryz.func101, Tryz.ntmps101
        go_wp2
        go_quiet ((go_at_call 137; exact (hc _).mono (fun _ _ h => ⟨h.1, _, h.2⟩)))
        go_wp2_with fail
        refine (unhide HI1 _ (below_drewN ((Below.refl w.heap.size w).alloc (Nat.le_refl _) _) _)).mono ?_
        rintro e w1 ⟨rfl, hb1⟩
        have HB1 := hide (below_two hb1 (below_drewN ((Below.refl w.heap.size w).alloc (Nat.le_refl _) _) _))
        have hbk1 := hide (loc_kept hb1)
        have hc1' : w1.cell? ⟨w.heap.size, 1, none⟩ = some (.int .u8 x.2.1) := (unhide hbk1).cell 1
        clear hb1
        cases pk with
        | true =>
          go_wp2
          go_ret
          exact ⟨by rw [unhide hr1]; rfl, unhide HB1⟩
        | false =>
          go_wp2_with fail
          refine (unhide HI2 _ (unhide HB1)).mono ?_
          rintro e w2 ⟨rfl, hb2⟩
          have HB2 := hide (below_two hb2 (unhide HB1))
          have hc2' : w2.cell? ⟨w.heap.size, 1, none⟩ = some (.int .u8 x.2.1) := ((unhide hbk1).below hb2 (unhide hbk1).lt).cell 1
          clear hb2
          cases ps with
          | true =>
            go_wp2
            go_ret
            exact ⟨by rw [unhide hr1]; rfl, unhide HB2⟩
          | false =>
            go_wp2_with fail
            refine (unhide HI3 _ (unhide HB2)).mono ?_
            rintro e w3 ⟨rfl, hb3⟩
            have HB3 := hide (below_two hb3 (unhide HB2))
            clear hb3
            go_wp2
            go_ret
            exact ⟨by rw [unhide hr1]; rfl, unhide HB3⟩
      ·
        have d2 : ((x.2.1 : Int) == 63) = false := by rw [beq_eq_false_iff_ne]; omega
        have d3 : ((x.2.1 : Int) == 42) = false := by rw [beq_eq_false_iff_ne]; omega
        have hr1 : Hid (pr = (if ps = true then ps else p3)) := hide (by rw [unhide hr0, hit]; simp [h63, h42])
        clear hr0 h63 h42 hit
        go_enter Tryz.func101, Tryz.ntmps101
        go_wp2
        go_quiet ((go_at_call 137; exact (hc _).mono (fun _ _ h => ⟨h.1, _, h.2⟩)))
        go_wp2_with fail
        refine (unhide HI2 _ (below_drewN ((Below.refl w.heap.size w).alloc (Nat.le_refl _) _) _)).mono ?_
        rintro e w2 ⟨rfl, hb2⟩
        have HB2 := hide (below_two hb2 (below_drewN ((Below.refl w.heap.size w).alloc (Nat.le_refl _) _) _))
        have hc2' : w2.cell? ⟨w.heap.size, 1, none⟩ = some (.int .u8 x.2.1) := (loc_kept hb2).cell 1
        clear hb2
        cases ps with
        | true =>
          go_wp2
          go_ret
          exact ⟨by rw [unhide hr1]; rfl, unhide HB2⟩
        | false =>
          go_wp2_with fail
          refine (unhide HI3 _ (unhide HB2)).mono ?_
          rintro e w3 ⟨rfl, hb3⟩
          have HB3 := hide (below_two hb3 (unhide HB2))
          clear hb3
          go_wp2
          go_ret
          exact ⟨by rw [unhide hr1]; rfl, unhide HB3⟩
end Go.Proofs.YtbppbejigedioabGreatDoor
/- The reference's behind and parted. -/
namespace Go.Proofs.YtbppbejigedioabGreatDoor
open Go.RowKit

set_option maxRecDepth 100000 in
set_option maxHeartbeats 400000 in
theorem ahead_zero (l : List Cu.Atom) (a : Option Addr) (cap : Nat) (s : ByteArray) (w : World) : AheadIs l a cap 0 s w := by
  unfold AheadIs
  rw [aheadP_zero]
  go_enter Tryz.func101, Tryz.ntmps101
  go_wp2
  go_ret
  exact ⟨rfl, Below.refl _ _⟩
theorem ahead_any (l : List Cu.Atom) (a : Option Addr) (cap base N n : Nat) (s : ByteArray) (w : World) (ho : w.ownsRow base 229 3 (.slice a l.length cap) l.length (atomCells l)) (hl : l.length ≤ 4) (hs : s.size ≤ 1048576) (hn : n ≤ l.length) (hN : n + s.size ≤ N) : AheadIs l a cap n s w := by
  induction N generalizing n s w with
  | zero =>
    obtain rfl : n = 0 := by omega
    exact ahead_zero l a cap s w
  | succ N ih =>
    cases n with
    | zero => exact ahead_zero l a cap s w
    | succ k =>
      by_cases h0 : s.size = 0
      · exact ahead_nil l a cap base k s w ho (by omega) hl h0 (fun W hW => ih k s W (own_below ho hW) hs (by omega) (by omega))
      · obtain ⟨m, hm⟩ : ∃ m, s.size = m + 1 := ⟨s.size - 1, by omega⟩
        have hx := (str_last s m hm).2
        exact ahead_cons l a cap base k m s w ho (by omega) hl hm (by omega) (fun W hW => ih k s W (own_below ho hW) hs (by omega) (by omega))
          (fun W hW => ih k (s.extract 0 m) W (own_below ho hW) (by omega) (by omega) (by omega)) (fun W hW => ih (k + 1) (s.extract 0 m) W (own_below ho hW) (by omega) hn (by omega))

namespace Cu
/-- Do the signs stand at the beginning? -/
def behindP : List Atom → List UInt8 → Bool
  | [], _ => true
  | _ :: _, [] => false
  | x :: l, c :: s => isB c.toNat x.1 && behindP l s
theorem behindP_short {l : List Atom} {s : List UInt8} (h : s.length < l.length) : behindP l s = false := by
  induction l generalizing s with
  | nil => simp at h
  | cons x l ih =>
    cases s with
    | nil => rfl
    | cons c s => simp at h; simp [behindP, ih h]
theorem behindP_step {l : List Atom} {s : List UInt8} {i : Nat} {x : Atom} (h : l[i]? = some x) (hi : i < s.length) : behindP (l.drop i) (s.drop i) = (isB (byt s i) x.1 && behindP (l.drop (i + 1)) (s.drop (i + 1))) := by
  have hk : i < l.length := (List.getElem?_eq_some_iff.1 h).1
  rw [← List.getElem_cons_drop hk, (List.getElem?_eq_some_iff.1 h).2, ← List.getElem_cons_drop hi, behindP]
  have e : byt s i = s[i].toNat := by unfold byt; rw [List.getD_eq_getElem?_getD, List.getElem?_eq_getElem hi]; rfl
  rw [e]
/-- Is there a cut between the classes ahead and those behind? -/
def partedP : List Ln → List UInt8 → List UInt8 → Bool
  | [], _, _ => true
  | x :: r, a, b => if x.op ≠ 0 ∧ aheadP x.left x.left.length a = true ∧ behindP x.right b = true then x.op == 124 else partedP r a b
theorem partedP_hit {l : List Ln} {n : Nat} {x : Ln} {a b : List UInt8} (h : l[n]? = some x) (h1 : x.op ≠ 0) (h2 : aheadP x.left x.left.length a = true) (h3 : behindP x.right b = true) : partedP (l.drop n) a b = (x.op == 124) := by
  have hk : n < l.length := (List.getElem?_eq_some_iff.1 h).1
  rw [← List.getElem_cons_drop hk, (List.getElem?_eq_some_iff.1 h).2, partedP, if_pos ⟨h1, h2, h3⟩]
theorem partedP_next {l : List Ln} {n : Nat} {x : Ln} {a b : List UInt8} (h : l[n]? = some x) (h1 : ¬ (x.op ≠ 0 ∧ aheadP x.left x.left.length a = true ∧ behindP x.right b = true)) : partedP (l.drop n) a b = partedP (l.drop (n + 1)) a b := by
  have hk : n < l.length := (List.getElem?_eq_some_iff.1 h).1
  rw [← List.getElem_cons_drop hk, (List.getElem?_eq_some_iff.1 h).2, partedP, if_neg h1]
end Cu

set_option maxRecDepth 100000 in
set_option maxHeartbeats 1000000 in
theorem behind_any (l : List Cu.Atom) (a : Option Addr) (cap base : Nat) (s : ByteArray) (w : World) (ho : w.ownsRow base 229 3 (.slice a l.length cap) l.length (atomCells l)) (hl : l.length ≤ 4) (hs : s.size ≤ 1048576) :
    Calls Tryz.prog 102 #[.slice a l.length cap, .string s] w fun e w' => e = .returned (.bool (Cu.behindP l s.data.toList)) ∧ Below w.heap.size w w' := by
  have HO := hide ho
  clear ho
  by_cases hsh : s.size < l.length
  · have hr : Hid (Cu.behindP l s.data.toList = false) := hide (Cu.behindP_short (by rw [len_toList]; exact hsh))
    go_enter Tryz.func102, Tryz.ntmps102
    go_wp2
    go_ret
    exact ⟨by rw [unhide hr]; rfl, Below.refl _ _⟩
  · go_enter Tryz.func102, Tryz.ntmps102
    go_wp2
    go_loopw [5] (fun v wr => ∃ n : Nat, n ≤ l.length ∧ v = .int .i64 n ∧ Below w.heap.size w wr ∧ Cu.behindP (l.drop n) (s.data.toList.drop n) = Cu.behindP l s.data.toList) (fun v _ => 6 - (intOf v).toNat)
    case atStart =>
      go_light
      exact ⟨0, Nat.zero_le _, rfl, Below.refl _ _, rfl⟩
    case round =>
      obtain ⟨n, hn, rfl, hb, hbe⟩ := hrel
      have HBE := hide hbe
      clear hbe
      by_cases hlt : n < l.length
      · obtain ⟨g, x, rfl, hx, c0, c1, c2⟩ := atom_cells (own_below (unhide HO) hb) n hlt
        have hns : n < s.size := by omega
        have hbt := byt_eq s n hns
        have hst := Cu.behindP_step hx (show n < s.data.toList.length by rw [len_toList]; exact hns)
        have HST := hide hst
        clear hst hx
        generalize Cu.byt s.data.toList n = c at hbt HST
        have hc := fun W => is_any c x.1 W
        cases hit : Cu.isB c x.1 with
        | true =>
          have hr : Hid (Cu.behindP (l.drop (n + 1)) (s.data.toList.drop (n + 1)) = Cu.behindP l s.data.toList) := hide (by rw [← unhide HBE, unhide HST, hit]; rfl)
          rw [hit] at hc
          clear hit
          go_wp2
          go_quiet ((go_at_call 137; exact (hc _).mono (fun _ _ h => ⟨h.1, _, h.2⟩)))
          have hfin : Hid (∀ q, ∃ m : Nat, m ≤ l.length ∧ Value.int .i64 ((n : Int) + 1) = .int .i64 m ∧ Below w.heap.size w (wr.drewN q) ∧ Cu.behindP (l.drop m) (s.data.toList.drop m) = Cu.behindP l s.data.toList) := hide (fun q => ⟨n + 1, by omega, by go_num, below_drewN hb q, unhide hr⟩)
          go_wp2
          go_roundw
          case rel => first | exact unhide hfin _ | ((repeat apply Exists.intro); exact ⟨unhide hfin _, rfl⟩)
          case measure => simp [intOf]; omega
        | false =>
          have hr : Hid (Cu.behindP l s.data.toList = false) := hide (by rw [← unhide HBE, unhide HST, hit]; rfl)
          rw [hit] at hc
          clear hit
          go_wp2
          go_quiet ((go_at_call 137; exact (hc _).mono (fun _ _ h => ⟨h.1, _, h.2⟩)))
          go_wp2
          go_ret
          exact ⟨by rw [unhide hr]; rfl, below_drewN hb _⟩
      · have hr : Hid (Cu.behindP l s.data.toList = true) := hide (by rw [← unhide HBE, List.drop_eq_nil_of_le (by omega)]; rfl)
        go_wp2
        go_ret
        exact ⟨by rw [unhide hr]; rfl, hb⟩

set_option maxRecDepth 100000 in
set_option maxHeartbeats 1000000 in
theorem parted_any (L : List (Cu.Ln × Refs)) (a : Option Addr) (cap base : Nat) (s t : ByteArray) (w : World) (ho : w.ownsRow base 162 6 (.slice a L.length cap) L.length (linesCells L)) (hlo : LinesOwn w base L) (hL : L.length ≤ 12) (hF : ∀ y ∈ L, y.1.left.length ≤ 4 ∧ y.1.right.length ≤ 4)
    (hs : s.size ≤ 1048576) (ht : t.size ≤ 1048576) :
    Calls Tryz.prog 62 #[.slice a L.length cap, .string s, .string t] w fun e w' => e = .returned (.bool (Cu.partedP (L.map Prod.fst) s.data.toList t.data.toList)) ∧ Below w.heap.size w w' := by
  have hrowlt : ∀ wr, Below w.heap.size w wr → wr.ownsRow base 162 6 (.slice a L.length cap) L.length (linesCells L) ∧ LinesOwn wr base L := fun wr hb => ⟨own_below ho hb, hlo.below hb⟩
  have HROW := hide hrowlt
  have HF := hide hF
  clear hrowlt ho hlo hF
  go_enter Tryz.func62, Tryz.ntmps62
  go_wp2
  go_loopw [7] (fun v wr => ∃ n : Nat, n ≤ L.length ∧ v = .int .i64 n ∧ Below w.heap.size w wr ∧ Cu.partedP ((L.map Prod.fst).drop n) s.data.toList t.data.toList = Cu.partedP (L.map Prod.fst) s.data.toList t.data.toList) (fun v _ => 14 - (intOf v).toNat)
  case atStart =>
    go_light
    exact ⟨0, Nat.zero_le _, rfl, Below.refl _ _, rfl⟩
  case round =>
    obtain ⟨n, hn, rfl, hb, hpe⟩ := hrel
    have HPE := hide hpe
    clear hpe
    by_cases hlt : n < L.length
    · obtain ⟨ho1, hlo1⟩ := unhide HROW wr hb
      obtain ⟨g, x, r, rfl, a1, a2, a3, c0, c1, c2, c3, c4, c5⟩ := line_cells ho1 n hlt
      obtain ⟨hfl, hfr⟩ := unhide HF _ a3
      simp only at hfl hfr
      have hown := hlo1 _ a3
      have HA2 := hide a2
      have HA1 := hide a1
      by_cases h0 : x.op = 0
      · have hr : Hid (∃ m : Nat, m ≤ L.length ∧ Value.int .i64 ((n : Int) + 1) = .int .i64 m ∧ Below w.heap.size w wr ∧ Cu.partedP ((L.map Prod.fst).drop m) s.data.toList t.data.toList = Cu.partedP (L.map Prod.fst) s.data.toList t.data.toList) :=
          hide ⟨n + 1, by omega, by go_num, hb, by rw [← unhide HPE, Cu.partedP_next (unhide HA2) (fun h => h.1 h0)]⟩
        have d0 : ((x.op : Int) == 0) = true := by rw [h0]; rfl
        clear h0 ho1 hlo1 a1 a2 a3 hown c0 c1 c3 c4 c5
        go_wp2
        go_roundw
        case rel => first | exact unhide hr | ((repeat apply Exists.intro); exact ⟨unhide hr, rfl⟩)
        case measure => simp [intOf]; omega
      · have d0 : ((x.op : Int) == 0) = false := by rw [beq_eq_false_iff_ne]; omega
        have hA := fun W (hW : Below wr.heap.size wr W) => ahead_any x.left r.aL r.cL base (x.left.length + s.size) x.left.length s W (own_below hown.2.1 hW) hfl hs (Nat.le_refl _) (Nat.le_refl _)
        have hBh := fun W (hW : Below wr.heap.size wr W) => behind_any x.right r.aR r.cR base t W (own_below hown.2.2 hW) hfr ht
        unfold AheadIs at hA
        have HA := hide hA
        have HBH := hide hBh
        have HROW2 := hide (fun W (hW : Below wr.heap.size wr W) => (own_below ho1 hW))
        have hgw : g < wr.heap.size := World.block_lt_of_cell? wr ⟨g, n * 6, none⟩ c0
        clear ho1 hlo1 a1 a2 a3 hown c0 c1 hA hBh c5
        go_upto_region 5 with fail
        go_cut [8] (fun b wc => b = .bool (Cu.aheadP x.left x.left.length s.data.toList) ∧ Below wr.heap.size wr wc)
        case first =>
          go_region_with (go_at_call 101; refine (unhide HA _ ((Below.refl _ wr).drew)).mono ?_; rintro e w3 ⟨rfl, hb3⟩)
          all_goals
            go_wp2_with fail
            go_meet
            case rel => exact ⟨rfl, ((Below.refl _ wr).drew).trans hb3⟩
        case rest =>
          obtain ⟨rfl, hb3⟩ := hcut
          obtain ⟨g', x3, r3, hg', a1, a2, a3, e0, e1, e2, e3, e4, e5⟩ := line_cells (unhide HROW2 _ hb3) n hlt
          obtain rfl : g = g' := by simpa using hg'
          obtain ⟨rfl, rfl⟩ : x = x3 ∧ r = r3 := by have h := unhide HA1; rw [a1] at h; simpa [eq_comm] using h
          have HB3 := hide hb3
          have hbw := hide (hb.trans (hb3.mono hb.size))
          have hb3s := hb3.size
          have hnext : Hid (∀ W, Below w.heap.size w W → ¬ (x.op ≠ 0 ∧ Cu.aheadP x.left x.left.length s.data.toList = true ∧ Cu.behindP x.right t.data.toList = true) → ∃ m : Nat, m ≤ L.length ∧ Value.int .i64 ((n : Int) + 1) = .int .i64 m ∧ Below w.heap.size w W ∧ Cu.partedP ((L.map Prod.fst).drop m) s.data.toList t.data.toList = Cu.partedP (L.map Prod.fst) s.data.toList t.data.toList) :=
            hide (fun W hW hno => ⟨n + 1, by omega, by go_num, hW, by rw [← unhide HPE, Cu.partedP_next (unhide HA2) hno]⟩)
          clear hb3 c2 c3 c4 a1 a2 a3 hg' e0 e1 e3 e5
          cases hav : Cu.aheadP x.left x.left.length s.data.toList with
          | false =>
            have hr := hide (unhide hnext wc (unhide hbw) (fun h => by rw [hav] at h; exact absurd h.2.1 (by decide)))
            clear hav hnext
            go_wp2
            go_roundw
            case rel => first | exact unhide hr | ((repeat apply Exists.intro); exact ⟨unhide hr, rfl⟩)
            case measure => simp [intOf]; omega
          | true =>
            have HAV := hide hav
            clear hav
            go_wp2_with fail
            refine (unhide HBH _ (unhide HB3)).mono ?_
            rintro e w4 ⟨rfl, hb4⟩
            obtain ⟨g', x4, r4, hg', a1, a2, a3, f0, f1, f2, f3, f4, f5⟩ := line_cells (unhide HROW2 _ ((unhide HB3).trans (hb4.mono hb3s))) n hlt
            obtain rfl : g = g' := by simpa using hg'
            obtain ⟨rfl, rfl⟩ : x = x4 ∧ r = r4 := by have h := unhide HA1; rw [a1] at h; simpa [eq_comm] using h
            have HB4 := hide ((unhide hbw).trans (hb4.mono (unhide hbw).size))
            clear hb4 a1 a2 a3 hg' f0 f1 f3 f4 f5 e2 e4
            cases hbv : Cu.behindP x.right t.data.toList with
            | false =>
              have hr := hide (unhide hnext w4 (unhide HB4) (fun h => by rw [hbv] at h; exact absurd h.2.2 (by decide)))
              clear hbv hnext
              go_wp2
              go_roundw
              case rel => first | exact unhide hr | ((repeat apply Exists.intro); exact ⟨unhide hr, rfl⟩)
              case measure => simp [intOf]; omega
            | true =>
              have hr : Hid (Cu.partedP (L.map Prod.fst) s.data.toList t.data.toList = (x.op == 124)) := hide (by rw [← unhide HPE, Cu.partedP_hit (unhide HA2) h0 (unhide HAV) hbv])
              clear hbv hnext
              by_cases h124 : x.op = 124
              · have d1 : ((x.op : Int) == 124) = true := by rw [h124]; rfl
                have hr2 : Hid (Cu.partedP (L.map Prod.fst) s.data.toList t.data.toList = true) := hide (by rw [unhide hr, h124]; rfl)
                clear h124 hr h0
                go_wp2
                go_ret
                exact ⟨by rw [unhide hr2]; rfl, unhide HB4⟩
              · have d1 : ((x.op : Int) == 124) = false := by rw [beq_eq_false_iff_ne]; omega
                have hr2 : Hid (Cu.partedP (L.map Prod.fst) s.data.toList t.data.toList = false) := hide (by rw [unhide hr, beq_eq_false_iff_ne]; exact h124)
                clear h124 hr h0
                go_wp2
                go_ret
                exact ⟨by rw [unhide hr2]; rfl, unhide HB4⟩
    · have hr : Hid (Cu.partedP (L.map Prod.fst) s.data.toList t.data.toList = true) := hide (by rw [← unhide HPE, List.drop_eq_nil_of_le (by simp; omega)]; rfl)
      go_wp2
      go_ret
      exact ⟨by rw [unhide hr]; rfl, hb⟩
end Go.Proofs.YtbppbejigedioabGreatDoor
