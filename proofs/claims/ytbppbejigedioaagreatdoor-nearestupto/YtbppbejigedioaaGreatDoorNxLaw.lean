/- Next, the program's and the document's; the laws Nexts and Nearest walked. -/
import Derived.Test.YtbppbejigedioaaGreatDoorLawA
namespace Go.Proofs.YtbppbejigedioaaGreatDoor
open Go.RowKit

namespace Cu
/-- The first cut above a place. -/
def firstAbove (out : List Nat) (p : Int) : Option Nat := out.find? fun c => decide (p < (c : Int))
/-- What Next is to answer of the cuts. -/
def nextP (out : List Nat) (p : Int) : Nat × Nat := if p < 0 then (0, 6) else ((firstAbove out p).map fun c => (c, 0)).getD (0, 6)
theorem first_count (out : List Nat) (p : Int) (h : out.Pairwise (· < ·)) : firstAbove out p = out[(out.map fun c : Nat => (c : Int)).countP (fun c => decide (c < p + 1))]? := by
  induction out with
  | nil => rfl
  | cons x r ih =>
    obtain ⟨h1, h2⟩ := List.pairwise_cons.1 h
    unfold firstAbove at ih ⊢
    rw [List.find?_cons, List.map_cons, List.countP_cons]
    by_cases hx : p < (x : Int)
    · have hz : (r.map fun c : Nat => (c : Int)).countP (fun c => decide (c < p + 1)) = 0 := by
        rw [List.countP_eq_zero]
        intro c hc
        obtain ⟨y, hy, rfl⟩ := List.mem_map.1 hc
        have := h1 y hy
        simp only [decide_eq_true_eq]
        omega
      rw [decide_eq_true hx, hz, if_neg (by simp only [decide_eq_true_eq]; omega)]
      rfl
    · rw [decide_eq_false hx, if_pos (by simp only [decide_eq_true_eq]; omega), ih h2]
      rfl
theorem first_in {l : List Ln} {t : List UInt8} {p : Int} (h0 : 0 ≤ p) (h1 : p < (t.length : Int)) : ∃ c, firstAbove (cutsR l t) p = some c := by
  unfold firstAbove
  cases h : (cutsR l t).find? (fun c : Nat => decide (p < (c : Int))) with
  | some c => exact ⟨c, rfl⟩
  | none =>
    rw [List.find?_eq_none] at h
    have hm : t.length ∈ cutsR l t := by unfold cutsR; rw [if_pos (by omega)]; simp
    have := h _ hm
    simp only [decide_eq_true_eq] at this
    omega
theorem first_out {l : List Ln} {t : List UInt8} {p : Int} (h1 : ¬ p < (t.length : Int)) : firstAbove (cutsR l t) p = none := by
  unfold firstAbove
  rw [List.find?_eq_none]
  intro c hc
  simp only [decide_eq_true_eq]
  by_cases ht : 0 < t.length
  · have := (framed l ht).le c hc
    omega
  · have : t = [] := List.eq_nil_of_length_eq_zero (by omega)
    subst this
    simp [cutsR, chars_nil, cutsTo] at hc
theorem first_least {out : List Nat} {p : Int} {c : Nat} (h : out.Pairwise (· < ·)) (hc : firstAbove out p = some c) : c ∈ out ∧ p < (c : Int) ∧ ∀ x ∈ out, p < (x : Int) → c ≤ x := by
  induction out with
  | nil => cases hc
  | cons y r ih =>
    obtain ⟨h1, h2⟩ := List.pairwise_cons.1 h
    unfold firstAbove at hc ih
    rw [List.find?_cons] at hc
    by_cases hy : p < (y : Int)
    · rw [decide_eq_true hy] at hc
      simp only [Option.some.injEq] at hc
      subst hc
      refine ⟨by simp, hy, ?_⟩
      intro x hx _
      rcases List.mem_cons.1 hx with rfl | hx
      · exact Nat.le_refl _
      · exact Nat.le_of_lt (h1 x hx)
    · rw [decide_eq_false hy] at hc
      obtain ⟨a1, a2, a3⟩ := ih h2 hc
      refine ⟨by simp [a1], a2, ?_⟩
      intro x hx hpx
      rcases List.mem_cons.1 hx with rfl | hx
      · exact absurd hpx hy
      · exact a3 x hx hpx
theorem itemsBad_le (l : List Ln) (n k : Nat) (its : List Item) (e : Nat × Nat) (h : itemsBad l n k its = some e) : e.1 ≤ 5 := by
  induction its generalizing k with
  | nil => cases h
  | cons y r ih =>
    rw [itemsBad] at h
    cases hy : itemBad l n k y with
    | none => rw [hy] at h; exact ih _ h
    | some e' =>
      rw [hy] at h
      simp only [Option.some.injEq] at h
      subst h
      unfold itemBad at hy
      split at hy
      · simp at hy; subst hy; simp
      · split at hy
        · simp at hy; subst hy; simp
        · cases hy
theorem wrong_le (l : List Ln) (n : Nat) (x : Ln) : (wrong l n x).1 ≤ 5 := by
  unfold wrong
  split
  · simp
  · cases h : itemsBad l n 0 x.items with
    | some e => exact itemsBad_le l n 0 x.items e h
    | none =>
      cases unnamed l n x.left with
      | some p => simp
      | none => cases unnamed l n x.right <;> simp
theorem wrongs_le (l : List Ln) (n : Nat) (r : List Ln) : (wrongs l n r).1 ≤ 5 := by
  induction r generalizing n with
  | nil => simp [wrongs]
  | cons x r ih =>
    rw [wrongs]
    split
    · exact wrong_le l n x
    · exact ih _
theorem check_le (s : List UInt8) : (check s).1 ≤ 5 := by
  unfold check
  split
  · simp
  · split
    · simp
    · exact wrongs_le _ _ _
end Cu
/-- What Next is to answer. -/
def nextOut (f t : List UInt8) (p : Int) : Nat × Nat × Nat := if (Cu.check f).1 = 0 then ((Cu.nextP (Cu.cutsR (Cu.readGo f 12 0 []).2.2 t) p).1, (Cu.nextP (Cu.cutsR (Cu.readGo f 12 0 []).2.2 t) p).2, 0) else (0, (Cu.check f).1, (Cu.check f).2)
def NextRes (f t : ByteArray) (p : Int) (w : World) (e : Ending) (w' : World) : Prop :=
  e = .returned (.tuple #[.int .i64 (nextOut f.data.toList t.data.toList p).1, .int .i64 (nextOut f.data.toList t.data.toList p).2.1, .int .i64 (nextOut f.data.toList t.data.toList p).2.2]) ∧ Below w.heap.size w w'

set_option maxRecDepth 100000 in
set_option maxHeartbeats 1000000 in
theorem pnext_any (f t : ByteArray) (p : Int) (w : World) (hf : f.size ≤ 9223372036854775807) (ht : t.size ≤ 1048576) (hT : Tabs w) (hw3 : 4 < w.heap.size) (hg : ErrT w) (hz : Tz w) :
    Calls Tryz.prog 28 #[.string f, .string t, .int .i64 p] w fun e w' => NextRes f t p w e w' := by
  have HP := hide (pcut_any f t w hf ht hT hw3 hg hz)
  have hol := cutOut_len f t ht
  clear hT hg hz
  go_enter Tryz.func28, Tryz.ntmps28
  go_wp2_with fail
  refine (unhide HP).mono ?_
  rintro e w1 (⟨hc, rfl, hb⟩ | ⟨hc, a, cap, rfl, ho, hb⟩)
  · have hfin : Hid (NextRes f t p w (.returned (.tuple #[.int .i64 0, .int .i64 (Cu.check f.data.toList).1, .int .i64 (Cu.check f.data.toList).2])) w1) := hide (by
      unfold NextRes nextOut
      rw [if_neg hc]
      exact ⟨rfl, hb⟩)
    have dc : (((Cu.check f.data.toList).1 : Int) != 0) = true := by simp; omega
    clear hc hb
    go_wp2
    go_ret3
    exact unhide hfin
  · have hout : Hid (∀ c, nextOut f.data.toList t.data.toList p = c ↔ ((Cu.nextP (Cu.cutsR (Cu.readGo f.data.toList 12 0 []).2.2 t.data.toList) p).1, (Cu.nextP (Cu.cutsR (Cu.readGo f.data.toList 12 0 []).2.2 t.data.toList) p).2, 0) = c) := hide (fun c => by unfold nextOut; rw [if_pos hc])
    have HB := hide hb
    by_cases hp0 : p < 0
    · have hfin : Hid (NextRes f t p w (.returned (.tuple #[.int .i64 0, .int .i64 6, .int .i64 0])) w1) := hide (by
        unfold NextRes
        rw [(unhide hout _).2 rfl]
        unfold Cu.nextP
        rw [if_pos hp0]
        exact ⟨rfl, hb⟩)
      clear hc hb ho hout
      go_wp2
      go_ret3
      exact unhide hfin
    · by_cases hpt : p < (t.size : Int)
      · obtain ⟨c, hcc⟩ := Cu.first_in (l := (Cu.readGo f.data.toList 12 0 []).2.2) (t := t.data.toList) (p := p) (by omega) (by rw [len_toList]; exact hpt)
        have hfin : Hid (∀ q, NextRes f t p w (.returned (.tuple #[.int .i64 c, .int .i64 0, .int .i64 0])) (w1.drewN q)) := hide (fun q => by
          unfold NextRes
          rw [(unhide hout _).2 rfl]
          unfold Cu.nextP
          rw [if_neg hp0, hcc]
          exact ⟨rfl, below_drawn hb q⟩)
        have hpair := Cu.cutsR_pair (Cu.readGo f.data.toList 12 0 []).2.2 t.data.toList
        rw [Cu.first_count _ _ hpair] at hcc
        have hlen : (Cu.cutsR (Cu.readGo f.data.toList 12 0 []).2.2 t.data.toList).length ≤ 1048577 := by
          unfold cutOut at hol
          rw [if_pos hc] at hol
          exact hol
        generalize Cu.cutsR (Cu.readGo f.data.toList 12 0 []).2.2 t.data.toList = out at *
        have hidx : (out.map fun c : Nat => (c : Int)).countP (fun c => decide (c < p + 1)) < out.length := (List.getElem?_eq_some_iff.1 hcc).1
        obtain ⟨g, rfl⟩ := own_some ho (by omega)
        have hcell : w1.cell? ⟨g, (out.map fun c : Nat => (c : Int)).countP (fun c => decide (c < p + 1)), none⟩ = some (.int .i64 c) := by
          rw [ho.cellAt _ (by omega)]
          unfold intCells
          rw [List.getElem?_map, hcc]
          rfl
        have hbs := Tryz.slices_BinarySearch_int g 0 out.length cap (out.map fun c : Nat => (c : Int)) (p + 1) w1 (by simp) (by omega) (fun j hj => by
          have hj2 : j < out.length := by simpa using hj
          rw [Nat.zero_add, ho.cellAt j (by omega)]
          unfold intCells
          simp [List.getD, hj2]) (by
          rw [List.take_of_length_le (by simp), List.pairwise_map]
          exact hpair.imp (fun h => by omega))
        rw [List.take_of_length_le (by simp)] at hbs
        generalize (out.map fun c : Nat => (c : Int)).contains (p + 1) = bb at hbs
        have hcnt : (out.map fun c : Nat => (c : Int)).countP (fun x => decide (x < p + 1)) = (out.map fun c : Nat => (c : Int)).countP (fun c => decide (c < p + 1)) := rfl
        generalize hcn : (out.map fun c : Nat => (c : Int)).countP (fun c => decide (c < p + 1)) = n at *
        have HBS := hide hbs
        clear hc hb ho hout hcc hpair hbs hcnt hcn
        go_wp2_with fail
        refine (unhide HBS).mono ?_
        rintro e w2 ⟨rfl, q, rfl⟩
        go_wp2
        go_ret3
        exact unhide hfin q
      · have hfin : Hid (NextRes f t p w (.returned (.tuple #[.int .i64 0, .int .i64 6, .int .i64 0])) w1) := hide (by
          unfold NextRes
          rw [(unhide hout _).2 rfl]
          unfold Cu.nextP
          rw [if_neg hp0, Cu.first_out (by rw [len_toList]; exact hpt)]
          exact ⟨rfl, hb⟩)
        have hpt2 : (t.size : Int) ≤ p := by omega
        clear hc hb ho hout
        go_wp2
        go_ret3
        exact unhide hfin

set_option maxRecDepth 100000 in
set_option maxHeartbeats 1000000 in
theorem refnext_any (f t : ByteArray) (p : Int) (w : World) (hf : f.size ≤ 9223372036854775807) (ht : t.size ≤ 1048576) :
    Calls Tryz.prog 29 #[.string f, .string t, .int .i64 p] w fun e w' => NextRes f t p w e w' := by
  have HP := hide (refCut_any f t w hf ht)
  have hol := cutOut_len f t ht
  go_enter Tryz.func29, Tryz.ntmps29
  go_wp2_with fail
  refine (unhide HP).mono ?_
  rintro e w1 (⟨hc, rfl, hb⟩ | ⟨hc, a, cap, rfl, ho, hb⟩)
  · have hfin : Hid (NextRes f t p w (.returned (.tuple #[.int .i64 0, .int .i64 (Cu.check f.data.toList).1, .int .i64 (Cu.check f.data.toList).2])) w1) := hide (by
      unfold NextRes nextOut
      rw [if_neg hc]
      exact ⟨rfl, hb⟩)
    have dc : (((Cu.check f.data.toList).1 : Int) != 0) = true := by simp; omega
    clear hc hb
    go_wp2
    go_ret3
    exact unhide hfin
  · have hlen : (Cu.cutsR (Cu.readGo f.data.toList 12 0 []).2.2 t.data.toList).length ≤ 1048577 := by
      unfold cutOut at hol
      rw [if_pos hc] at hol
      exact hol
    have hout : Hid (∀ c q, Cu.nextP (Cu.cutsR (Cu.readGo f.data.toList 12 0 []).2.2 t.data.toList) p = (c, q) → NextRes f t p w (.returned (.tuple #[.int .i64 c, .int .i64 q, .int .i64 0])) w1) := hide (fun c q h => by
      unfold NextRes nextOut
      rw [if_pos hc, h]
      exact ⟨rfl, hb⟩)
    clear hb hol HP hc
    generalize Cu.cutsR (Cu.readGo f.data.toList 12 0 []).2.2 t.data.toList = out at *
    have HO := hide ho
    clear ho
    go_wp2
    go_loopw [12] (fun v wr => ∃ n : Nat, n ≤ out.length ∧ v = .int .i64 n ∧ wr = w1 ∧ (out.take n).find? (fun c : Nat => decide (p < (c : Int))) = none) (fun v _ => 1048580 - (intOf v).toNat)
    case atStart =>
      go_light
      exact ⟨0, Nat.zero_le _, rfl, rfl, by simp⟩
    case round =>
      obtain ⟨n, hn, rfl, rfl, hno⟩ := hrel
      have HNO := hide hno
      clear hno
      by_cases hp0 : p < 0
      · have hfin := hide (unhide hout 0 6 (by unfold Cu.nextP; rw [if_pos hp0]))
        have hp0' : ¬ (0 : Int) ≤ p := by omega
        clear hout
        go_wp2
        go_ret3
        exact unhide hfin
      · have hp0' : (0 : Int) ≤ p := by omega
        by_cases hlt : n < out.length
        · obtain ⟨g, x, rfl, hx, c0⟩ := int_cell (unhide HO) n hlt
          by_cases hxp : p < (x : Int)
          · have hfin := hide (unhide hout x 0 (by
              unfold Cu.nextP Cu.firstAbove
              rw [if_neg hp0, Cu.find_some_at hx (unhide HNO) (decide_eq_true hxp)]
              rfl))
            clear hout hx
            go_wp2
            go_ret3
            exact unhide hfin
          · have hrel2 : Hid (∃ m : Nat, m ≤ out.length ∧ Value.int .i64 ((n : Int) + 1) = .int .i64 m ∧ True ∧ (out.take m).find? (fun c : Nat => decide (p < (c : Int))) = none) := hide ⟨n + 1, by omega, by go_num, trivial, Cu.find_none_succ hx (unhide HNO) (decide_eq_false hxp)⟩
            clear hout hx
            go_wp2
            go_roundw
            case rel => first | exact unhide hrel2 | ((repeat apply Exists.intro); exact ⟨unhide hrel2, rfl⟩)
            case measure => simp [intOf]; omega
        · have hfin := hide (unhide hout 0 6 (by
            have h := unhide HNO
            rw [List.take_of_length_le (by omega)] at h
            unfold Cu.nextP Cu.firstAbove
            rw [if_neg hp0, h]
            rfl))
          clear hout
          go_wp2
          go_ret3
          exact unhide hfin

set_option maxRecDepth 100000 in
set_option maxHeartbeats 1000000 in
theorem nexts_walk (f t : ByteArray) (p : Int) (w : World) (hf : f.size ≤ 9223372036854775807) (ht : t.size ≤ 1048576) (hT : Tabs w) (hw3 : 4 < w.heap.size) (hg : ErrT w) (hz : Tz w) :
    Calls Tryz.prog 11 #[.string f, .string t, .int .i64 p] w fun e w' => e = .returned (.bool true) ∧ Below w.heap.size w w' := by
  have HP := hide (pnext_any f t p w hf ht hT hw3 hg hz)
  have HR := hide (fun W => refnext_any f t p W hf ht)
  unfold NextRes at HP HR
  generalize nextOut f.data.toList t.data.toList p = o at HP HR
  obtain ⟨n, c, q⟩ := o
  simp only at HP HR
  clear hg hT hz
  go_enter Tryz.func11, Tryz.ntmps11
  go_wp2_with fail
  refine (unhide HP).mono ?_
  rintro e w1 ⟨rfl, hb1⟩
  have HB1 := hide hb1
  clear hb1
  go_wp2_with fail
  refine (unhide HR w1).mono ?_
  rintro e w2 ⟨rfl, hb2⟩
  have HB2 := hide (below_two hb2 (unhide HB1))
  clear hb2
  go_wp2_with (go_at_call 17; refine (num_any _ _).mono ?_; rintro e w' ⟨rfl, rfl⟩)
  go_ret
  exact ⟨rfl, unhide HB2⟩

set_option maxRecDepth 100000 in
set_option maxHeartbeats 2000000 in
theorem nearest_walk (f t : ByteArray) (p : Int) (w : World) (hf : f.size ≤ 9223372036854775807) (ht : t.size ≤ 1048576) (hT : Tabs w) (hw3 : 4 < w.heap.size) (hg : ErrT w) (hz : Tz w) :
    Calls Tryz.prog 12 #[.string f, .string t, .int .i64 p] w fun e w' => e = .returned (.bool true) ∧ Below w.heap.size w w' := by
  have HN := hide (pnext_any f t p w hf ht hT hw3 hg hz)
  have HP := hide (fun W (hW : Below w.heap.size w W) => lcut_any f t w W hf ht hT hw3 hg hz hW)
  have hol := cutOut_len f t ht
  unfold NextRes at HN
  clear hg hT hz
  by_cases hc : (Cu.check f.data.toList).1 = 0
  · have hgd : isGood f.data.toList = true := by unfold isGood; exact decide_eq_true hc
    have hout : cutOut f.data.toList t.data.toList = Cu.cutsR (Cu.readGo f.data.toList 12 0 []).2.2 t.data.toList := by unfold cutOut; rw [if_pos hc]
    have hnx : nextOut f.data.toList t.data.toList p = ((Cu.nextP (cutOut f.data.toList t.data.toList) p).1, (Cu.nextP (cutOut f.data.toList t.data.toList) p).2, 0) := by unfold nextOut; rw [if_pos hc, hout]
    rw [hgd] at HP
    rw [hnx] at HN
    simp only at HN
    by_cases hin : 0 ≤ p ∧ p < (t.size : Int)
    · obtain ⟨hp0, hpt⟩ := hin
      obtain ⟨c, hcc⟩ := Cu.first_in (l := (Cu.readGo f.data.toList 12 0 []).2.2) (t := t.data.toList) hp0 (by rw [len_toList]; exact hpt)
      obtain ⟨m1, m2, m3⟩ := Cu.first_least (Cu.cutsR_pair _ _) hcc
      rw [← hout] at hcc m1 m3
      have hnp : Cu.nextP (cutOut f.data.toList t.data.toList) p = (c, 0) := by
        unfold Cu.nextP
        rw [if_neg (by omega), hcc]
        rfl
      rw [hnp] at HN
      simp only at HN
      clear hnp hcc hnx hout hc
      generalize cutOut f.data.toList t.data.toList = out at *
      have hhas : out.contains c = true := by rw [List.contains_iff_mem]; exact m1
      have M3 := hide m3
      have hn0 : ¬ p < 0 := by omega
      have hcp : ¬ (c : Int) ≤ p := by omega
      clear m1 m3
      go_enter Tryz.func12, Tryz.ntmps12
      go_wp2_with fail
      refine (unhide HN).mono ?_
      rintro e w1 ⟨rfl, hb1⟩
      have HB1 := hide hb1
      clear hb1
      go_wp2_with fail
      refine (unhide HP w1 (unhide HB1)).mono ?_
      rintro e w2 ⟨a, cap, rfl, ho2, hb2⟩
      have HB2 := hide (below_two hb2 (unhide HB1))
      have HO2 := hide (own_base ho2 (unhide HB1).size)
      clear ho2 hb2
      go_wp2_with fail
      refine (good_any f _ hf).mono ?_
      rintro e w3 ⟨rfl, hb3⟩
      obtain ⟨hD3, _, hB3, _⟩ := held_put (unhide HB2) (unhide HO2) hb3
      have HD3 := hide hD3
      have HB3 := hide hB3
      rw [hgd]
      obtain ⟨q0, q1, q2⟩ := hD3.blk.two
      have hhs := has_any out a cap _ c w3 hD3.row (by omega)
      rw [hhas] at hhs
      have HHS := hide (hhs.mono (fun _ _ h => And.intro h.1 h.2.symm))
      clear hb3 hD3 hB3 hhs
      go_wp2_with (first | (go_at_call 17; refine (num_any _ _).mono ?_; rintro e w' ⟨rfl, rfl⟩) | (go_at_call 27; refine (unhide HHS).mono ?_; rintro e w' ⟨rfl, rfl⟩))
      go_loopw [13] (fun v wr => ∃ n : Nat, n ≤ out.length ∧ v = .int .i64 n ∧ wr = w3) (fun v _ => 1048580 - (intOf v).toNat)
      case atStart =>
        go_light
        exact ⟨0, Nat.zero_le _, rfl, rfl⟩
      case round =>
        obtain ⟨n, hn, rfl, rfl⟩ := hrel
        by_cases hlt : n < out.length
        · obtain ⟨g, x, rfl, hx, c0⟩ := int_cell (unhide HD3).row n hlt
          have hrel2 : Hid (∃ m : Nat, m ≤ out.length ∧ Value.int .i64 ((n : Int) + 1) = .int .i64 m ∧ True) := hide ⟨n + 1, by omega, by go_num, trivial⟩
          by_cases hxp : p < (x : Int)
          · have hxc : ¬ (x : Int) < (c : Int) := by
              have := unhide M3 x (List.mem_of_getElem? hx) hxp
              omega
            clear hx
            go_wp2
            go_roundw
            case rel => first | exact unhide hrel2 | ((repeat apply Exists.intro); exact ⟨unhide hrel2, rfl⟩)
            case measure => simp [intOf]; omega
          · clear hx
            go_wp2
            go_roundw
            case rel => first | exact unhide hrel2 | ((repeat apply Exists.intro); exact ⟨unhide hrel2, rfl⟩)
            case measure => simp [intOf]; omega
        · go_wp2
          go_ret
          exact ⟨rfl, unhide HB3⟩
    · have hnp : Cu.nextP (cutOut f.data.toList t.data.toList) p = (0, 6) := by
        unfold Cu.nextP
        by_cases hp0 : p < 0
        · rw [if_pos hp0]
        · rw [if_neg hp0, hout, Cu.first_out (by rw [len_toList]; intro h; exact hin ⟨by omega, h⟩)]
          rfl
      rw [hnp] at HN
      simp only at HN
      clear hnp hnx hout hc
      generalize cutOut f.data.toList t.data.toList = out at *
      have hcase : p < 0 ∨ (¬ p < 0 ∧ (t.size : Int) ≤ p) := by omega
      go_enter Tryz.func12, Tryz.ntmps12
      go_wp2_with fail
      refine (unhide HN).mono ?_
      rintro e w1 ⟨rfl, hb1⟩
      have HB1 := hide hb1
      clear hb1
      go_wp2_with fail
      refine (unhide HP w1 (unhide HB1)).mono ?_
      rintro e w2 ⟨a, cap, rfl, ho2, hb2⟩
      have HB2 := hide (below_two hb2 (unhide HB1))
      have HO2 := hide (own_base ho2 (unhide HB1).size)
      clear ho2 hb2
      go_wp2_with fail
      refine (good_any f _ hf).mono ?_
      rintro e w3 ⟨rfl, hb3⟩
      obtain ⟨hD3, _, hB3, _⟩ := held_put (unhide HB2) (unhide HO2) hb3
      have HB3 := hide hB3
      rw [hgd]
      obtain ⟨q0, q1, q2⟩ := hD3.blk.two
      clear hb3 hD3 hB3
      rcases hcase with h1 | ⟨h1, h2⟩
      · go_wp2_with (go_at_call 17; refine (num_any _ _).mono ?_; rintro e w' ⟨rfl, rfl⟩)
        go_ret
        exact ⟨rfl, unhide HB3⟩
      · go_wp2_with (go_at_call 17; refine (num_any _ _).mono ?_; rintro e w' ⟨rfl, rfl⟩)
        go_ret
        exact ⟨rfl, unhide HB3⟩
  · have hgd : isGood f.data.toList = false := by unfold isGood; exact decide_eq_false hc
    have hnx : nextOut f.data.toList t.data.toList p = (0, (Cu.check f.data.toList).1, (Cu.check f.data.toList).2) := by unfold nextOut; rw [if_neg hc]
    have hle := Cu.check_le f.data.toList
    have hout : cutOut f.data.toList t.data.toList = [] := by unfold cutOut; rw [if_neg hc]
    rw [hgd, hout] at HP
    rw [hnx] at HN
    simp only at HN
    generalize Cu.check f.data.toList = cp at *
    obtain ⟨c, q⟩ := cp
    simp only at hc hle HN
    have d0 : ((c : Int) != 0) = true := by simp; omega
    have d6 : ((c : Int) != 6) = true := by simp; omega
    clear hnx hout hol hc
    go_enter Tryz.func12, Tryz.ntmps12
    go_wp2_with fail
    refine (unhide HN).mono ?_
    rintro e w1 ⟨rfl, hb1⟩
    have HB1 := hide hb1
    clear hb1
    go_wp2_with fail
    refine (unhide HP w1 (unhide HB1)).mono ?_
    rintro e w2 ⟨a, cap, rfl, ho2, hb2⟩
    have HB2 := hide (below_two hb2 (unhide HB1))
    clear ho2 hb2
    simp only [List.length_nil]
    go_wp2_with fail
    refine (good_any f _ hf).mono ?_
    rintro e w3 ⟨rfl, hb3⟩
    obtain ⟨hD3, _, hB3, _⟩ := told_put (unhide HB2) hb3
    have HB3 := hide hB3
    rw [hgd]
    obtain ⟨q0, q1, q2⟩ := hD3.two
    clear hb3 hD3 hB3
    go_wp2_with (go_at_call 17; refine (num_any _ _).mono ?_; rintro e w' ⟨rfl, rfl⟩)
    go_ret
    exact ⟨rfl, unhide HB3⟩
end Go.Proofs.YtbppbejigedioaaGreatDoor
