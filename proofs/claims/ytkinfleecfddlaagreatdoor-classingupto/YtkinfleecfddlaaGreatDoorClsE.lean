/- The program's symbol of a character: the call. -/
import Derived.Test.YtkinfleecfddlaaGreatDoorClsD
namespace Go.Proofs.YtkinfleecfddlaaGreatDoor
open Go.RowKit

def symOf (its : List KItem) (c : Int) : Int := ((its.find? fun o => Cu.hit c o.2).map fun o => o.1).getD 26
/-- One behind the other. -/
def Sep (its : List KItem) : Prop := its.Pairwise (fun x y => x.2.2.1 < y.2.1) ∧ ∀ y ∈ its, y.2.1 ≤ y.2.2.1
theorem Sep.lasts {its : List KItem} (h : Sep its) : Lasts its := by
  unfold Lasts
  rw [List.pairwise_iff_getElem]
  intro i j hi hj hij
  have h1 := (List.pairwise_iff_getElem.1 h.1) i j hi hj hij
  have h2 := h.2 _ (List.getElem_mem hj)
  omega
theorem pmet_symm (x y : Cu.Item) : pmet x y = pmet y x := by unfold pmet; rw [Bool.and_comm]
theorem sep_of {its its' : List KItem} (hp : its'.Perm its) (hr : Rising its') (ht : Tidy its) : Sep its' := by
  have hord : ∀ y ∈ its', y.2.1 ≤ y.2.2.1 := fun y hy => ht.1 y (hp.mem_iff.1 hy)
  have hpw : its'.Pairwise (fun o y => pmet y.2 o.2 = false) := (hp.pairwise_iff (fun {x y} h => by rw [pmet_symm]; exact h)).2 ht.2
  refine ⟨?_, hord⟩
  rw [List.pairwise_iff_getElem]
  intro i j hi hj hij
  have h1 := (List.pairwise_iff_getElem.1 hr) i j hi hj hij
  have h2 := (List.pairwise_iff_getElem.1 hpw) i j hi hj hij
  have h3 := hord _ (List.getElem_mem hj)
  unfold pmet at h2
  simp only [Bool.and_eq_false_iff, decide_eq_false_iff_not] at h2
  omega
theorem symOf_at {its : List KItem} {c i : Nat} {x : KItem} (hp : Parted its c i) (hx : its[i]? = some x) (h1 : x.2.1 ≤ c) : symOf its c = x.1 := by
  unfold symOf
  rw [Cu.find_some_at hx ?_ ?_]
  · rfl
  · rw [List.find?_eq_none]
    intro y hy
    obtain ⟨k, hk⟩ := List.mem_iff_getElem?.1 hy
    have hki : k < i := by
      have := (List.getElem?_eq_some_iff.1 hk).1
      simp at this
      omega
    rw [List.getElem?_take_of_lt hki] at hk
    have := hp.1 k y hki hk
    unfold Cu.hit
    simp only [decide_eq_true_eq]
    omega
  · have := hp.2 i x (Nat.le_refl _) hx
    unfold Cu.hit
    simp only [decide_eq_true_eq]
    omega
theorem symOf_miss {its : List KItem} {c i : Nat} (hS : Sep its) (hp : Parted its c i) (h : ∀ x, its[i]? = some x → c < x.2.1) : symOf its c = 26 := by
  unfold symOf
  have : its.find? (fun o => Cu.hit c o.2) = none := by
    rw [List.find?_eq_none]
    intro y hy
    obtain ⟨k, hk⟩ := List.mem_iff_getElem?.1 hy
    unfold Cu.hit
    simp only [decide_eq_true_eq]
    by_cases hki : k < i
    · have := hp.1 k y hki hk
      omega
    · by_cases hke : k = i
      · subst hke; have := h y hk; omega
      · have hkl := (List.getElem?_eq_some_iff.1 hk).1
        have hil : i < its.length := by omega
        have hx : its[i]? = some its[i] := by simp [hil]
        have h1 := h _ hx
        have h2 := (List.pairwise_iff_getElem.1 hS.1) i k hil hkl (by omega)
        have h3 := hS.2 _ (List.getElem_mem hil)
        obtain ⟨_, rfl⟩ := List.getElem?_eq_some_iff.1 hk
        omega
  rw [this]; rfl

set_option maxRecDepth 100000 in
set_option maxHeartbeats 1000000 in
theorem symbol_any (B c : Nat) (nm : Nat → Bool) (its : List KItem) (rs : List PLn) (w : World) (hB : BookAt w B nm its rs) (hlen : its.length ≤ 2400) (hS : Sep its) :
    Calls Tryz.prog 49 #[.pointer (some ⟨B, 0, none⟩), .int .i32 c] w fun e w' => e = .returned (.int .i64 (symOf its c)) ∧ Below w.heap.size w w' := by
  obtain ⟨ai, ar, ci, cr, hBk, hoI, hoR⟩ := hB
  have hb26 : w.cell? ⟨B, 26, none⟩ = some (.slice ai its.length ci) := hBk.cell 26
  have hBlt := hBk.lt
  have HBK := hide hBk
  have HO := hide hoI
  have HS := hide hS
  clear hBk hoI hoR hS
  go_enter Tryz.func49, Tryz.ntmps49
  go_wp2_with fail
  refine (bsearch_any its ai ci _ c _ (unhide HO) hlen (unhide HS).lasts).mono ?_
  rintro e w1 ⟨i, b, rfl, hin, hp, hb1⟩
  have hb26' : w1.cell? ⟨B, 26, none⟩ = some (.slice ai its.length ci) := ((unhide HBK).below hb1 hBlt).cell 26
  have HO1 := hide (own_below (unhide HO) hb1)
  have HB1 := hide hb1
  have HP := hide hp
  clear hp hb1 hb26
  by_cases hlt : i < its.length
  · obtain ⟨g, x, rfl, hx, hg, c0, c1, c2, c3⟩ := kitem_cells (unhide HO1) i hlt
    by_cases hc : x.2.1 ≤ c
    · have hr := hide (symOf_at (unhide HP) hx hc)
      have d1 : decide (x.2.1 ≤ c) = true := by rw [decide_eq_true_eq]; exact hc
      clear hx hc
      go_wp2
      go_ret
      exact ⟨by rw [unhide hr]; rfl, unhide HB1⟩
    · have hr := hide (symOf_miss (unhide HS) (unhide HP) (fun y hy => by rw [hx] at hy; simp at hy; subst hy; omega))
      have d1 : decide (x.2.1 ≤ c) = false := by rw [decide_eq_false_iff_not]; exact hc
      clear hx hc
      go_wp2
      go_ret
      exact ⟨by rw [unhide hr]; rfl, unhide HB1⟩
  · have hr := hide (symOf_miss (unhide HS) (unhide HP) (fun y hy => by have := (List.getElem?_eq_some_iff.1 hy).1; omega))
    go_wp2
    go_ret
    exact ⟨by rw [unhide hr]; rfl, unhide HB1⟩
end Go.Proofs.YtkinfleecfddlaaGreatDoor
