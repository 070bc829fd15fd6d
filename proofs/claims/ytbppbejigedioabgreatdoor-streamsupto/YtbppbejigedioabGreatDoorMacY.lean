/- The machine: lay at an atom. -/
import Derived.Test.YtbppbejigedioabGreatDoorMacX
import Derived.Test.YtbppbejigedioabGreatDoorRdB
import Derived.Deep.RegionLaw
namespace Go.Proofs.YtbppbejigedioabGreatDoor
open Go.RowKit

def atomBh (h : Int) (bh : List Nat) : List Nat := if h = 0 ∨ h = 1 then linkP (bh ++ [0]) (2 ^ bh.length) (2 ^ bh.length) else bh ++ [0]

theorem mac_ret_alloc {M fi b : Nat} {bh : List Nat} {mt : Nat → Nat} {vs vm vt x0 y0 z0 x y z : Value} {w w1 : World} (o : Obj) (hM1 : MacAt w1 M fi bh mt vs vm vt) (hB : Blk w1 b [x0, y0, z0] 128) (hf : Frm M w w1) (hb : w.heap.size ≤ b) (hMw : M < w.heap.size) :
    MacAt ((((w1.setCell ⟨b, 0, none⟩ x).setCell ⟨b, 1, none⟩ y).setCell ⟨b, 2, none⟩ z).alloc o) M fi bh mt vs vm vt ∧ Frm M w ((((w1.setCell ⟨b, 0, none⟩ x).setCell ⟨b, 1, none⟩ y).setCell ⟨b, 2, none⟩ z).alloc o) := by
  obtain ⟨h1, h2⟩ := mac_ret (x := x) (y := y) (z := z) hM1 hB hf hb hMw
  exact ⟨h1.below ((Below.refl _ _).alloc (Nat.le_refl _) _), h2.alloc (by have := h2.size; omega) _⟩

set_option maxRecDepth 100000 in
set_option maxHeartbeats 1000000 in
theorem lay_many (M fi : Nat) (bh : List Nat) (mt : Nat → Nat) (vs vm vt : Value) (k : Int) (i : Nat) (w : World) (hM : MacAt w M fi bh mt vs vm vt) (hl : bh.length ≤ 60) (hmt : ∀ s, mt s < b64) (hbh : ∀ b ∈ bh, b < b64) :
    Calls Tryz.prog 50 #[.pointer (some ⟨M, 0, none⟩), .iface 196 (.agg #[signV k i])] w fun e w' => LayRes M fi vs vm vt (linkP (bh ++ [0]) (2 ^ bh.length) (2 ^ bh.length), meetP mt k bh.length) (2 ^ bh.length, 2 ^ bh.length, true) w e w' := by
  have hMlt := hM.lt
  obtain ⟨A, hAn⟩ : ∃ A : Nat, 2 ^ bh.length = A := ⟨_, rfl⟩
  have hcall := fun W (hW : Below w.heap.size w W) => layAgain_sign M fi bh mt vs vm vt k i W (hM.below hW) hl hmt hbh
  unfold signV LayRes reachV at hcall
  unfold signV
  rw [hAn] at hcall ⊢
  have HC := hide hcall
  clear hcall hAn hM hmt hbh
  have q_sign := as_many_sign
  have q_many := as_many_many
  go_enter Tryz.func50, Tryz.ntmps50
  go_wp2_with fail
  refine (unhide HC _ (((Below.refl _ _).alloc (Nat.le_refl _) _).alloc (by simp) _)).mono ?_
  rintro e w1 ⟨rfl, hM1, hf1⟩
  have hB1 : Blk w1 w.heap.size [.int .u64 0, .int .u64 0, .bool false] 128 := hf1.blk ((Blk.new w _ _).alloc _) (by decide) (by decide)
  have hs1 : w.heap.size + 1 < w1.heap.size + 1 := by have := hf1.size; simp at this; omega
  obtain ⟨c0, c1, c2, c3⟩ := hB1.three
  have hne1 : w.heap.size ≠ w1.heap.size := by omega
  have hlt1 : w.heap.size < w1.heap.size := by omega
  have hfin := hide (mac_ret_alloc (x := .int .u64 A) (y := .int .u64 A) (z := .bool true) (.cells #[.int .u64 A, .int .u64 A, .bool true] 128) hM1 hB1 ((hf1.ofAlloc (by simp; omega)).ofAlloc (by omega)) (Nat.le_refl _) hMlt)
  clear hM1 hf1 hB1 hs1
  go_wp2
  exact bodyPost_ret (v := .agg #[.int .u64 A, .int .u64 A, .bool true]) (by simp [results, Tryz.results50, go_sem, *]) rfl ⟨rfl, unhide hfin⟩

set_option maxRecDepth 100000 in
set_option maxHeartbeats 1000000 in
theorem lay_some (M fi : Nat) (bh : List Nat) (mt : Nat → Nat) (vs vm vt : Value) (k : Int) (i : Nat) (w : World) (hM : MacAt w M fi bh mt vs vm vt) (hl : bh.length ≤ 60) (hmt : ∀ s, mt s < b64) (hbh : ∀ b ∈ bh, b < b64) :
    Calls Tryz.prog 50 #[.pointer (some ⟨M, 0, none⟩), .iface 197 (.agg #[signV k i])] w fun e w' => LayRes M fi vs vm vt (linkP (bh ++ [0]) (2 ^ bh.length) (2 ^ bh.length), meetP mt k bh.length) (2 ^ bh.length, 2 ^ bh.length, false) w e w' := by
  have hMlt := hM.lt
  obtain ⟨A, hAn⟩ : ∃ A : Nat, 2 ^ bh.length = A := ⟨_, rfl⟩
  have hcall := fun W (hW : Below w.heap.size w W) => layAgain_sign M fi bh mt vs vm vt k i W (hM.below hW) hl hmt hbh
  unfold signV LayRes reachV at hcall
  unfold signV
  rw [hAn] at hcall ⊢
  have HC := hide hcall
  clear hcall hAn hM hmt hbh
  have q_sign := as_some_sign
  have q_many := as_some_many
  have q_some := as_some_some
  go_enter Tryz.func50, Tryz.ntmps50
  go_wp2_with fail
  refine (unhide HC _ (((Below.refl _ _).alloc (Nat.le_refl _) _).alloc (by simp) _)).mono ?_
  rintro e w1 ⟨rfl, hM1, hf1⟩
  have hB1 : Blk w1 w.heap.size [.int .u64 0, .int .u64 0, .bool false] 128 := hf1.blk ((Blk.new w _ _).alloc _) (by decide) (by decide)
  obtain ⟨c0, c1, c2, c3⟩ := hB1.three
  have hfin := hide (mac_ret (x := .int .u64 A) (y := .int .u64 A) (z := .bool false) hM1 hB1 ((hf1.ofAlloc (by simp; omega)).ofAlloc (by omega)) (Nat.le_refl _) hMlt)
  clear hM1 hf1 hB1
  go_wp2
  exact bodyPost_ret (v := .agg #[.int .u64 A, .int .u64 A, .bool false]) (by simp [results, Tryz.results50, go_sem, *]) rfl ⟨rfl, unhide hfin⟩

set_option maxRecDepth 100000 in
set_option maxHeartbeats 1000000 in
theorem lay_maybe (M fi : Nat) (bh : List Nat) (mt : Nat → Nat) (vs vm vt : Value) (k : Int) (i : Nat) (w : World) (hM : MacAt w M fi bh mt vs vm vt) (hl : bh.length ≤ 60) (hmt : ∀ s, mt s < b64) :
    Calls Tryz.prog 50 #[.pointer (some ⟨M, 0, none⟩), .iface 198 (.agg #[signV k i])] w fun e w' => LayRes M fi vs vm vt (bh ++ [0], meetP mt k bh.length) (2 ^ bh.length, 2 ^ bh.length, true) w e w' := by
  have hMlt := hM.lt
  obtain ⟨A, hAn⟩ : ∃ A : Nat, 2 ^ bh.length = A := ⟨_, rfl⟩
  have hcall := fun W (hW : Below w.heap.size w W) => lay_sign M fi bh mt vs vm vt k i W (hM.below hW) hl hmt
  unfold signV LayRes reachV at hcall
  unfold signV
  rw [hAn] at hcall ⊢
  have HC := hide hcall
  clear hcall hAn hM hmt
  have q_sign := as_maybe_sign
  have q_many := as_maybe_many
  have q_some := as_maybe_some
  have q_maybe := as_maybe_maybe
  go_enter Tryz.func50, Tryz.ntmps50
  go_wp2_with fail
  refine (unhide HC _ (((Below.refl _ _).alloc (Nat.le_refl _) _).alloc (by simp) _)).mono ?_
  rintro e w1 ⟨rfl, hM1, hf1⟩
  have hB1 : Blk w1 w.heap.size [.int .u64 0, .int .u64 0, .bool false] 128 := hf1.blk ((Blk.new w _ _).alloc _) (by decide) (by decide)
  have hs1 : w.heap.size + 1 < w1.heap.size + 1 := by have := hf1.size; simp at this; omega
  obtain ⟨c0, c1, c2, c3⟩ := hB1.three
  have hne1 : w.heap.size ≠ w1.heap.size := by omega
  have hlt1 : w.heap.size < w1.heap.size := by omega
  have hfin := hide (mac_ret_alloc (x := .int .u64 A) (y := .int .u64 A) (z := .bool true) (.cells #[.int .u64 A, .int .u64 A, .bool true] 128) hM1 hB1 ((hf1.ofAlloc (by simp; omega)).ofAlloc (by omega)) (Nat.le_refl _) hMlt)
  clear hM1 hf1 hB1 hs1
  go_wp2
  exact bodyPost_ret (v := .agg #[.int .u64 A, .int .u64 A, .bool true]) (by simp [results, Tryz.results50, go_sem, *]) rfl ⟨rfl, unhide hfin⟩

theorem lay_atom (M fi : Nat) (bh : List Nat) (mt : Nat → Nat) (vs vm vt : Value) (h k : Int) (i : Nat) (w : World) (hM : MacAt w M fi bh mt vs vm vt) (hl : bh.length ≤ 60) (hmt : ∀ s, mt s < b64) (hbh : ∀ b ∈ bh, b < b64) :
    Calls Tryz.prog 50 #[.pointer (some ⟨M, 0, none⟩), atomV h k i] w fun e w' => LayRes M fi vs vm vt (atomBh h bh, meetP mt k bh.length) (2 ^ bh.length, 2 ^ bh.length, decide (h = 0 ∨ h = 2)) w e w' := by
  by_cases h0 : h = 0
  · have e1 : atomV h k i = .iface 196 (.agg #[signV k i]) := by unfold atomV; rw [if_pos h0]
    have e2 : atomBh h bh = linkP (bh ++ [0]) (2 ^ bh.length) (2 ^ bh.length) := by unfold atomBh; rw [if_pos (Or.inl h0)]
    have e3 : decide (h = 0 ∨ h = 2) = true := by rw [decide_eq_true_eq]; exact Or.inl h0
    rw [e1, e2, e3]
    exact lay_many M fi bh mt vs vm vt k i w hM hl hmt hbh
  · by_cases h1 : h = 1
    · have e1 : atomV h k i = .iface 197 (.agg #[signV k i]) := by unfold atomV; rw [if_neg h0, if_pos h1]
      have e2 : atomBh h bh = linkP (bh ++ [0]) (2 ^ bh.length) (2 ^ bh.length) := by unfold atomBh; rw [if_pos (Or.inr h1)]
      have e3 : decide (h = 0 ∨ h = 2) = false := by rw [decide_eq_false_iff_not]; omega
      rw [e1, e2, e3]
      exact lay_some M fi bh mt vs vm vt k i w hM hl hmt hbh
    · have e2 : atomBh h bh = bh ++ [0] := by unfold atomBh; rw [if_neg (fun hh => hh.elim h0 h1)]
      by_cases h2 : h = 2
      · have e1 : atomV h k i = .iface 198 (.agg #[signV k i]) := by unfold atomV; rw [if_neg h0, if_neg h1, if_pos h2]
        have e3 : decide (h = 0 ∨ h = 2) = true := by rw [decide_eq_true_eq]; exact Or.inr h2
        rw [e1, e2, e3]
        exact lay_maybe M fi bh mt vs vm vt k i w hM hl hmt
      · have e1 : atomV h k i = signV k i := by unfold atomV; rw [if_neg h0, if_neg h1, if_neg h2]
        have e3 : decide (h = 0 ∨ h = 2) = false := by rw [decide_eq_false_iff_not]; exact fun hh => hh.elim h0 h2
        rw [e1, e2, e3]
        exact lay_sign M fi bh mt vs vm vt k i w hM hl hmt
end Go.Proofs.YtbppbejigedioabGreatDoor
/- The machine: lay at a left side. -/
namespace Go.Proofs.YtbppbejigedioabGreatDoor
open Go.RowKit

/-- Two reaches, one behind the other. -/
def bothP (a b : Rch) : Rch := (if a.2.2 then a.1 ||| b.1 else a.1, if b.2.2 then b.2.1 ||| a.2.1 else b.2.1, a.2.2 && b.2.2)
def layP (l : List Cu.Atom) (q : Ms) : Ms × Rch :=
  l.foldl (fun acc x => ((linkP (atomBh (Cu.hk x.2.1) acc.1.1) acc.2.2.1 (2 ^ acc.1.1.length), meetP acc.1.2 (Cu.sk x.1) acc.1.1.length), bothP acc.2 (2 ^ acc.1.1.length, 2 ^ acc.1.1.length, decide (Cu.hk x.2.1 = 0 ∨ Cu.hk x.2.1 = 2)))) (q, (0, 0, true))
theorem layP_snoc (l : List Cu.Atom) (x : Cu.Atom) (q : Ms) : layP (l ++ [x]) q = ((linkP (atomBh (Cu.hk x.2.1) (layP l q).1.1) (layP l q).2.2.1 (2 ^ (layP l q).1.1.length), meetP (layP l q).1.2 (Cu.sk x.1) (layP l q).1.1.length), bothP (layP l q).2 (2 ^ (layP l q).1.1.length, 2 ^ (layP l q).1.1.length, decide (Cu.hk x.2.1 = 0 ∨ Cu.hk x.2.1 = 2))) := by
  unfold layP; rw [List.foldl_append]; rfl

/-- Numbers that fit. -/
def MsOk (q : Ms) : Prop := (∀ b ∈ q.1, b < b64) ∧ ∀ s, q.2 s < b64
theorem linkP_ok {bh : List Nat} {f t : Nat} (h : ∀ b ∈ bh, b < b64) (ht : t < b64) : ∀ b ∈ linkP bh f t, b < b64 := by
  intro b hb
  obtain ⟨k, hk⟩ := List.mem_iff_getElem?.1 hb
  rw [linkP_get] at hk
  cases hx : bh[k]? with
  | none => rw [hx] at hk; cases hk
  | some y =>
    rw [hx] at hk
    simp only [Option.map_some, Option.some.injEq] at hk
    subst hk
    have hy := h y (List.mem_of_getElem? hx)
    split
    · exact or_lt hy ht
    · exact hy
theorem meetP_ok {mt : Nat → Nat} {k : Int} {n : Nat} (h : ∀ s, mt s < b64) (hn : n ≤ 60) : ∀ s, meetP mt k n s < b64 := by
  intro s
  unfold meetP
  split
  · exact or_lt (h s) (pow_lt hn)
  · exact h s
theorem snoc_ok {bh : List Nat} (h : ∀ b ∈ bh, b < b64) : ∀ b ∈ bh ++ [0], b < b64 := by
  intro b hb
  rcases List.mem_append.1 hb with h1 | h1
  · exact h b h1
  · simp at h1; subst h1; decide
theorem atomBh_ok {h : Int} {bh : List Nat} (hb : ∀ b ∈ bh, b < b64) (hn : bh.length ≤ 60) : ∀ b ∈ atomBh h bh, b < b64 := by
  unfold atomBh
  split
  · exact linkP_ok (snoc_ok hb) (pow_lt hn)
  · exact snoc_ok hb
theorem atomBh_length (h : Int) (bh : List Nat) : (atomBh h bh).length = bh.length + 1 := by
  unfold atomBh
  split
  · rw [linkP_length]; simp
  · simp
theorem layP_facts (l : List Cu.Atom) (q : Ms) (hq : MsOk q) (hn : q.1.length + l.length ≤ 60) : MsOk (layP l q).1 ∧ (layP l q).1.1.length = q.1.length + l.length ∧ (layP l q).2.1 < b64 ∧ (layP l q).2.2.1 < b64 := by
  generalize hm : l.length = m at hn
  induction m generalizing l with
  | zero =>
    have : l = [] := List.eq_nil_of_length_eq_zero hm
    subst this
    exact ⟨hq, by simp [layP], by show (0 : Nat) < 18446744073709551616; omega, by show (0 : Nat) < 18446744073709551616; omega⟩
  | succ m ih =>
    rcases List.eq_nil_or_concat l with rfl | ⟨l', x, rfl⟩
    · simp at hm
    · rw [List.concat_eq_append] at hm ⊢
      have hl' : l'.length = m := by simpa using hm
      obtain ⟨h1, h2, h3, h4⟩ := ih l' hl' (by omega)
      rw [layP_snoc]
      have hp : 2 ^ (layP l' q).1.1.length < b64 := pow_lt (by omega)
      refine ⟨⟨linkP_ok (atomBh_ok h1.1 (by omega)) hp, meetP_ok h1.2 (by omega)⟩, ?_, ?_, ?_⟩
      · rw [linkP_length, atomBh_length]; omega
      · show (if _ then _ else _) < b64
        split
        · exact or_lt h3 hp
        · exact h3
      · show (if _ then _ else _) < b64
        split
        · exact or_lt hp h4
        · exact hp

set_option maxRecDepth 100000 in
set_option maxHeartbeats 1000000 in
theorem lay_nothing (M fi : Nat) (bh : List Nat) (mt : Nat → Nat) (vs vm vt : Value) (w : World) (hM : MacAt w M fi bh mt vs vm vt) :
    Calls Tryz.prog 50 #[.pointer (some ⟨M, 0, none⟩), leftV []] w fun e w' => LayRes M fi vs vm vt (bh, mt) (0, 0, true) w e w' := by
  have hMlt := hM.lt
  have h : leftV [] = .iface 303 (.agg #[]) := rfl
  rw [h]
  have HM := hide hM
  clear hM h
  have q_sign := as_nothing_sign
  have q_many := as_nothing_many
  have q_some := as_nothing_some
  have q_maybe := as_nothing_maybe
  have q_pair := as_nothing_pair
  go_enter Tryz.func50, Tryz.ntmps50
  go_wp2
  have hb : ∀ o, Below w.heap.size w (w.alloc o) := fun o => (Below.refl _ _).alloc (Nat.le_refl _) _
  exact bodyPost_ret (v := .agg #[.int .u64 0, .int .u64 0, .bool true]) (by simp [results, Tryz.results50, go_sem, *]) rfl ⟨rfl, (unhide HM).below (hb _), Frm.of (hb _) (by omega)⟩

set_option maxRecDepth 100000 in
set_option maxHeartbeats 1000000 in
theorem layPair_any (M fi : Nat) (q : Ms) (vs vm vt : Value) (l : List Cu.Atom) (x : Cu.Atom) (w : World) (hM : MacAt w M fi q.1 q.2 vs vm vt) (hq : MsOk q) (hn : q.1.length + l.length ≤ 58)
    (ih : ∀ W, MacAt W M fi q.1 q.2 vs vm vt → Calls Tryz.prog 50 #[.pointer (some ⟨M, 0, none⟩), leftV l] W fun e w' => LayRes M fi vs vm vt (layP l q).1 (layP l q).2 W e w') :
    Calls Tryz.prog 87 #[.pointer (some ⟨M, 0, none⟩), .agg #[leftV l, nodeV x]] w fun e w' => LayRes M fi vs vm vt (layP (l ++ [x]) q).1 (layP (l ++ [x]) q).2 w e w' := by
  have hMlt := hM.lt
  obtain ⟨f1, f2, f3, f4⟩ := layP_facts l q hq (by omega)
  rw [layP_snoc]
  have hat := fun (W : World) (hW : MacAt W M fi (layP l q).1.1 (layP l q).1.2 vs vm vt) => lay_atom M fi (layP l q).1.1 (layP l q).1.2 vs vm vt (Cu.hk x.2.1) (Cu.sk x.1) x.2.2 W hW (by omega) f1.2 f1.1
  have hnd : atomV (Cu.hk x.2.1) (Cu.sk x.1) x.2.2 = nodeV x := rfl
  rw [hnd] at hat
  obtain ⟨tl, vl, hvl⟩ := leftV_iface l
  obtain ⟨ta, va, hva⟩ := atomV_iface (Cu.hk x.2.1) (Cu.sk x.1) x.2.2
  rw [hnd] at hva
  rw [hvl] at ih ⊢
  rw [hva] at hat ⊢
  have hab := atomBh_ok (h := Cu.hk x.2.1) f1.1 (by omega)
  have habl := atomBh_length (Cu.hk x.2.1) (layP l q).1.1
  have hp : 2 ^ (layP l q).1.1.length < b64 := pow_lt (by omega)
  generalize hA : 2 ^ (layP l q).1.1.length = A at hat hp ⊢
  generalize decide (Cu.hk x.2.1 = 0 ∨ Cu.hk x.2.1 = 2) = ne at hat ⊢
  generalize atomBh (Cu.hk x.2.1) (layP l q).1.1 = bh2 at hat hab habl ⊢
  generalize meetP (layP l q).1.2 (Cu.sk x.1) (layP l q).1.1.length = mt2 at hat ⊢
  generalize (layP l q).1 = q1 at ih hat f1 f2 habl hA
  generalize (layP l q).2 = r1 at ih f3 f4 ⊢
  obtain ⟨af, al, ae⟩ := r1
  unfold LayRes reachV at ih hat
  simp only at ih hat f3 f4 ⊢
  have HIH := hide ih
  have HAT := hide hat
  have HAB := hide hab
  have HM := hide hM
  clear ih hat hab hvl hva hnd hA hM
  go_enter Tryz.func87, Tryz.ntmps87
  go_wp2_with fail
  refine (unhide HIH _ ((unhide HM).below (((Below.refl _ _).alloc (Nat.le_refl _) _).alloc (by simp) _))).mono ?_
  rintro e w1 ⟨rfl, hM1, hf1⟩
  have hP1 : Blk w1 w.heap.size [.iface tl vl, .iface ta va] 200 := hf1.blk ((Blk.new w _ _).alloc _) (by decide) (by decide)
  have hR1 : Blk w1 (w.heap.size + 1) [.int .u64 0, .int .u64 0, .bool false] 128 := hf1.blk (Blk.new' _ _ (by simp) _ _) (by decide) (by decide)
  have hs1 : w.heap.size + 2 ≤ w1.heap.size := by have := hf1.size; simpa using this
  have HF1 := hide ((hf1.ofAlloc (by simp; omega)).ofAlloc (by omega))
  obtain ⟨p0, p1, p2⟩ := hP1.two
  have HR1 := hide hR1
  have HM1 := hide hM1
  have hne10 : w.heap.size ≠ w1.heap.size := by omega
  have hne11 : w.heap.size + 1 ≠ w1.heap.size := by omega
  have hlt10 : w.heap.size < w1.heap.size := by omega
  have hlt11 : w.heap.size + 1 < w1.heap.size := by omega
  clear hM1 hf1 hR1 hP1
  go_wp2_with fail
  refine (unhide HAT _ ((unhide HM1).below ((Below.refl _ _).alloc (Nat.le_refl _) _))).mono ?_
  rintro e w2 ⟨rfl, hM2, hf2⟩
  have hR2 : Blk w2 (w.heap.size + 1) [.int .u64 0, .int .u64 0, .bool false] 128 := hf2.blk ((unhide HR1).alloc _) (by decide) (by decide)
  have hA2 : Blk w2 w1.heap.size [.int .u64 af, .int .u64 al, .bool ae] 128 := hf2.blk (Blk.new w1 _ _) (by decide) (by decide)
  have hs2 : w1.heap.size + 1 ≤ w2.heap.size := by have := hf2.size; simpa using this
  have HF2 := hide ((unhide HF1).trans (hf2.ofAlloc (by omega)))
  obtain ⟨a0, a1, a2, a3⟩ := hA2.three
  have HR2 := hide hR2
  have HA2 := hide hA2
  have HM2 := hide hM2
  have hne20 : w1.heap.size ≠ w2.heap.size := by omega
  have hlt20 : w1.heap.size < w2.heap.size := by omega
  clear hM2 hf2 hR2 hA2
  go_wp2_with fail
  refine (link_any M fi bh2 _ vs vm vt al A _ ((unhide HM2).below ((Below.refl _ _).alloc (Nat.le_refl _) _)) (by omega) f4 hp (unhide HAB)).mono ?_
  rintro e w3 ⟨rfl, hM3, hf3⟩
  have hR3 : Blk w3 (w.heap.size + 1) [.int .u64 0, .int .u64 0, .bool false] 128 := hf3.blk ((unhide HR2).alloc _) (by decide) (by decide)
  have hA3 : Blk w3 w1.heap.size [.int .u64 af, .int .u64 al, .bool ae] 128 := hf3.blk ((unhide HA2).alloc _) (by decide) (by decide)
  have hB3 : Blk w3 w2.heap.size [.int .u64 A, .int .u64 A, .bool ne] 128 := hf3.blk (Blk.new w2 _ _) (by decide) (by decide)
  have hs3 : w2.heap.size + 1 ≤ w3.heap.size := by have := hf3.size; simpa using this
  have HF3 := hide ((unhide HF2).trans (hf3.ofAlloc (by omega)))
  obtain ⟨b0, b1, b2, b3⟩ := hA3.three
  obtain ⟨d0, d1, d2, d3⟩ := hB3.three
  obtain ⟨r0, r1', r2, r3⟩ := hR3.three
  have hor1 : bits .or .u64 (af : Int) (A : Int) = ((af ||| A : Nat) : Int) := u64_or_nat _ _ f3 hp
  have hor2 : bits .or .u64 (A : Int) (al : Int) = ((A ||| al : Nat) : Int) := u64_or_nat _ _ hp f4
  have hn30 : w.heap.size + 1 ≠ w3.heap.size := by omega
  have hn31 : w1.heap.size ≠ w3.heap.size := by omega
  have hn32 : w2.heap.size ≠ w3.heap.size := by omega
  have hl30 : w.heap.size + 1 < w3.heap.size := by omega
  have hl31 : w1.heap.size < w3.heap.size := by omega
  have hl32 : w2.heap.size < w3.heap.size := by omega
  have hfin : Hid (∀ x y z o, MacAt ((((w3.setCell ⟨w.heap.size + 1, 0, none⟩ x).setCell ⟨w.heap.size + 1, 1, none⟩ y).setCell ⟨w.heap.size + 1, 2, none⟩ z).alloc o) M fi (linkP bh2 al A) mt2 vs vm vt ∧ Frm M w ((((w3.setCell ⟨w.heap.size + 1, 0, none⟩ x).setCell ⟨w.heap.size + 1, 1, none⟩ y).setCell ⟨w.heap.size + 1, 2, none⟩ z).alloc o)) :=
    hide (fun x y z o => mac_ret_alloc (x := x) (y := y) (z := z) o hM3 hR3 (unhide HF3) (by omega) hMlt)
  clear hM3 hf3 hR3 hA3 hB3 p0 p1 p2 a0 a1 a2 a3
  cases ae with
  | false =>
    cases ne
    · go_wp2
      exact bodyPost_ret (v := .agg #[.int .u64 (af : Nat), .int .u64 (A : Nat), .bool false]) (by simp [results, Tryz.results87, go_sem, *]) rfl ⟨rfl, unhide hfin _ _ _ _⟩
    · go_wp2
      exact bodyPost_ret (v := .agg #[.int .u64 (af : Nat), .int .u64 (A ||| al : Nat), .bool false]) (by simp [results, Tryz.results87, go_sem, *]) rfl ⟨rfl, unhide hfin _ _ _ _⟩
  | true =>
    cases ne
    · go_wp2
      exact bodyPost_ret (v := .agg #[.int .u64 (af ||| A : Nat), .int .u64 (A : Nat), .bool false]) (by simp [results, Tryz.results87, go_sem, *]) rfl ⟨rfl, unhide hfin _ _ _ _⟩
    · go_wp2
      exact bodyPost_ret (v := .agg #[.int .u64 (af ||| A : Nat), .int .u64 (A ||| al : Nat), .bool true]) (by simp [results, Tryz.results87, go_sem, *]) rfl ⟨rfl, unhide hfin _ _ _ _⟩

set_option maxRecDepth 100000 in
set_option maxHeartbeats 1000000 in
theorem lay_pair (M fi : Nat) (q q2 : Ms) (r : Rch) (vs vm vt : Value) (l : List Cu.Atom) (x : Cu.Atom) (w : World) (hM : MacAt w M fi q.1 q.2 vs vm vt)
    (hp : ∀ W, MacAt W M fi q.1 q.2 vs vm vt → Calls Tryz.prog 87 #[.pointer (some ⟨M, 0, none⟩), .agg #[leftV l, nodeV x]] W fun e w' => LayRes M fi vs vm vt q2 r W e w') :
    Calls Tryz.prog 50 #[.pointer (some ⟨M, 0, none⟩), leftV (l ++ [x])] w fun e w' => LayRes M fi vs vm vt q2 r w e w' := by
  have hMlt := hM.lt
  rw [leftV_snoc]
  have hnd : atomV (Cu.hk x.2.1) (Cu.sk x.1) x.2.2 = nodeV x := rfl
  obtain ⟨tl, vl, hvl⟩ := leftV_iface l
  obtain ⟨ta, va, hva⟩ := atomV_iface (Cu.hk x.2.1) (Cu.sk x.1) x.2.2
  rw [hnd] at hva
  rw [hvl, hva] at hp ⊢
  obtain ⟨rf, rl, re⟩ := r
  unfold LayRes reachV at hp
  simp only at hp
  have HP := hide hp
  have HM := hide hM
  clear hp hvl hva hnd hM
  have q_sign := as_pair_sign
  have q_many := as_pair_many
  have q_some := as_pair_some
  have q_maybe := as_pair_maybe
  have q_pair := as_pair_pair
  go_enter Tryz.func50, Tryz.ntmps50
  go_wp2_with fail
  refine (unhide HP _ ((unhide HM).below (((Below.refl _ _).alloc (Nat.le_refl _) _).alloc (by simp) _))).mono ?_
  rintro e w1 ⟨rfl, hM1, hf1⟩
  have hB1 : Blk w1 w.heap.size [.int .u64 0, .int .u64 0, .bool false] 128 := hf1.blk ((Blk.new w _ _).alloc _) (by decide) (by decide)
  obtain ⟨c0, c1, c2, c3⟩ := hB1.three
  have hfin := hide (mac_ret (x := .int .u64 rf) (y := .int .u64 rl) (z := .bool re) hM1 hB1 ((hf1.ofAlloc (by simp; omega)).ofAlloc (by omega)) (Nat.le_refl _) hMlt)
  clear hM1 hf1 hB1
  go_wp2
  exact bodyPost_ret (v := .agg #[.int .u64 rf, .int .u64 rl, .bool re]) (by simp [results, Tryz.results50, go_sem, *]) rfl ⟨rfl, unhide hfin⟩

theorem lay_any (M fi : Nat) (q : Ms) (vs vm vt : Value) (l : List Cu.Atom) (w : World) (hM : MacAt w M fi q.1 q.2 vs vm vt) (hq : MsOk q) (hn : q.1.length + l.length ≤ 58) :
    Calls Tryz.prog 50 #[.pointer (some ⟨M, 0, none⟩), leftV l] w fun e w' => LayRes M fi vs vm vt (layP l q).1 (layP l q).2 w e w' := by
  generalize hm : l.length = m at hn
  induction m generalizing l w with
  | zero =>
    have : l = [] := List.eq_nil_of_length_eq_zero hm
    subst this
    exact lay_nothing M fi q.1 q.2 vs vm vt w hM
  | succ m ih =>
    rcases List.eq_nil_or_concat l with rfl | ⟨l', x, rfl⟩
    · simp at hm
    · rw [List.concat_eq_append] at hm ⊢
      have hl' : l'.length = m := by simpa using hm
      exact lay_pair M fi q _ _ vs vm vt l' x w hM (fun W hW => layPair_any M fi q vs vm vt l' x W hW hq (by omega) (fun W' hW' => ih l' W' hW' hl' (by omega)))
end Go.Proofs.YtbppbejigedioabGreatDoor
/- The machine: newMachine: facts. -/
namespace Go.Proofs.YtbppbejigedioabGreatDoor
open Go.RowKit

/-- What is asked of a rule at a place: with which atoms its left side can end, can it be nothing, the rule. -/
abbrev Sd := Nat × Bool × PLn
def sideCells : List Sd → List Value
  | [] => []
  | x :: r => [.int .u64 x.1, .bool x.2.1, .bool (x.2.2.1.op == 124)] ++ sideCells r
theorem sideCells_snoc (l : List Sd) (x : Sd) : sideCells (l ++ [x]) = sideCells l ++ [.int .u64 x.1, .bool x.2.1, .bool (x.2.2.1.op == 124)] := by
  induction l with
  | nil => rfl
  | cons y l ih => simp [sideCells, ih]
theorem Tryz.info131 : (Tryz.prog.info? 131).map (fun i => (i.zero, i.size, i.bytes)) = some (some (.agg #[.int .u64 0, .bool false, .bool false]), 3, 16) := by kernel_rfl
/-- The rules, one by one. -/
def newP (rs : List PLn) : Nat × Ms × List Sd :=
  rs.foldl (fun acc x => (acc.1 ||| (layP x.1.left acc.2.1).2.1, (layP x.1.left acc.2.1).1, acc.2.2 ++ [((layP x.1.left acc.2.1).2.2.1, (layP x.1.left acc.2.1).2.2.2, x)])) (0, ([], fun _ => 0), [])
theorem newP_snoc (rs : List PLn) (x : PLn) : newP (rs ++ [x]) = ((newP rs).1 ||| (layP x.1.left (newP rs).2.1).2.1, (layP x.1.left (newP rs).2.1).1, (newP rs).2.2 ++ [((layP x.1.left (newP rs).2.1).2.2.1, (layP x.1.left (newP rs).2.1).2.2.2, x)]) := by
  unfold newP; rw [List.foldl_append]; rfl
theorem newP_facts (rs : List PLn) (h4 : ∀ x ∈ rs, x.1.left.length ≤ 4) (hn : rs.length ≤ 12) : MsOk (newP rs).2.1 ∧ (newP rs).2.1.1.length ≤ 4 * rs.length ∧ (newP rs).1 < b64 ∧ (newP rs).2.2.length = rs.length := by
  generalize hm : rs.length = m at hn
  induction m generalizing rs with
  | zero =>
    have : rs = [] := List.eq_nil_of_length_eq_zero hm
    subst this
    exact ⟨⟨fun b hb => by simp [newP] at hb, fun s => by show (0 : Nat) < 18446744073709551616; omega⟩, by simp [newP], by show (0 : Nat) < 18446744073709551616; omega, rfl⟩
  | succ m ih =>
    rcases List.eq_nil_or_concat rs with rfl | ⟨r', x, rfl⟩
    · simp at hm
    · rw [List.concat_eq_append] at hm h4 ⊢
      have hr' : r'.length = m := by simpa using hm
      obtain ⟨f1, f2, f3, f4⟩ := ih r' (fun y hy => h4 y (by simp [hy])) hr' (by omega)
      have hx := h4 x (by simp)
      obtain ⟨g1, g2, g3, g4⟩ := layP_facts x.1.left (newP r').2.1 f1 (by omega)
      rw [newP_snoc]
      refine ⟨g1, ?_, or_lt f3 g3, by simp [f4]⟩
      show (layP x.1.left (newP r').2.1).1.1.length ≤ _
      omega

theorem rule_cells {w : World} {base cap : Nat} {l : List PLn} {a : Option Addr} (ho : w.ownsRow base 126 3 (.slice a l.length cap) l.length (ruleCells l)) (i : Nat) (hi : i < l.length) :
    ∃ (g : Nat) (x : PLn), a = some ⟨g, 0, none⟩ ∧ l[i]? = some x ∧ g < w.heap.size ∧ w.cell? ⟨g, i * 3, none⟩ = some (leftV x.1.left) ∧ w.cell? ⟨g, i * 3 + 1, none⟩ = some (.bool (x.1.op == 124)) ∧ w.cell? ⟨g, i * 3 + 2, none⟩ = some (.slice x.2.1 x.1.right.length x.2.2) := by
  have hget : ∀ (l : List PLn) (i j : Nat) (hi : i < l.length), j < 3 → (ruleCells l)[i * 3 + j]? = ([leftV l[i].1.left, .bool (l[i].1.op == 124), .slice l[i].2.1 l[i].1.right.length l[i].2.2] : List Value)[j]? := by
    intro l
    induction l with
    | nil => intro i j hi; simp at hi
    | cons y l ih =>
      intro i j hi hj
      cases i with
      | zero => simp only [ruleCells, Nat.zero_mul, Nat.zero_add]; rw [List.getElem?_append_left (by simp; omega)]; rfl
      | succ i =>
        simp only [ruleCells]
        rw [List.getElem?_append_right (by simp; omega), show (i + 1) * 3 + j - [leftV y.1.left, Value.bool (y.1.op == 124), Value.slice y.2.1 y.1.right.length y.2.2].length = i * 3 + j by simp; omega, ih i j (by simpa using hi) hj]
        rfl
  rcases ho.2 with ⟨_, h2⟩ | ⟨g, cap', cur, hv, _, hh, h3, h4, _⟩
  · omega
  · simp only [Value.slice.injEq, true_and] at hv
    obtain ⟨rfl, rfl⟩ := hv
    have hc : ∀ j, j < 3 → w.cell? ⟨g, i * 3 + j, none⟩ = ([leftV l[i].1.left, .bool (l[i].1.op == 124), .slice l[i].2.1 l[i].1.right.length l[i].2.2] : List Value)[j]? := fun j hj => by
      rw [ho.cellAt (i * 3 + j) (by omega), hget l i j hi hj]
    exact ⟨g, l[i], rfl, by simp [hi], (Array.getElem?_eq_some_iff.1 hh).1, hc 0 (by omega), hc 1 (by omega), hc 2 (by omega)⟩

/-- A machine and its sides. -/
def SdAt (w : World) (M : Nat) (p : Nat × Ms × List Sd) (vm vt : Value) : Prop :=
  ∃ (a : Option Addr) (c : Nat), MacAt w M p.1 p.2.1.1 p.2.1.2 (.slice a p.2.2.length c) vm vt ∧ w.ownsRow M 131 3 (.slice a p.2.2.length c) p.2.2.length (sideCells p.2.2)
def NewRel (M : Nat) (rs : List PLn) (vm vt : Value) (w0 : World) (v : Value) (wr : World) : Prop :=
  ∃ n : Nat, n ≤ rs.length ∧ v = .int .i64 n ∧ SdAt wr M (newP (rs.take n)) vm vt ∧ Below M w0 wr
def state0 : List Value := [.int .u64 0, .int .u16 0] ++ List.replicate 27 (.int .i64 0)
theorem make_state (w : World) : (Instr.makeSlice 114 (.int .i64 1) (.int .i64 1)).run Tryz.prog w = .ok (.slice (some ⟨w.heap.size, 0, none⟩) 1 1) (w.alloc (.cells state0.toArray 262)) := by kernel_rfl

theorem mac_first {W : World} {M fi v : Nat} {bh : List Nat} {mt : Nat → Nat} {vs vm vt : Value} (h : MacAt W M fi bh mt vs vm vt) : MacAt (W.setCell ⟨M, 0, none⟩ (.int .u64 (v : Int))) M v bh mt vs vm vt := by
  obtain ⟨ab, cb, h1, h2⟩ := h
  exact ⟨ab, cb, h1.setSame 0 _, own_set_ne h2 _ _ (h1.ne_row h2 (by decide))⟩
theorem mac_sides {W : World} {M fi : Nat} {bh : List Nat} {mt : Nat → Nat} {vs vs' vm vt : Value} (h : MacAt W M fi bh mt vs vm vt) : MacAt (W.setCell ⟨M, 29, none⟩ vs') M fi bh mt vs' vm vt := by
  obtain ⟨ab, cb, h1, h2⟩ := h
  exact ⟨ab, cb, h1.setSame 29 _, own_set_ne h2 _ _ (h1.ne_row h2 (by decide))⟩
theorem MacAt.blk {W : World} {M fi : Nat} {bh : List Nat} {mt : Nat → Nat} {vs vm vt : Value} (h : MacAt W M fi bh mt vs vm vt) : ∃ vb, Blk W M (macCells fi vb mt vs vm vt) 121 := by
  obtain ⟨ab, cb, h1, _⟩ := h; exact ⟨_, h1⟩
theorem MacAt.grown {W w2 : World} {M fi b s n : Nat} {bh : List Nat} {mt : Nat → Nat} {vs vm vt v : Value} {xs : List Value} {e : TypeId} (h : MacAt W M fi bh mt vs vm vt) (ho : W.ownsRow b e s v n xs) (hg : W.grownBy w2 v.ownBlock) (h1 : 121 ≠ e) (h2 : 116 ≠ e) : MacAt w2 M fi bh mt vs vm vt := by
  obtain ⟨ab, cb, m1, m2⟩ := h
  exact ⟨ab, cb, m1.grown hg (m1.ne_row ho h1), own_grown m2 ho h2 (Below.refl _ _) hg⟩
theorem oneS (a : Int) (b c : Bool) : ∀ u ∈ [Value.int .u64 a, .bool b, .bool c], u.oneCell' = true := by
  intro u hu
  simp at hu
  rcases hu with rfl | rfl | rfl <;> rfl
/-- Behind the first atoms' store. -/
def MidRel (M : Nat) (p : Nat × Ms × List Sd) (x : PLn) (r : Rch) (vm vt : Value) (w0 : World) (b5 b6 : Nat) (wc : World) : Prop :=
  ∃ (a : Option Addr) (c : Nat), MacAt wc M (p.1 ||| r.1) (layP x.1.left p.2.1).1.1 (layP x.1.left p.2.1).1.2 (.slice a p.2.2.length c) vm vt ∧ wc.ownsRow M 131 3 (.slice a p.2.2.length c) p.2.2.length (sideCells p.2.2) ∧
    Blk wc b5 [leftV x.1.left, .bool (x.1.op == 124), .slice x.2.1 x.1.right.length x.2.2] 126 ∧ Blk wc b6 [.int .u64 r.1, .int .u64 r.2.1, .bool r.2.2] 128 ∧ Below M w0 wc ∧ M ≤ wc.heap.size

/-- The world as the rules are begun. -/
def newWorld (w : World) : World := ((w.alloc (.map #[] 0)).alloc (.cells state0.toArray 262)).alloc (.cells (macCells 0 (.slice none 0 0) (fun _ => 0) (.slice none 0 0) (.map (some w.heap.size)) (.slice (some ⟨w.heap.size + 1, 0, none⟩) 1 1)).toArray 121)
theorem newWorld_facts (w : World) : SdAt (newWorld w) (w.heap.size + 1 + 1) (newP []) (.map (some w.heap.size)) (.slice (some ⟨w.heap.size + 1, 0, none⟩) 1 1) ∧ (newWorld w).heap[w.heap.size]? = some (.map #[] 0) ∧ Blk (newWorld w) (w.heap.size + 1) state0 262 ∧ Below w.heap.size w (newWorld w) ∧ (newWorld w).heap.size = w.heap.size + 3 := by
  unfold newWorld
  refine ⟨⟨none, 0, ⟨none, 0, Blk.new' _ _ (by simp) _ _, World.ownsRow_nil _ _ _ _⟩, World.ownsRow_nil _ _ _ _⟩, ?_, (Blk.new' _ _ (by simp) _ _).alloc _, (((Below.refl _ _).alloc (Nat.le_refl _) _).alloc (by simp) _).alloc (by simp; omega) _, by simp⟩
  rw [Below.heap_alloc _ _ _ (by simp; omega), Below.heap_alloc _ _ _ (by simp)]
  exact heap_alloc_new w _
theorem mid_done {M b5 : Nat} {p : Nat × Ms × List Sd} {x : PLn} {r : Rch} {vm vt : Value} {w0 wr w1 : World} {a : Option Addr} {c : Nat} (hM1 : MacAt w1 M p.1 (layP x.1.left p.2.1).1.1 (layP x.1.left p.2.1).1.2 (.slice a p.2.2.length c) vm vt) (hoS : wr.ownsRow M 131 3 (.slice a p.2.2.length c) p.2.2.length (sideCells p.2.2)) (hf1 : Frm M wr w1) (hf : Below M w0 wr) (hMw : M < wr.heap.size)
    (hB5 : Blk w1 b5 [leftV x.1.left, .bool (x.1.op == 124), .slice x.2.1 x.1.right.length x.2.2] 126) : MidRel M p x r vm vt w0 b5 w1.heap.size ((w1.setCell ⟨M, 0, none⟩ (.int .u64 ((p.1 ||| r.1 : Nat) : Int))).alloc (.cells #[.int .u64 r.1, .int .u64 r.2.1, .bool r.2.2] 128)).drew := by
  have hs := hf1.size
  have hb5 := hB5.lt
  obtain ⟨vb, hBM⟩ := hM1.blk
  have hoS1 := hf1.own hoS (by decide) (by decide)
  have hne : M ≠ b5 := by
    intro h
    subst h
    unfold Blk at hBM hB5
    rw [hBM] at hB5
    simp at hB5
  have hA : ∀ o, Below (w1.setCell ⟨M, 0, none⟩ (.int .u64 ((p.1 ||| r.1 : Nat) : Int))).heap.size (w1.setCell ⟨M, 0, none⟩ (.int .u64 ((p.1 ||| r.1 : Nat) : Int))) ((w1.setCell ⟨M, 0, none⟩ (.int .u64 ((p.1 ||| r.1 : Nat) : Int))).alloc o).drew := fun o => below_one1 _ o
  refine ⟨a, c, (mac_first hM1).below (hA _), own_below (own_set_ne hoS1 _ _ (hBM.ne_row hoS1 (by decide))) (hA _), (hB5.setOther _ _ (by show M ≠ b5; exact hne)).below (hA _) (by simpa using hb5), ?_, ?_, by simp; omega⟩
  · exact Blk.new' _ _ (by simp) _ _
  · exact ((hf.trans hf1.1).setCell (Nat.le_refl _) _).trans ((hA _).mono (by simp; omega))
theorem side_done {M n : Nat} {rs : List PLn} {x : PLn} {vm vt : Value} {w0 wc W w2 : World} {a a' : Option Addr} {c c' : Nat} (hx : rs[n]? = some x)
    (hM : MacAt wc M ((newP (rs.take n)).1 ||| (layP x.1.left (newP (rs.take n)).2.1).2.1) (layP x.1.left (newP (rs.take n)).2.1).1.1 (layP x.1.left (newP (rs.take n)).2.1).1.2 (.slice a (newP (rs.take n)).2.2.length c) vm vt) (hoS : wc.ownsRow M 131 3 (.slice a (newP (rs.take n)).2.2.length c) (newP (rs.take n)).2.2.length (sideCells (newP (rs.take n)).2.2)) (hf : Below M w0 wc) (hMw : M ≤ wc.heap.size) (hW : Below wc.heap.size wc W)
    (ho : w2.ownsRow M 131 3 (.slice a' ((newP (rs.take n)).2.2.length + 1) c') ((newP (rs.take n)).2.2.length + 1) (sideCells (newP (rs.take n)).2.2 ++ [.int .u64 (layP x.1.left (newP (rs.take n)).2.1).2.2.1, .bool (layP x.1.left (newP (rs.take n)).2.1).2.2.2, .bool (x.1.op == 124)])) (hg : W.grownBy w2 (Value.slice a (newP (rs.take n)).2.2.length c).ownBlock) :
    (∃ vb, Blk w2 M (macCells ((newP (rs.take n)).1 ||| (layP x.1.left (newP (rs.take n)).2.1).2.1) vb (layP x.1.left (newP (rs.take n)).2.1).1.2 (.slice a (newP (rs.take n)).2.2.length c) vm vt) 121) ∧ NewRel M rs vm vt w0 (.int .i64 ((n : Int) + 1)) (w2.setCell ⟨M, 29, none⟩ (.slice a' ((newP (rs.take n)).2.2.length + 1) c')) := by
  have hn : n < rs.length := (List.getElem?_eq_some_iff.1 hx).1
  have e1 : newP (rs.take (n + 1)) = ((newP (rs.take n)).1 ||| (layP x.1.left (newP (rs.take n)).2.1).2.1, (layP x.1.left (newP (rs.take n)).2.1).1, (newP (rs.take n)).2.2 ++ [((layP x.1.left (newP (rs.take n)).2.1).2.2.1, (layP x.1.left (newP (rs.take n)).2.1).2.2.2, x)]) := by
    rw [List.take_add_one, hx]; exact newP_snoc _ _
  have hoW := own_below hoS hW
  have hM2 := (hM.below hW).grown hoW hg (by decide) (by decide)
  obtain ⟨vb, hBM⟩ := hM2.blk
  refine ⟨⟨vb, hBM⟩, n + 1, by omega, by go_num, ?_, ?_⟩
  · rw [e1]
    refine ⟨a', c', ?_, ?_⟩
    · simp only [List.length_append, List.length_singleton]
      exact mac_sides hM2
    · simp only [List.length_append, List.length_singleton]
      rw [sideCells_snoc]
      exact own_set_ne ho _ _ (hBM.ne_row ho (by decide))
  · exact ((hf.trans (hW.mono hMw)).grown hg (by have := hW.size; omega) (fun k hk => (hoS.lt k hk).1)).setCell (Nat.le_refl _) _

end Go.Proofs.YtbppbejigedioabGreatDoor
