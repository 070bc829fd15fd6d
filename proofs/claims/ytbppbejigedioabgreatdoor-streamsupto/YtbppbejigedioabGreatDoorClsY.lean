/- The program's symbol of a character. -/
import Derived.Test.YtbppbejigedioabGreatDoorBookF
import Derived.Test.YtbppbejigedioabGreatDoorClsX
import Derived.Laws.MakeOwn
namespace Go.Proofs.YtbppbejigedioabGreatDoor
open Go.RowKit

set_option maxRecDepth 100000 in
set_option maxHeartbeats 1000000 in
theorem symcmp_any (x : KItem) (c : Nat) (W : World) : Calls Tryz.prog 153 #[.agg #[.int .i32 x.2.1, .int .i32 x.2.2.1, .int .i64 x.1, .int .i64 x.2.2.2], .int .i32 c] W fun e w' => e = .returned (.int .i64 (Lib.compareInt x.2.2.1 c)) ∧ Below W.heap.size W w' := by
  have hcon := fun W' => compare_rune (x.2.2.1 : Int) (c : Int) W'
  generalize Lib.compareInt (x.2.2.1 : Int) (c : Int) = r at hcon ⊢
  go_enter Tryz.func153, Tryz.ntmps153
  go_wp2_with (go_at_call 48; refine (hcon _).mono ?_; rintro e w' ⟨rfl, rfl⟩)
  go_ret
  exact ⟨rfl, (Below.refl _ _).alloc (Nat.le_refl _) _⟩
theorem compare_neg {a b : Int} (h : a < b) : Lib.compareInt a b = -1 := by unfold Lib.compareInt; rw [if_pos h]
theorem compare_pos {a b : Int} (h : ¬ a < b) : 0 ≤ Lib.compareInt a b := by
  unfold Lib.compareInt; rw [if_neg h]; split <;> decide

/-- Where the items that end ahead of c end. -/
def Parted (its : List KItem) (c i : Nat) : Prop := (∀ k x, k < i → its[k]? = some x → x.2.2.1 < c) ∧ (∀ k x, i ≤ k → its[k]? = some x → c ≤ x.2.2.1)
def Lasts (its : List KItem) : Prop := its.Pairwise fun x y => x.2.2.1 < y.2.2.1
theorem lasts_le {its : List KItem} (h : Lasts its) {i j : Nat} {x y : KItem} (hx : its[i]? = some x) (hy : its[j]? = some y) (hij : i ≤ j) : x.2.2.1 ≤ y.2.2.1 := by
  rcases Nat.eq_or_lt_of_le hij with rfl | hlt
  · rw [hx] at hy; simp at hy; subst hy; exact Nat.le_refl _
  · obtain ⟨hi, rfl⟩ := List.getElem?_eq_some_iff.1 hx
    obtain ⟨hj, rfl⟩ := List.getElem?_eq_some_iff.1 hy
    exact Nat.le_of_lt ((List.pairwise_iff_getElem.1 h) i j hi hj hlt)

def BsRel (its : List KItem) (c : Nat) (w : World) (v x : Value) (wr : World) : Prop :=
  ∃ lo hi : Nat, v = .int .i64 lo ∧ x = .int .i64 hi ∧ lo ≤ hi ∧ hi ≤ its.length ∧ Below w.heap.size w wr ∧ (∀ k x, k < lo → its[k]? = some x → x.2.2.1 < c) ∧ (∀ k x, hi ≤ k → its[k]? = some x → c ≤ x.2.2.1)

set_option maxRecDepth 100000 in
set_option maxHeartbeats 1000000 in
theorem bsearch_any (its : List KItem) (a : Option Addr) (cap base c : Nat) (w : World) (ho : w.ownsRow base 108 4 (.slice a its.length cap) its.length (kitemCells its)) (hlen : its.length ≤ 2400) (hL : Lasts its) :
    Calls Tryz.prog 152 #[.slice a its.length cap, .int .i32 c, .func (.func 153) #[] #[]] w fun e w' => ∃ (i : Nat) (b : Bool), e = .returned (.tuple #[.int .i64 i, .bool b]) ∧ i ≤ its.length ∧ Parted its c i ∧ Below w.heap.size w w' := by
  have HO := hide ho
  have HL := hide hL
  clear ho hL
  go_enter Tryz.func152, Tryz.ntmps152
  go_wp2
  go_loopw [9, 10] (fun v x wr => BsRel its c w v x wr) (fun v x _ => (intOf x).toNat - (intOf v).toNat)
  case atStart =>
    go_light
    exact ⟨0, its.length, rfl, rfl, Nat.zero_le _, Nat.le_refl _, Below.refl _ _, fun k x hk => by omega, fun k x hk hx => by have := (List.getElem?_eq_some_iff.1 hx).1; omega⟩
  case round =>
    obtain ⟨lo, hi, rfl, rfl, hlh, hhn, hb, hA, hZ⟩ := hrel
    have HA := hide hA
    have HZ := hide hZ
    clear hA hZ
    by_cases hlt : lo < hi
    · obtain ⟨m, hm⟩ : ∃ m : Nat, ((lo : Int) + (hi : Int)) / 2 = (m : Int) := ⟨(lo + hi) / 2, by omega⟩
      have hm1 : lo ≤ m := by omega
      have hm2 : m < hi := by omega
      obtain ⟨g, x, rfl, hx, hg, c0, c1, c2, c3⟩ := kitem_cells (own_below (unhide HO) hb) m (by omega)
      have HX := hide hx
      have HC := hide (fun W => symcmp_any x c W)
      clear hx
      by_cases hcm : x.2.2.1 < c
      · have hneg := compare_neg (show (x.2.2.1 : Int) < (c : Int) by omega)
        have hrel2 : Hid (∀ w', Below wr.heap.size wr w' → BsRel its c w (.int .i64 ((m : Int) + 1)) (.int .i64 hi) w') := hide (fun w' hw' => ⟨m + 1, hi, by go_num, rfl, by omega, hhn, hb.trans (hw'.mono hb.size), fun k y hk hy => Nat.lt_of_le_of_lt (lasts_le (unhide HL) hy (unhide HX) (by omega)) hcm, unhide HZ⟩)
        clear hcm
        go_wp2_with (go_at_call 153; refine (unhide HC _).mono ?_; rintro e w1 ⟨rfl, hb1⟩; have HB1 := hide hb1; clear hb1; rw [hneg])
        go_roundw
        case rel => first | exact unhide hrel2 _ (unhide HB1) | ((repeat apply Exists.intro); exact ⟨unhide hrel2 _ (unhide HB1), rfl⟩)
        case measure => simp [intOf]; omega
      · have hpos := compare_pos (show ¬ (x.2.2.1 : Int) < (c : Int) by omega)
        generalize hr : Lib.compareInt (x.2.2.1 : Int) (c : Int) = r at hpos HC
        have hrel2 : Hid (∀ w', Below wr.heap.size wr w' → BsRel its c w (.int .i64 lo) (.int .i64 m) w') := hide (fun w' hw' => ⟨lo, m, rfl, rfl, hm1, by omega, hb.trans (hw'.mono hb.size), unhide HA, fun k y hk hy => by have := lasts_le (unhide HL) (unhide HX) hy hk; omega⟩)
        have hd : decide (r < 0) = false := by rw [decide_eq_false_iff_not]; omega
        clear hcm hpos hr
        go_wp2_with (go_at_call 153; refine (unhide HC _).mono ?_; rintro e w1 ⟨rfl, hb1⟩; have HB1 := hide hb1; clear hb1)
        go_roundw
        case rel => first | exact unhide hrel2 _ (unhide HB1) | ((repeat apply Exists.intro); exact ⟨unhide hrel2 _ (unhide HB1), rfl⟩)
        case measure => simp [intOf]; omega
    · obtain rfl : hi = lo := by omega
      have hfin : Hid (∀ (b : Bool) w', Below w.heap.size w w' → ∃ (i : Nat) (b' : Bool), Ending.returned (.tuple #[.int .i64 hi, .bool b]) = .returned (.tuple #[.int .i64 i, .bool b']) ∧ i ≤ its.length ∧ Parted its c i ∧ Below w.heap.size w w') := hide (fun b w' hw' => ⟨hi, b, rfl, hhn, ⟨unhide HA, unhide HZ⟩, hw'⟩)
      by_cases hn : hi < its.length
      · obtain ⟨g, x, rfl, hx, hg, c0, c1, c2, c3⟩ := kitem_cells (own_below (unhide HO) hb) hi hn
        have HC := hide (fun W => symcmp_any x c W)
        generalize hr : Lib.compareInt (x.2.2.1 : Int) (c : Int) = r at HC
        clear hx hr
        go_wp2_with (go_at_call 153; refine (unhide HC _).mono ?_; rintro e w1 ⟨rfl, hb1⟩; have HB1 := hide (hb.trans (hb1.mono hb.size)); clear hb1)
        go_ret2
        exact unhide hfin _ _ (unhide HB1)
      · go_wp2
        go_ret2
        exact unhide hfin _ _ hb
end Go.Proofs.YtbppbejigedioabGreatDoor
/- The program's symbol of a character: the call. -/
namespace Go.Proofs.YtbppbejigedioabGreatDoor
open Go.RowKit

def symOf (its : List KItem) (c : Int) : Int := ((its.find? fun o => Cu.hit c o.2).map fun o => o.1).getD 26
/-- One behind the other. -/
def Sep (its : List KItem) : Prop := its.Pairwise (fun x y => x.2.2.1 < y.2.1) ∧ ∀ y ∈ its, y.2.1 ≤ y.2.2.1
theorem Sep.lasts {its : List KItem} (h : Sep its) : Lasts its := by
  unfold Lasts
  rw [List.pairwise_iff_getElem]
  intro i j hi hj hij
  have h1 := (List.pairwise_iff_getElem.1 h.1) i j hi hj hij
  have h2 := h.2 _ (List.getElem_mem hj)
  omega
theorem pmet_symm (x y : Cu.Item) : pmet x y = pmet y x := by unfold pmet; rw [Bool.and_comm]
theorem sep_of {its its' : List KItem} (hp : its'.Perm its) (hr : Rising its') (ht : Tidy its) : Sep its' := by
  have hord : ∀ y ∈ its', y.2.1 ≤ y.2.2.1 := fun y hy => ht.1 y (hp.mem_iff.1 hy)
  have hpw : its'.Pairwise (fun o y => pmet y.2 o.2 = false) := (hp.pairwise_iff (fun {x y} h => by rw [pmet_symm]; exact h)).2 ht.2
  refine ⟨?_, hord⟩
  rw [List.pairwise_iff_getElem]
  intro i j hi hj hij
  have h1 := (List.pairwise_iff_getElem.1 hr) i j hi hj hij
  have h2 := (List.pairwise_iff_getElem.1 hpw) i j hi hj hij
  have h3 := hord _ (List.getElem_mem hj)
  unfold pmet at h2
  simp only [Bool.and_eq_false_iff, decide_eq_false_iff_not] at h2
  omega
theorem symOf_at {its : List KItem} {c i : Nat} {x : KItem} (hp : Parted its c i) (hx : its[i]? = some x) (h1 : x.2.1 ≤ c) : symOf its c = x.1 := by
  unfold symOf
  rw [Cu.find_some_at hx ?_ ?_]
  · rfl
  · rw [List.find?_eq_none]
    intro y hy
    obtain ⟨k, hk⟩ := List.mem_iff_getElem?.1 hy
    have hki : k < i := by
      have := (List.getElem?_eq_some_iff.1 hk).1
      simp at this
      omega
    rw [List.getElem?_take_of_lt hki] at hk
    have := hp.1 k y hki hk
    unfold Cu.hit
    simp only [decide_eq_true_eq]
    omega
  · have := hp.2 i x (Nat.le_refl _) hx
    unfold Cu.hit
    simp only [decide_eq_true_eq]
    omega
theorem symOf_miss {its : List KItem} {c i : Nat} (hS : Sep its) (hp : Parted its c i) (h : ∀ x, its[i]? = some x → c < x.2.1) : symOf its c = 26 := by
  unfold symOf
  have : its.find? (fun o => Cu.hit c o.2) = none := by
    rw [List.find?_eq_none]
    intro y hy
    obtain ⟨k, hk⟩ := List.mem_iff_getElem?.1 hy
    unfold Cu.hit
    simp only [decide_eq_true_eq]
    by_cases hki : k < i
    · have := hp.1 k y hki hk
      omega
    · by_cases hke : k = i
      · subst hke; have := h y hk; omega
      · have hkl := (List.getElem?_eq_some_iff.1 hk).1
        have hil : i < its.length := by omega
        have hx : its[i]? = some its[i] := by simp [hil]
        have h1 := h _ hx
        have h2 := (List.pairwise_iff_getElem.1 hS.1) i k hil hkl (by omega)
        have h3 := hS.2 _ (List.getElem_mem hil)
        obtain ⟨_, rfl⟩ := List.getElem?_eq_some_iff.1 hk
        omega
  rw [this]; rfl

set_option maxRecDepth 100000 in
set_option maxHeartbeats 1000000 in
theorem symbol_any (B c : Nat) (nm : Nat → Bool) (its : List KItem) (rs : List PLn) (w : World) (hB : BookAt w B nm its rs) (hlen : its.length ≤ 2400) (hS : Sep its) :
    Calls Tryz.prog 133 #[.pointer (some ⟨B, 0, none⟩), .int .i32 c] w fun e w' => e = .returned (.int .i64 (symOf its c)) ∧ Below w.heap.size w w' := by
  obtain ⟨ai, ar, ci, cr, hBk, hoI, hoR⟩ := hB
  have hb26 : w.cell? ⟨B, 26, none⟩ = some (.slice ai its.length ci) := hBk.cell 26
  have hBlt := hBk.lt
  have HBK := hide hBk
  have HO := hide hoI
  have HS := hide hS
  clear hBk hoI hoR hS
  go_enter Tryz.func133, Tryz.ntmps133
  go_wp2_with fail
  refine (bsearch_any its ai ci _ c _ (unhide HO) hlen (unhide HS).lasts).mono ?_
  rintro e w1 ⟨i, b, rfl, hin, hp, hb1⟩
  have hb26' : w1.cell? ⟨B, 26, none⟩ = some (.slice ai its.length ci) := ((unhide HBK).below hb1 hBlt).cell 26
  have HO1 := hide (own_below (unhide HO) hb1)
  have HB1 := hide hb1
  have HP := hide hp
  clear hp hb1 hb26
  by_cases hlt : i < its.length
  · obtain ⟨g, x, rfl, hx, hg, c0, c1, c2, c3⟩ := kitem_cells (unhide HO1) i hlt
    by_cases hc : x.2.1 ≤ c
    · have hr := hide (symOf_at (unhide HP) hx hc)
      have d1 : decide (x.2.1 ≤ c) = true := by rw [decide_eq_true_eq]; exact hc
      clear hx hc
      go_wp2
      go_ret
      exact ⟨by rw [unhide hr]; rfl, unhide HB1⟩
    · have hr := hide (symOf_miss (unhide HS) (unhide HP) (fun y hy => by rw [hx] at hy; simp at hy; subst hy; omega))
      have d1 : decide (x.2.1 ≤ c) = false := by rw [decide_eq_false_iff_not]; exact hc
      clear hx hc
      go_wp2
      go_ret
      exact ⟨by rw [unhide hr]; rfl, unhide HB1⟩
  · have hr := hide (symOf_miss (unhide HS) (unhide HP) (fun y hy => by have := (List.getElem?_eq_some_iff.1 hy).1; omega))
    go_wp2
    go_ret
    exact ⟨by rw [unhide hr]; rfl, unhide HB1⟩
end Go.Proofs.YtbppbejigedioabGreatDoor
/- The program's split of a text. -/
namespace Go.Proofs.YtbppbejigedioabGreatDoor
open Go.RowKit

set_option maxRecDepth 100000 in
set_option maxHeartbeats 400000 in
theorem stray_any (c n : Int) (w : World) : Calls Tryz.prog 132 #[.int .i32 c, .int .i64 n] w fun e w' => e = .returned (.bool (strayB c n)) ∧ w = w' := by
  go_enter Tryz.func132, Tryz.ntmps132
  go_wp2
  all_goals go_ret
  all_goals exact ⟨ret_bool (by unfold strayB; rw [Bool.eq_iff_iff]; simp_all), rfl⟩

theorem needs_one {c : Nat} (h : (Cu.needs c).1 = 1) : c < 128 := by
  unfold Cu.needs at h
  repeat' split at h
  all_goals first | omega | (simp at h)
theorem dec_bad {s : ByteArray} {i : Nat} (hi : i < s.size) (hb : Cu.bad s.data.toList i = true) : Lib.decodeGo (s.extract i s.size) = (65533, 1) := by
  rw [decGo s i (by omega), if_pos hi, Cu.dec_well _ _ (by rw [len_toList]; exact hi), if_neg]
  unfold Cu.bad at hb
  simp only [decide_eq_true_eq] at hb
  have := Cu.well_le s.data.toList i
  omega
theorem dec_good {s : ByteArray} {i : Nat} (hi : i < s.size) (hb : Cu.bad s.data.toList i = false) :
    Lib.decodeGo (s.extract i s.size) = (Cu.code s.data.toList i (Cu.well s.data.toList i).2, (Cu.well s.data.toList i).2) ∧ strayB (Cu.code s.data.toList i (Cu.well s.data.toList i).2 : Nat) ((Cu.well s.data.toList i).2 : Nat) = false := by
  unfold Cu.bad at hb
  simp only [decide_eq_false_iff_not] at hb
  have hw := Cu.well_le s.data.toList i
  refine ⟨?_, ?_⟩
  · rw [decGo s i (by omega), if_pos hi, Cu.dec_well _ _ (by rw [len_toList]; exact hi), if_pos (by omega)]
  · unfold strayB
    rw [decide_eq_false_iff_not]
    rintro ⟨h1, h2⟩
    have hn : (Cu.well s.data.toList i).2 = 1 := by omega
    rw [hn] at h1
    have hc : Cu.code s.data.toList i 1 = Cu.byt s.data.toList i := rfl
    rw [hc] at h1
    have hne : (Cu.needs (Cu.byt s.data.toList i)).1 = 1 := by
      have : (Cu.well s.data.toList i).2 = (Cu.needs (Cu.byt s.data.toList i)).1 := by
        unfold Cu.well; split
        · rename_i h0; exact h0.symm
        · rfl
      omega
    have := needs_one hne
    omega
theorem symOf_bad (its : List KItem) : symOf its (-1) = 26 := by
  unfold symOf
  have : its.find? (fun o => Cu.hit (-1) o.2) = none := by
    rw [List.find?_eq_none]
    intro y _
    unfold Cu.hit
    simp only [decide_eq_true_eq]
    omega
  rw [this]; rfl

theorem isEmpty_of {t : ByteArray} (h : t.size = 0) : t.toList.isEmpty = true := by
  rw [ByteArray.toList_eq, List.isEmpty_iff_length_eq_zero, len_toList]; exact h
theorem notEmpty_of {t : ByteArray} (h : ¬ t.size = 0) : t.toList.isEmpty = false := by
  rw [ByteArray.toList_eq, Bool.eq_false_iff, ne_eq, List.isEmpty_iff_length_eq_zero, len_toList]; exact h

/-- What stands behind: a symbol, or the end. -/
def symB (its : List KItem) : List Cu.Chr → Nat
  | [] => 27
  | y :: _ => (symOf its y.2.2).toNat
/-- The cells of a character, with what is behind it. -/
def chv (its : List KItem) (rs : List PLn) (x : Cu.Chr) (r : List Cu.Chr) : List Value := [.int .i64 x.1, .int .i64 (symOf its x.2.2), .int .u16 (stN rs (symOf its x.2.2).toNat (symB its r))]
/-- The cells of the characters l, with r behind them. -/
def spCells (its : List KItem) (rs : List PLn) : List Cu.Chr → List Cu.Chr → List Value
  | [], _ => []
  | x :: l, r => chv its rs x (l ++ r) ++ spCells its rs l r
theorem spCells_snoc (its : List KItem) (rs : List PLn) (l : List Cu.Chr) (x : Cu.Chr) (r : List Cu.Chr) : spCells its rs (l ++ [x]) r = spCells its rs l (x :: r) ++ chv its rs x r := by
  induction l with
  | nil => simp [spCells]
  | cons y l ih => simp [spCells, ih]
theorem Tryz.info141 : (Tryz.prog.info? 141).map (fun i => (i.zero, i.size, i.bytes)) = some (some (.agg #[.int .i64 0, .int .i64 0, .int .u16 0]), 3, 24) := by kernel_rfl

/-- What next tells at a place: the symbol (27: the end), how wide. -/
def nxS (its : List KItem) (s : ByteArray) (i : Nat) : Nat := if i < s.size then (symOf its (Cu.chCode s.data.toList i)).toNat else 27
def nxW (s : ByteArray) (i : Nat) : Nat := if i < s.size then Cu.chN s.data.toList i else 0
def Syms (its : List KItem) : Prop := ∀ c, 0 ≤ symOf its c ∧ symOf its c ≤ 26
theorem symB_go (its : List KItem) (s : ByteArray) (f i : Nat) (hf : s.size ≤ i + f) : symB its (Cu.charsGo s.data.toList f i) = nxS its s i := by
  unfold nxS
  by_cases h : i < s.size
  · obtain ⟨g, rfl⟩ : ∃ g, f = g + 1 := ⟨f - 1, by omega⟩
    rw [Cu.charsGo_step (by rw [len_toList]; exact h), if_pos h]
    rfl
  · rw [Cu.charsGo_end (by rw [len_toList]; omega), if_neg h]
    rfl

set_option maxRecDepth 100000 in
set_option maxHeartbeats 1000000 in
theorem next_any (s : ByteArray) (i B : Nat) (nm : Nat → Bool) (its : List KItem) (rs : List PLn) (w : World) (hi : i ≤ s.size) (hB : BookAt w B nm its rs) (hlen : its.length ≤ 2400) (hS : Sep its) (hT : Tabs w) (hY : Syms its) :
    Calls Tryz.prog 91 #[.pointer (some ⟨B, 0, none⟩), .string (s.extract i s.size)] w fun e w' => e = .returned (.tuple #[.int .i64 (nxS its s i), .int .i64 (nxW s i)]) ∧ Below w.heap.size w w' := by
  have hsz : (s.extract i s.size).size = s.size - i := by simp
  by_cases hlt : i < s.size
  · have hne := notEmpty_of (show ¬ (s.extract i s.size).size = 0 by omega)
    cases hbad : Cu.bad s.data.toList i with
    | true =>
      have hdec := dec_bad hlt hbad
      have hfin : Hid (nxS its s i = 26 ∧ nxW s i = 1) := hide (by
        unfold nxS nxW Cu.chCode Cu.chN
        rw [if_pos hlt, if_pos hlt, if_pos hbad, if_pos hbad, symOf_bad]
        exact ⟨rfl, rfl⟩)
      generalize s.extract i s.size = t at *
      have HB := hide hB
      have HT := hide hT
      have hst : strayB 65533 1 = true := rfl
      clear hB hT hS hY hbad
      go_enter Tryz.func91, Tryz.ntmps91
      go_wp2_with fail
      refine (Tryz.utf8_DecodeRuneInString _ _ (unhide HT)).mono ?_
      rintro e w1 ⟨rfl, hb1⟩
      rw [hdec]
      have HB1 := hide hb1
      clear hb1 hdec
      go_wp2_with fail
      refine (stray_any _ _ _).mono ?_
      rintro e w1' ⟨rfl, rfl⟩
      rw [hst]
      go_wp2
      go_ret2
      exact ⟨by rw [(unhide hfin).1, (unhide hfin).2]; rfl, unhide HB1⟩
    | false =>
      obtain ⟨hdec, hst⟩ := dec_good hlt hbad
      generalize hcd : Cu.code s.data.toList i (Cu.well s.data.toList i).2 = cd at hdec hst
      have hfin : Hid ((nxS its s i : Int) = symOf its (cd : Nat) ∧ nxW s i = (Cu.well s.data.toList i).2) := hide (by
        unfold nxS nxW Cu.chCode Cu.chN
        rw [if_pos hlt, if_pos hlt, if_neg (by rw [hbad]; decide), if_neg (by rw [hbad]; decide), hcd]
        have := hY (cd : Nat)
        exact ⟨by omega, rfl⟩)
      generalize (Cu.well s.data.toList i).2 = wd at *
      generalize s.extract i s.size = t at *
      have HB := hide hB
      have HT := hide hT
      have HS := hide hS
      clear hB hT hS hY hbad hcd
      go_enter Tryz.func91, Tryz.ntmps91
      go_wp2_with fail
      refine (Tryz.utf8_DecodeRuneInString _ _ (unhide HT)).mono ?_
      rintro e w1 ⟨rfl, hb1⟩
      rw [hdec]
      have HB1 := hide hb1
      clear hb1 hdec
      go_wp2_with fail
      refine (stray_any _ _ _).mono ?_
      rintro e w1' ⟨rfl, rfl⟩
      rw [hst]
      go_wp2_with fail
      refine (symbol_any B cd nm its rs _ ((unhide HB).below (unhide HB1)) hlen (unhide HS)).mono ?_
      rintro e w3 ⟨rfl, hb3⟩
      have HB3 := hide (below_two hb3 (unhide HB1))
      clear hb3
      go_wp2
      go_ret2
      exact ⟨by rw [(unhide hfin).1, (unhide hfin).2]; rfl, unhide HB3⟩
  · have hne := isEmpty_of (show (s.extract i s.size).size = 0 by omega)
    have hfin : Hid (nxS its s i = 27 ∧ nxW s i = 0) := hide (by
      unfold nxS nxW
      rw [if_neg hlt, if_neg hlt]
      exact ⟨rfl, rfl⟩)
    generalize s.extract i s.size = t at *
    clear hB hT hS hY
    go_enter Tryz.func91, Tryz.ntmps91
    go_wp2
    go_ret2
    exact ⟨by rw [(unhide hfin).1, (unhide hfin).2]; rfl, Below.refl _ _⟩

set_option maxRecDepth 100000 in
set_option maxHeartbeats 400000 in
theorem beginning_zero (s : ByteArray) (w : World) : Calls Tryz.prog 90 #[.string s, .int .i64 0] w fun e w' => e = .returned (.int .i64 0) ∧ w = w' := by
  go_enter Tryz.func90, Tryz.ntmps90
  go_wp2
  go_loopw [5] (fun v wr => v = .int .i64 (-1) ∧ w = wr) (fun _ _ => 0)
  case atStart =>
    go_light
    exact ⟨rfl, rfl⟩
  case round =>
    obtain ⟨rfl, rfl⟩ := hrel
    go_wp2
    go_ret
    exact ⟨rfl, rfl⟩

def SplitRel (s : ByteArray) (tp : Nat) (its : List KItem) (rs : List PLn) (w : World) (v x y z : Value) (wr : World) : Prop :=
  ∃ (i f cap : Nat) (l : List Cu.Chr) (a : Option Addr), i ≤ s.size ∧ s.size ≤ i + f ∧ x = .int .i64 i ∧ y = .int .i64 (nxS its s i) ∧ z = .int .i64 (nxW s i) ∧ v = .slice a l.length cap ∧ l.length ≤ i ∧ wr.ownsRow w.heap.size 141 3 (.slice a l.length cap) l.length (spCells its rs l (Cu.charsGo s.data.toList f i)) ∧ Below w.heap.size w wr ∧
    l ++ Cu.charsGo s.data.toList f i = Cu.chars s.data.toList ∧ ∀ x ∈ l, x.1 < tp
/-- What begins ahead of a place. -/
def SplitTo (s : ByteArray) (tp : Nat) (its : List KItem) (rs : List PLn) (w : World) (e : Ending) (w' : World) : Prop :=
  ∃ (a : Option Addr) (cap i f : Nat) (l : List Cu.Chr), e = .returned (.slice a l.length cap) ∧ tp ≤ i ∧ s.size ≤ i + f ∧ l ++ Cu.charsGo s.data.toList f i = Cu.chars s.data.toList ∧ (∀ x ∈ l, x.1 < tp) ∧ w'.ownsRow w.heap.size 141 3 (.slice a l.length cap) l.length (spCells its rs l (Cu.charsGo s.data.toList f i)) ∧ Below w.heap.size w w'
def SplitRes (s : ByteArray) (its : List KItem) (rs : List PLn) (w : World) (e : Ending) (w' : World) : Prop :=
  ∃ (a : Option Addr) (cap : Nat), e = .returned (.slice a (Cu.chars s.data.toList).length cap) ∧ w'.ownsRow w.heap.size 141 3 (.slice a (Cu.chars s.data.toList).length cap) (Cu.chars s.data.toList).length (spCells its rs (Cu.chars s.data.toList) []) ∧ Below w.heap.size w w'
theorem split_done {s : ByteArray} {tp : Nat} {its : List KItem} {rs : List PLn} {i f q cap cap' : Nat} {l : List Cu.Chr} {a a' : Option Addr} {w w1 W w2 : World} (hY : Syms its) (hi : i < s.size) (hf : s.size ≤ i + (f + 1)) (hq : i + nxW s i = q) (hl : l.length ≤ i) (hb : Below w.heap.size w w1) (hW : Below w1.heap.size w1 W) (hO : w1.ownsRow w.heap.size 141 3 (.slice a l.length cap) l.length (spCells its rs l (Cu.charsGo s.data.toList (f + 1) i)))
    (ho : w2.ownsRow w.heap.size 141 3 (.slice a' (l.length + 1) cap') (l.length + 1) (spCells its rs l (Cu.charsGo s.data.toList (f + 1) i) ++ [.int .i64 i, .int .i64 (nxS its s i), .int .u16 (stN rs (nxS its s i) (nxS its s q))])) (hg : W.grownBy w2 (Value.slice a l.length cap).ownBlock)
    (hgo : l ++ Cu.charsGo s.data.toList (f + 1) i = Cu.chars s.data.toList) (hall : ∀ x ∈ l, x.1 < tp) (hit : i < tp) : SplitRel s tp its rs w (.slice a' (l.length + 1) cap') (.int .i64 q) (.int .i64 (nxS its s q)) (.int .i64 (nxW s q)) w2 := by
  have hlen : (l ++ [(i, Cu.chN s.data.toList i, Cu.chCode s.data.toList i)]).length = l.length + 1 := by simp
  have hn := Cu.chN_pos s.data.toList i
  rw [len_toList] at hn
  have hw : nxW s i = Cu.chN s.data.toList i := by unfold nxW; rw [if_pos hi]
  have hsy : ((nxS its s i : Nat) : Int) = symOf its (Cu.chCode s.data.toList i) := by
    unfold nxS
    rw [if_pos hi]
    have := hY (Cu.chCode s.data.toList i)
    omega
  have hst := Cu.charsGo_step (f := f) (show i < s.data.toList.length by rw [len_toList]; exact hi)
  have hq2 : i + Cu.chN s.data.toList i = q := by omega
  rw [hq2] at hst
  have hsB : symB its (Cu.charsGo s.data.toList f q) = nxS its s q := symB_go its s f q (by omega)
  refine ⟨q, f, cap', l ++ [(i, Cu.chN s.data.toList i, Cu.chCode s.data.toList i)], a', by have := hn.2.2 hi; omega, by omega, rfl, rfl, rfl, by rw [hlen], by rw [hlen]; omega, ?_, ?_, ?_, ?_⟩
  · rw [hlen, spCells_snoc, ← hst]
    unfold chv
    rw [hsB, ← hsy]
    simpa using ho
  · have h1 := hb.size
    exact (hb.trans (hW.mono h1)).grown hg (by have := hW.size; omega) (fun k hk => (hO.lt k hk).1)
  · rw [← hgo, hst]; simp
  · intro x hx
    rcases List.mem_append.1 hx with h1 | h1
    · exact hall x h1
    · simp only [List.mem_singleton] at h1
      subst h1
      exact hit
theorem nxS_lt {its : List KItem} (hY : Syms its) (s : ByteArray) (i : Nat) : nxS its s i < 28 := by
  unfold nxS
  split
  · have := hY (Cu.chCode s.data.toList i); omega
  · decide

set_option maxRecDepth 100000 in
set_option maxHeartbeats 2000000 in
theorem split_to (s : ByteArray) (tp : Nat) (hto : tp ≤ s.size) (B : Nat) (nm : Nat → Bool) (its : List KItem) (rs : List PLn) (w : World) (hs : s.size ≤ 1048576) (hB : BookAt w B nm its rs) (hlen : its.length ≤ 2400) (hS : Sep its) (hT : Tabs w) (hY : Syms its) (hrs : rs.length ≤ 12) :
    Calls Tryz.prog 52 #[.pointer (some ⟨B, 0, none⟩), .string s, .int .i64 0, .int .i64 tp] w fun e w' => SplitTo s tp its rs w e w' := by
  obtain ⟨i0, ki, kz0, kz1, kz2⟩ := info_parts Tryz.info141
  have hTB : Hid (∀ wr, Below w.heap.size w wr → Tabs wr ∧ BookAt wr B nm its rs) := hide (fun wr hb => ⟨tabs_grown hT (grown_of_below hb none) (by simp) (by simp), hB.below hb⟩)
  have hnext : Hid (∀ (i : Nat) (wr : World), i ≤ s.size → Below w.heap.size w wr → Calls Tryz.prog 91 #[.pointer (some ⟨B, 0, none⟩), .string (s.extract i s.size)] wr fun e w' => e = .returned (.tuple #[.int .i64 (nxS its s i), .int .i64 (nxW s i)]) ∧ Below wr.heap.size wr w') :=
    hide (fun i wr hi hb => next_any s i B nm its rs wr hi (unhide hTB wr hb).2 hlen hS (unhide hTB wr hb).1 hY)
  have HY := hide hY
  clear hT hB hS hY
  go_enter Tryz.func52, Tryz.ntmps52
  go_wp2_with fail
  refine (Tryz.utf8_RuneCountInString (s.extract 0 tp) _ (by simp; omega)).mono ?_
  rintro e W ⟨rfl, pos, rfl⟩
  have hrc := Lib.runeCount_le (s.extract 0 tp)
  have hse : (s.extract 0 tp).size ≤ 1048576 := by simp; omega
  have hbi : Below w.heap.size w (w.iter (s.extract 0 tp) pos) := (Below.refl _ _).alloc (Nat.le_refl _) _
  generalize hWi : w.iter (s.extract 0 tp) pos = W at hbi ⊢
  generalize Lib.runeCount (s.extract 0 tp) = rc at hrc ⊢
  obtain ⟨wm, hmk, hom, hgm⟩ := run_make_own (P := Tryz.prog) W w.heap.size 133 141 i0 (.agg #[.int .i64 0, .int .i64 0, .int .u16 0]) 3 Tryz.underlying133 ki kz0 kz1 .i64 .i64 rc (by rw [kz2]; omega) (by unfold maxLen; omega) hbi.size
  have hbm : Below w.heap.size w wm := hbi.grown hgm hbi.size (fun k hk => by cases hk)
  have HOM := hide hom
  have HBM := hide hbm
  clear hom hgm hbm hWi hbi
  go_wp2_with (go_at_call 90; refine (beginning_zero _ _).mono ?_; rintro e w' ⟨rfl, rfl⟩)
  have hn0 := unhide hnext 0 _ (Nat.zero_le _) (unhide HBM)
  rw [ByteArray.extract_zero_size] at hn0
  refine hn0.mono ?_
  rintro e wn ⟨rfl, hbn⟩
  have hstart : Hid (SplitRel s tp its rs w (.slice (some ⟨W.heap.size, 0, none⟩) 0 rc) (.int .i64 0) (.int .i64 (nxS its s 0)) (.int .i64 (nxW s 0)) wn) := hide
    ⟨0, s.size, rc, [], some ⟨W.heap.size, 0, none⟩, Nat.zero_le _, by omega, rfl, rfl, rfl, rfl, Nat.le_refl _, own_below (unhide HOM) hbn, below_two hbn (unhide HBM), by unfold Cu.chars; rw [len_toList]; rfl, fun x hx => by simp at hx⟩
  clear hbn
  go_wp2
  go_loopw [9, 10, 11, 12] (fun v x y z wr => SplitRel s tp its rs w v x y z wr) (fun _ x _ _ _ => s.size + 1 - (intOf x).toNat)
  case atStart =>
    go_light
    exact unhide hstart
  case round =>
    obtain ⟨i, f, cap, l, a, hi, hf, rfl, rfl, rfl, rfl, hl, hown, hb, hgo, hall⟩ := hrel
    have HO := hide hown
    have HG := hide hgo
    have HALL := hide hall
    have HB := hide hb
    have hbs := hb.size
    clear hown hgo hb hall
    by_cases hit : i < tp
    · have hlt : i < s.size := by omega
      have HIT := hide hit
      obtain ⟨g, rfl⟩ : ∃ g, f = g + 1 := ⟨f - 1, by omega⟩
      have hn := Cu.chN_pos s.data.toList i
      rw [len_toList] at hn
      have hwd : nxW s i = Cu.chN s.data.toList i := by unfold nxW; rw [if_pos hlt]
      obtain ⟨q, hq⟩ : ∃ q : Nat, i + nxW s i = q := ⟨_, rfl⟩
      have hqs : q ≤ s.size := by have := hn.2.2 hlt; omega
      have hqi : i < q := by have := hn.1; omega
      have hadd : (i : Int) + ((nxW s i : Nat) : Int) = (q : Int) := by omega
      have HQ := hide hq
      have hcap : (l.length + 1) * 24 ≤ 140737488355328 := by omega
      have hmax : l.length + 1 ≤ maxLen := by unfold maxLen; omega
      have hy1 := nxS_lt (unhide HY) s i
      have hy2 := nxS_lt (unhide HY) s q
      have HN := hide (unhide hnext q wr hqs (unhide HB))
      have hdone := hide (fun (a' : Option Addr) (cap' : Nat) (w1 W w2 : World) (hw1 : Below wr.heap.size wr w1) (hW : Below w1.heap.size w1 W) => split_done (tp := tp) (a := a) (cap := cap) (a' := a') (cap' := cap') (w1 := w1) (W := W) (w2 := w2) (unhide HY) hlt hf (unhide HQ) hl (below_two hw1 (unhide HB)) hW (own_below (unhide HO) hw1))
      generalize hsi : nxS its s i = sy at *
      generalize hsq : nxS its s q = sq at *
      generalize hwi : nxW s i = wd at *
      generalize hwq : nxW s q = wq at *
      clear hn hwd hq hsi hsq hwi hwq
      go_wp2_with fail
      refine (unhide HN).mono ?_
      rintro e w1 ⟨rfl, hb1⟩
      have hs1 := hb1.size
      obtain ⟨ai, ar, ci, cr, hBk, hoI, hoR⟩ := (unhide hTB w1 (below_two hb1 (unhide HB))).2
      have hBlt := hBk.lt
      have hnB : B ≠ w1.heap.size := by omega
      have b0 : w1.cell? ⟨B, 28 + sy, none⟩ = some (.int .u16 (rtOf rs sy)) := by rw [hBk.cell, bookCells_right _ _ _ _ _ (by omega)]
      have b1 : w1.cell? ⟨B, 56 + sq, none⟩ = some (.int .u16 (rtOf rs (28 + sq))) := by rw [hBk.cell, show 56 + sq = 28 + (28 + sq) by omega, bookCells_right _ _ _ _ _ (by omega)]
      have hand : bits .and .u16 ((rtOf rs sy : Nat) : Int) ((rtOf rs (28 + sq) : Nat) : Int) = ((stN rs sy sq : Nat) : Int) := u16_and_nat _ _ (rtOf_lt hrs _) (rtOf_lt hrs _)
      have HO1 := hide (own_below (unhide HO) hb1)
      have HD := hide (fun (a' : Option Addr) (cap' : Nat) (W w2 : World) => unhide hdone a' cap' w1 W w2 hb1)
      have hy1i : (sy : Int) < 28 := by omega
      have hy2i : (sq : Int) < 28 := by omega
      clear hBk hoI hoR hb1 hdone
      go_wp2
      go_region_law (refine step_append_own rfl (.tmp 45) (.tmp 64) 133 rfl w.heap.size 141 i0 (.agg #[.int .i64 0, .int .i64 0, .int .u16 0]) 3 24 Tryz.underlying133 ki kz0 kz1 kz2 rfl (by decide) (.slice a l.length cap) l.length (spCells its rs l (Cu.charsGo s.data.toList (g + 1) i)) (by simp [Act.eval]) (by exact (unhide HO1).alloc _) ⟨w1.heap.size, 0, none⟩ 1 1 [.int .i64 i, .int .i64 sy, .int .u16 (stN rs sy sq)] (by simp [Act.eval]) rfl (by exact news_new _ _ rfl _ _) (one3 _ _ _) hmax hcap (by simp; omega) ?_; intro v' w2 hown' hgrow; obtain ⟨a', cap', hv'⟩ := own_form hown'; subst hv'; have HF := hide (unhide HD a' cap' _ w2 (below_one1 _ _) hown' hgrow (unhide HG) (unhide HALL) (unhide HIT)); clear hown' hgrow)
      all_goals
        go_wp2
        go_roundw
        case rel => first | exact unhide HF | ((repeat apply Exists.intro); exact ⟨unhide HF, rfl⟩)
        case measure => simp [intOf]; omega
    · have hr : Hid (SplitTo s tp its rs w (.returned (.slice a l.length cap)) wr) := hide ⟨a, cap, i, f, l, rfl, by omega, hf, unhide HG, unhide HALL, unhide HO, unhide HB⟩
      go_wp2
      go_ret
      exact unhide hr
theorem split_any (s : ByteArray) (B : Nat) (nm : Nat → Bool) (its : List KItem) (rs : List PLn) (w : World) (hs : s.size ≤ 1048576) (hB : BookAt w B nm its rs) (hlen : its.length ≤ 2400) (hS : Sep its) (hT : Tabs w) (hY : Syms its) (hrs : rs.length ≤ 12) :
    Calls Tryz.prog 52 #[.pointer (some ⟨B, 0, none⟩), .string s, .int .i64 0, .int .i64 s.size] w fun e w' => SplitRes s its rs w e w' := by
  refine (split_to s s.size (Nat.le_refl _) B nm its rs w hs hB hlen hS hT hY hrs).mono ?_
  rintro e w' ⟨a, cap, i, f, l, rfl, h1, h2, h3, _, h4, h5⟩
  have e0 : Cu.charsGo s.data.toList f i = [] := Cu.charsGo_end (by rw [len_toList]; omega)
  rw [e0, List.append_nil] at h3
  subst h3
  rw [e0] at h4
  exact ⟨a, cap, rfl, h4, h5⟩
end Go.Proofs.YtbppbejigedioabGreatDoor
/- The symbol of a character is the letter of its class. -/
namespace Go.Proofs.YtbppbejigedioabGreatDoor
open Go.RowKit

theorem hit_met {c : Int} {x y : Cu.Item} (h1 : Cu.hit c x = true) (h2 : Cu.hit c y = true) : pmet y x = true := by
  unfold Cu.hit at h1 h2
  simp only [decide_eq_true_eq] at h1 h2
  unfold pmet
  simp only [Bool.and_eq_true, decide_eq_true_eq]
  omega
theorem hit_one {its : List KItem} (ht : Tidy its) {c : Int} {o o' : KItem} (ho : o ∈ its) (ho' : o' ∈ its) (h1 : Cu.hit c o.2 = true) (h2 : Cu.hit c o'.2 = true) : o = o' := by
  obtain ⟨i, hi, rfl⟩ := List.mem_iff_getElem.1 ho
  obtain ⟨j, hj, rfl⟩ := List.mem_iff_getElem.1 ho'
  rcases Nat.lt_trichotomy i j with h | h | h
  · have := (List.pairwise_iff_getElem.1 ht.2) i j hi hj h
    rw [hit_met h1 h2] at this
    cases this
  · subst h; rfl
  · have := (List.pairwise_iff_getElem.1 ht.2) j i hj hi h
    rw [hit_met h2 h1] at this
    cases this
theorem symOf_perm {its its' : List KItem} (hp : its'.Perm its) (ht : Tidy its) (c : Int) : symOf its' c = symOf its c := by
  unfold symOf
  have he : its'.find? (fun o => Cu.hit c o.2) = its.find? (fun o => Cu.hit c o.2) := by
    cases h1 : its.find? (fun o => Cu.hit c o.2) with
    | none =>
      rw [List.find?_eq_none] at h1 ⊢
      intro y hy
      exact h1 y (hp.mem_iff.1 hy)
    | some o =>
      cases h2 : its'.find? (fun o => Cu.hit c o.2) with
      | none =>
        rw [List.find?_eq_none] at h2
        exact absurd (List.find?_some h1) (h2 o (hp.mem_iff.2 (List.mem_of_find?_eq_some h1)))
      | some o' =>
        have q1 : Cu.hit c o.2 = true := by have := List.find?_some h1; exact this
        have q2 : Cu.hit c o'.2 = true := by have := List.find?_some h2; exact this
        rw [hit_one ht (hp.mem_iff.1 (List.mem_of_find?_eq_some h2)) (List.mem_of_find?_eq_some h1) q2 q1]
  rw [he]

/-- The letter of a symbol. -/
def letter (k : Int) : Nat := Cu.byt Cu.signL k.toNat
theorem letter_name : ∀ n : Fin 256, Cu.isName n.val = true → letter (Cu.sk n.val) = n.val := by decide +kernel
theorem letter_26 : letter 26 = 95 := rfl
theorem letter_law (c : Int) (ls : List Cu.Ln) (hS : ∀ x ∈ ls, Shape x) : letter (symOf (kits ls) c) = Cu.classOf ls c ∧ 0 ≤ symOf (kits ls) c ∧ symOf (kits ls) c ≤ 26 := by
  induction ls with
  | nil =>
    have e0 : symOf (kits []) c = 26 := rfl
    rw [e0]
    exact ⟨rfl, by decide, by decide⟩
  | cons x ls ih =>
    have ih2 := ih (fun y hy => hS y (by simp [hy]))
    have e1 : kits (x :: ls) = (x.items.map fun y => (Cu.sk x.name, y)) ++ kits ls := rfl
    cases hx : Cu.hitLn c x with
    | true =>
      have e2 : Cu.classOf (x :: ls) c = x.name := Cu.classOf_some (by rw [List.find?_cons_of_pos hx])
      have hx' := hx
      unfold Cu.hitLn at hx'
      obtain ⟨y, hy, hyh⟩ := List.any_eq_true.1 hx'
      have e3 : ∃ o, (x.items.map fun y => (Cu.sk x.name, y)).find? (fun o => Cu.hit c o.2) = some (Cu.sk x.name, o) := by
        cases hf : (x.items.map fun y => (Cu.sk x.name, y)).find? (fun o => Cu.hit c o.2) with
        | none =>
          rw [List.find?_eq_none] at hf
          exact absurd hyh (hf (Cu.sk x.name, y) (List.mem_map.2 ⟨y, hy, rfl⟩))
        | some o =>
          obtain ⟨z, _, hz⟩ := List.mem_map.1 (List.mem_of_find?_eq_some hf)
          exact ⟨z, by rw [← hz]⟩
      obtain ⟨o, e3⟩ := e3
      have e4 : symOf (kits (x :: ls)) c = Cu.sk x.name := by
        unfold symOf
        rw [e1, List.find?_append, e3]
        rfl
      have hs := hS x (by simp)
      have hne : x.items ≠ [] := fun h => by rw [h] at hy; simp at hy
      have h0 : x.op = 0 := Decidable.byContradiction fun h => hne (hs.2 h).2.1
      have hname : Cu.isName x.name = true := by
        rcases (hs.1 h0).2.2 with h | h
        · exact h
        · exact absurd h.2 hne
      have hk := name_sk hname
      rw [e4, e2]
      exact ⟨letter_name ⟨x.name, name_lt hname⟩ hname, by omega, by omega⟩
    | false =>
      have e2 : Cu.classOf (x :: ls) c = Cu.classOf ls c := by unfold Cu.classOf; rw [List.find?_cons_of_neg (by rw [hx]; decide)]
      have e3 : (x.items.map fun y => (Cu.sk x.name, y)).find? (fun o => Cu.hit c o.2) = none := by
        rw [List.find?_eq_none]
        intro o ho
        obtain ⟨z, hz, rfl⟩ := List.mem_map.1 ho
        have hx' := hx
        unfold Cu.hitLn at hx'
        rw [List.any_eq_false] at hx'
        exact hx' z hz
      have e4 : symOf (kits (x :: ls)) c = symOf (kits ls) c := by
        unfold symOf
        rw [e1, List.find?_append, e3]
        rfl
      rw [e4, e2]
      exact ih2
/-- What the book of a file that is well gives for each character. -/
theorem book_letter {s : ByteArray} {p : Nat} {lns : List Cu.Ln} {its' : List KItem} (hg : Cu.readGo s.data.toList 12 0 [] = (true, p, lns)) (hp : its'.Perm (kits lns)) (ht : Tidy (kits lns)) (c : Int) :
    letter (symOf its' c) = Cu.classOf lns c ∧ 0 ≤ symOf its' c ∧ symOf its' c ≤ 26 := by
  have hS := readGo_shape s.data.toList 12 0 [] (fun x hx => by simp at hx)
  rw [hg] at hS
  rw [symOf_perm hp ht]
  exact letter_law c lns hS
end Go.Proofs.YtbppbejigedioabGreatDoor
