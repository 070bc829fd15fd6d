/- The program's stream: full runes, the last settled character. -/
import Derived.Test.YtbppbejigedioabGreatDoorStMem
namespace Go.Proofs.YtbppbejigedioabGreatDoor
open Go.RowKit Go.Maps

set_option maxRecDepth 100000 in
set_option maxHeartbeats 2000000 in
theorem full_slow (u : ByteArray) (x sz k lo hi : Nat) (w : World) (h0 : 0 < u.size) (hx : Go.Lib.firstT (Cu.byt u.data.toList 0) = x) (hsz : x % 8 = sz) (hk : x / 16 = k) (hlo : Go.Lib.accLo k = lo) (hhi : Go.Lib.accHi k = hi) (hand : bits .and .u8 (x : Int) 7 = (sz : Int)) (hk16 : k < 5) (hlt : u.size < sz) (hs4 : sz ≤ 4) (hT : Tabs w) :
    Calls Tryz.prog 55 #[.string u] w fun e w' => e = .returned (.bool (Cu.fullGo x u.data.toList)) ∧ Below w.heap.size w w' := by
  have hfull : Cu.fullGo x u.data.toList = ((decide (1 < u.size) && (decide (Cu.byt u.data.toList 1 < lo) || decide (hi < Cu.byt u.data.toList 1))) || (decide (2 < u.size) && (decide (Cu.byt u.data.toList 2 < 128) || decide (191 < Cu.byt u.data.toList 2)))) := by
    unfold Cu.fullGo
    rw [hsz, hk, hlo, hhi, len_toList, decide_eq_false (show ¬ sz ≤ u.size by omega), Bool.false_or]
  have hb0 := byt_lt u.data.toList 0
  have hbe0 := byt_eq u 0 h0
  have c0 := hT.1 _ hb0
  rw [hx] at c0
  obtain ⟨c1, c2⟩ := hT.2 k (by omega)
  rw [hlo, Nat.mul_comm] at c1
  rw [hhi, Nat.mul_comm] at c2
  have hshr : (x : Int) / 16 = (k : Int) := by omega
  have dn : ((u.size : Int) == 0) = false := by rw [beq_eq_false_iff_ne]; omega
  have hge : ¬ (sz : Int) ≤ (u.size : Int) := by omega
  have HF := hide hfull
  have HB := hide ((Below.refl w.heap.size w).alloc (Nat.le_refl _) (.cells #[.int .u8 lo, .int .u8 hi] 211))
  have hk16I : (k : Int) < 16 := by omega
  clear hfull hx hsz hk hT
  by_cases h1 : 1 < u.size
  · have hb1 := byt_lt u.data.toList 1
    have hbe1 := byt_eq u 1 h1
    have h1I : (1 : Int) < (u.size : Int) := by omega
    have h1D : decide (1 < u.size) = true := decide_eq_true h1
    by_cases hl1 : Cu.byt u.data.toList 1 < lo
    · have hl1D : decide (Cu.byt u.data.toList 1 < lo) = true := decide_eq_true hl1
      have hl1I : ((Cu.byt u.data.toList 1 : Nat) : Int) < (lo : Int) := by omega
      have hfin : Hid (Cu.fullGo x u.data.toList = true) := hide (by rw [unhide HF]; simp [h1, hl1])
      go_enter Tryz.func55, Tryz.ntmps55
      go_wp2
      go_quiet (fail)
      go_wp2
      go_ret
      exact ⟨ret_bool (unhide hfin).symm, below_drawn (unhide HB) _⟩
    · have hl1D : decide (Cu.byt u.data.toList 1 < lo) = false := decide_eq_false hl1
      have hl1I : ¬ ((Cu.byt u.data.toList 1 : Nat) : Int) < (lo : Int) := by omega
      by_cases hh1 : hi < Cu.byt u.data.toList 1
      · have hh1D : decide (hi < Cu.byt u.data.toList 1) = true := decide_eq_true hh1
        have hh1I : (hi : Int) < ((Cu.byt u.data.toList 1 : Nat) : Int) := by omega
        have hfin : Hid (Cu.fullGo x u.data.toList = true) := hide (by rw [unhide HF]; simp [h1, hh1])
        go_enter Tryz.func55, Tryz.ntmps55
        go_wp2
        go_quiet (fail)
        go_wp2
        go_ret
        exact ⟨ret_bool (unhide hfin).symm, below_drawn (unhide HB) _⟩
      · have hh1D : decide (hi < Cu.byt u.data.toList 1) = false := decide_eq_false hh1
        have hh1I : ¬ (hi : Int) < ((Cu.byt u.data.toList 1 : Nat) : Int) := by omega
        by_cases h2 : 2 < u.size
        · have hb2 := byt_lt u.data.toList 2
          have hbe2 := byt_eq u 2 h2
          have h2I : (2 : Int) < (u.size : Int) := by omega
          have h2D : decide (2 < u.size) = true := decide_eq_true h2
          by_cases hl2 : Cu.byt u.data.toList 2 < 128
          · have hl2D : decide (Cu.byt u.data.toList 2 < 128) = true := decide_eq_true hl2
            have hl2I : ((Cu.byt u.data.toList 2 : Nat) : Int) < 128 := by omega
            have hfin : Hid (Cu.fullGo x u.data.toList = true) := hide (by rw [unhide HF]; simp [h2, hl2])
            go_enter Tryz.func55, Tryz.ntmps55
            go_wp2
            go_quiet (fail)
            go_wp2
            go_ret
            exact ⟨ret_bool (unhide hfin).symm, below_drawn (unhide HB) _⟩
          · have hl2D : decide (Cu.byt u.data.toList 2 < 128) = false := decide_eq_false hl2
            have hl2I : ¬ ((Cu.byt u.data.toList 2 : Nat) : Int) < 128 := by omega
            by_cases hh2 : 191 < Cu.byt u.data.toList 2
            · have hh2D : decide (191 < Cu.byt u.data.toList 2) = true := decide_eq_true hh2
              have hh2I : (191 : Int) < ((Cu.byt u.data.toList 2 : Nat) : Int) := by omega
              have hfin : Hid (Cu.fullGo x u.data.toList = true) := hide (by rw [unhide HF]; simp [h2, hh2])
              go_enter Tryz.func55, Tryz.ntmps55
              go_wp2
              go_quiet (fail)
              go_wp2
              go_ret
              exact ⟨ret_bool (unhide hfin).symm, below_drawn (unhide HB) _⟩
            · have hh2D : decide (191 < Cu.byt u.data.toList 2) = false := decide_eq_false hh2
              have hh2I : ¬ (191 : Int) < ((Cu.byt u.data.toList 2 : Nat) : Int) := by omega
              have hfin : Hid (Cu.fullGo x u.data.toList = false) := hide (by rw [unhide HF]; simp [hl1, hh1, hl2, hh2])
              go_enter Tryz.func55, Tryz.ntmps55
              go_wp2
              go_quiet (fail)
              go_wp2
              go_ret
              exact ⟨ret_bool (unhide hfin).symm, below_drawn (unhide HB) _⟩
        · have h2D : decide (2 < u.size) = false := decide_eq_false h2
          have h2I : ¬ (2 : Int) < (u.size : Int) := by omega
          have hfin : Hid (Cu.fullGo x u.data.toList = false) := hide (by rw [unhide HF]; simp [hl1, hh1, h2])
          go_enter Tryz.func55, Tryz.ntmps55
          go_wp2
          go_quiet (fail)
          go_wp2
          go_ret
          exact ⟨ret_bool (unhide hfin).symm, below_drawn (unhide HB) _⟩
  · have h1D : decide (1 < u.size) = false := decide_eq_false h1
    have h1I : ¬ (1 : Int) < (u.size : Int) := by omega
    have h2I : ¬ (2 : Int) < (u.size : Int) := by omega
    have h1J : decide ((1 : Int) < (u.size : Int)) = false := decide_eq_false h1I
    have hu1 : u.size = 1 := by omega
    have hfin : Hid (Cu.fullGo x u.data.toList = false) := hide (by rw [unhide HF]; simp [h1]; intro h; omega)
    go_enter Tryz.func55, Tryz.ntmps55
    go_wp2
    go_quiet (fail)
    go_wp2
    go_ret
    exact ⟨ret_bool (unhide hfin).symm, below_drawn (unhide HB) _⟩

set_option maxRecDepth 100000 in
set_option maxHeartbeats 1000000 in
theorem full_fast (u : ByteArray) (x sz : Nat) (w : World) (h0 : 0 < u.size) (hx : Go.Lib.firstT (Cu.byt u.data.toList 0) = x) (hsz : x % 8 = sz) (hand : bits .and .u8 (x : Int) 7 = (sz : Int)) (hlt : sz ≤ u.size) (hs4 : sz ≤ 4) (hT : Tabs w) :
    Calls Tryz.prog 55 #[.string u] w fun e w' => e = .returned (.bool (Cu.fullGo x u.data.toList)) ∧ Below w.heap.size w w' := by
  have hfin : Hid (Cu.fullGo x u.data.toList = true) := hide (by
    unfold Cu.fullGo
    rw [hsz, len_toList, decide_eq_true hlt]
    rfl)
  have hb0 := byt_lt u.data.toList 0
  have hbe0 := byt_eq u 0 h0
  have c0 := hT.1 _ hb0
  rw [hx] at c0
  have dn : ((u.size : Int) == 0) = false := by rw [beq_eq_false_iff_ne]; omega
  have hge : (sz : Int) ≤ (u.size : Int) := by omega
  clear hx hsz hT
  go_enter Tryz.func55, Tryz.ntmps55
  go_wp2
  go_ret
  exact ⟨ret_bool (unhide hfin).symm, Below.refl _ _⟩

set_option maxRecDepth 100000 in
set_option maxHeartbeats 1000000 in
theorem full_none (u : ByteArray) (w : World) (h0 : u.size = 0) :
    Calls Tryz.prog 55 #[.string u] w fun e w' => e = .returned (.bool false) ∧ Below w.heap.size w w' := by
  have dn : ((u.size : Int) == 0) = true := by rw [h0]; rfl
  go_enter Tryz.func55, Tryz.ntmps55
  go_wp2
  go_ret
  exact ⟨rfl, Below.refl _ _⟩

theorem full_walk (u : ByteArray) (w : World) (h0 : 0 < u.size) (hT : Tabs w) :
    Calls Tryz.prog 55 #[.string u] w fun e w' => e = .returned (.bool (Cu.fullGo (Go.Lib.firstT (Cu.byt u.data.toList 0)) u.data.toList)) ∧ Below w.heap.size w w' := by
  have hcase : ∀ x sz k lo hi : Nat, Go.Lib.firstT (Cu.byt u.data.toList 0) = x → x % 8 = sz → x / 16 = k → Go.Lib.accLo k = lo → Go.Lib.accHi k = hi → bits .and .u8 (x : Int) 7 = (sz : Int) → (u.size < sz → k < 5) → sz ≤ 4 →
      Calls Tryz.prog 55 #[.string u] w fun e w' => e = .returned (.bool (Cu.fullGo (Go.Lib.firstT (Cu.byt u.data.toList 0)) u.data.toList)) ∧ Below w.heap.size w w' := by
    intro x sz k lo hi hx h1 h2 h3 h4 h5 h6 h7
    by_cases hlt : u.size < sz
    · have h := full_slow u x sz k lo hi w h0 hx h1 h2 h3 h4 h5 (h6 hlt) hlt h7 hT
      rw [← hx] at h
      exact h
    · have h := full_fast u x sz w h0 hx h1 h5 (by omega) h7 hT
      rw [← hx] at h
      exact h
  rcases Go.Lib.firstT_cases (Cu.byt u.data.toList 0) with h | h | h | h | h | h | h | h | h
  · exact hcase 240 0 15 0 0 h rfl rfl rfl rfl (by decide) (by omega) (by omega)
  · exact hcase 241 1 15 0 0 h rfl rfl rfl rfl (by decide) (by omega) (by omega)
  · exact hcase 2 2 0 128 191 h rfl rfl rfl rfl (by decide) (by omega) (by omega)
  · exact hcase 19 3 1 160 191 h rfl rfl rfl rfl (by decide) (by omega) (by omega)
  · exact hcase 3 3 0 128 191 h rfl rfl rfl rfl (by decide) (by omega) (by omega)
  · exact hcase 35 3 2 128 159 h rfl rfl rfl rfl (by decide) (by omega) (by omega)
  · exact hcase 52 4 3 144 191 h rfl rfl rfl rfl (by decide) (by omega) (by omega)
  · exact hcase 4 4 0 128 191 h rfl rfl rfl rfl (by decide) (by omega) (by omega)
  · exact hcase 68 4 4 128 143 h rfl rfl rfl rfl (by decide) (by omega) (by omega)
theorem full_any (u : ByteArray) (w : World) (hT : Tabs w) :
    Calls Tryz.prog 55 #[.string u] w fun e w' => e = .returned (.bool (Cu.fullT u.data.toList)) ∧ Below w.heap.size w w' := by
  by_cases h0 : u.size = 0
  · have e : Cu.fullT u.data.toList = false := by
      unfold Cu.fullT
      rw [len_toList, h0]
      rfl
    rw [e]
    exact full_none u w h0
  · rw [Cu.full_go (by rw [len_toList]; omega)]
    exact full_walk u w (by omega) hT
theorem ext_toList (s : ByteArray) (i : Nat) : (s.extract i s.size).data.toList = s.data.toList.drop i := by
  rw [ByteArray.data_extract, Array.toList_extract, List.extract_eq_take_drop]
  exact List.take_of_length_le (by rw [List.length_drop, len_toList]; omega)
theorem full_at (s : ByteArray) (i : Nat) (hi : i ≤ s.size) (w : World) (hT : Tabs w) :
    Calls Tryz.prog 55 #[.string (s.extract i s.size)] w fun e w' => e = .returned (.bool (decide (i < s.data.toList.length) && !Cu.halfway s.data.toList i)) ∧ Below w.heap.size w w' := by
  have h := full_any (s.extract i s.size) w hT
  rw [ext_toList, Cu.full_drop _ _ (by rw [len_toList]; exact hi)] at h
  exact h
theorem dec_width {s : ByteArray} {i : Nat} (hi : i < s.size) : (Lib.decodeGo (s.extract i s.size)).2 = Cu.chN s.data.toList i := by
  unfold Cu.chN
  cases hb : Cu.bad s.data.toList i with
  | true => rw [dec_bad hi hb]; rfl
  | false => rw [(dec_good hi hb).1]; rfl
/-- The rounds of lastSettled. -/
def LastRel (s : ByteArray) (w : World) (v x : Value) (wr : World) : Prop :=
  ∃ (i f : Nat) (l : List Cu.Chr), v = .int .i64 (Cu.lastOf l) ∧ x = .int .i64 i ∧ i ≤ s.size ∧ s.size ≤ i + f ∧ Cu.sChars s.data.toList = l ++ Cu.stChars s.data.toList f i ∧ Below w.heap.size w wr

set_option maxRecDepth 100000 in
set_option maxHeartbeats 1000000 in
theorem lastSettled_any (s : ByteArray) (w : World) (hs : s.size ≤ 1048576) (hT : Tabs w) :
    Calls Tryz.prog 32 #[.string s] w fun e w' => e = .returned (.int .i64 (Cu.lastP s.data.toList)) ∧ Below w.heap.size w w' := by
  have HTB : Hid (∀ wr, Below w.heap.size w wr → Tabs wr) := hide (fun wr hb => tabs_below hT hb)
  clear hT
  go_enter Tryz.func32, Tryz.ntmps32
  go_wp2
  go_loopw [3, 4] (fun v x wr => LastRel s w v x wr) (fun _ x _ => s.size + 1 - (intOf x).toNat)
  case atStart =>
    go_light
    exact ⟨0, s.size, [], rfl, rfl, Nat.zero_le _, by omega, by unfold Cu.sChars; rw [len_toList]; rfl, Below.refl _ _⟩
  case round =>
    obtain ⟨i, f, l, rfl, rfl, hi, hf, hsc, hb⟩ := hrel
    have HFU := hide (full_at s i hi wr (unhide HTB wr hb))
    have HSC := hide hsc
    have HB := hide hb
    clear hsc hb
    have hiI : (i : Int) ≤ (s.size : Int) := by omega
    cases hc : (decide (i < s.data.toList.length) && !Cu.halfway s.data.toList i) with
    | true =>
      have hlt : i < s.size := by
        simp only [Bool.and_eq_true, decide_eq_true_eq, len_toList] at hc
        exact hc.1
      obtain ⟨g, rfl⟩ : ∃ g, f = g + 1 := ⟨f - 1, by omega⟩
      have hn := Cu.chN_pos s.data.toList i
      rw [len_toList] at hn
      have hst := Cu.stChars_next (f := g) hc
      have hwd := dec_width hlt
      have hrel2 : Hid (∀ wr', Below w.heap.size w wr' → LastRel s w (.int .i64 i) (.int .i64 ((i : Int) + (Cu.chN s.data.toList i : Nat))) wr') := hide (fun wr' hb' => ⟨i + Cu.chN s.data.toList i, g, l ++ [(i, Cu.chN s.data.toList i, Cu.chCode s.data.toList i)], by rw [Cu.lastOf_snoc], by go_num, hn.2.2 hlt, by omega, by rw [unhide HSC, hst]; simp, hb'⟩)
      have hn1 := hn.1
      have hn2 := hn.2.1
      rw [hc] at HFU
      clear hst hc hn
      go_wp2_with fail
      refine (unhide HFU).mono ?_
      rintro e w1 ⟨rfl, hb1⟩
      have HB1 := hide (below_two hb1 (unhide HB))
      clear hb1
      go_wp2_with fail
      refine (Tryz.utf8_DecodeRuneInString _ _ (unhide HTB _ (unhide HB1))).mono ?_
      rintro e w2 ⟨rfl, hb2⟩
      rw [hwd]
      generalize Cu.chN s.data.toList i = wd at *
      have HB2 := hide (below_two hb2 (unhide HB1))
      clear hb2 hwd
      go_wp2
      go_roundw
      case rel => first | exact unhide hrel2 _ (unhide HB2) | ((repeat apply Exists.intro); exact ⟨unhide hrel2 _ (unhide HB2), rfl⟩)
      case measure => simp [intOf]; omega
    | false =>
      have hfin : Hid (Cu.lastP s.data.toList = Cu.lastOf l) := hide (by rw [Cu.lastP_of, unhide HSC, Cu.stChars_stop hc, List.append_nil])
      rw [hc] at HFU
      clear hc
      go_wp2_with fail
      refine (unhide HFU).mono ?_
      rintro e w1 ⟨rfl, hb1⟩
      have HB1 := hide (below_two hb1 (unhide HB))
      clear hb1
      go_wp2
      go_ret
      exact ⟨by rw [unhide hfin]; rfl, unhide HB1⟩
end Go.Proofs.YtbppbejigedioabGreatDoor
