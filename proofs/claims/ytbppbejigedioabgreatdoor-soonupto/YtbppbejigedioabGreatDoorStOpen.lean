/- The program's stream in memory. -/
import Derived.Test.YtbppbejigedioabGreatDoorStAsk
import Derived.Test.YtbppbejigedioabGreatDoorPlainS
import Derived.Test.YtbppbejigedioabGreatDoorMacN
namespace Go.Proofs.YtbppbejigedioabGreatDoor
open Go.RowKit Go.Maps

/-- What a call of the stream at X changes of what is old: the stream's block, its machine's, its map, its states' row; that row stays, or it is a new one. -/
structure Keeps (X M mb : Nat) (w w' : World) : Prop where
  os : w'.os = w.os
  tape : w'.tape = w.tape
  output : w'.output = w.output
  size : w.heap.size ≤ w'.heap.size
  block : ∀ k, k < w.heap.size → k ≠ X → k ≠ M → k ≠ mb → rowOf w M ≠ some k → w'.heap[k]? = w.heap[k]?
  row : ∀ k, rowOf w' M = some k → rowOf w M = some k ∨ w.heap.size ≤ k
  cells : ∀ j, j < 31 → w'.cell? ⟨M, j, none⟩ = w.cell? ⟨M, j, none⟩
theorem Keeps.frm {X M mb : Nat} {w w' : World} (h : FrmR M mb w w') : Keeps X M mb w w' := ⟨h.1.os, h.1.tape, h.1.output, h.1.size, fun k hk _ h1 h2 h3 => h.2.2.1 k hk h1 h2 h3, h.2.2.2.1, h.2.2.2.2⟩
theorem Keeps.of {X M mb : Nat} {w w' : World} (h : Below w.heap.size w w') (hM : M < w.heap.size) : Keeps X M mb w w' := ⟨h.os, h.tape, h.output, h.size, fun k hk _ _ _ _ => h.block k hk, (Turns.of (mb := mb) h hM).2.1, (Turns.of (mb := mb) h hM).2.2⟩
theorem Keeps.trans {X M mb : Nat} {a b c : World} (h : Keeps X M mb a b) (k : Keeps X M mb b c) : Keeps X M mb a c := by
  refine ⟨k.os.trans h.os, k.tape.trans h.tape, k.output.trans h.output, Nat.le_trans h.size k.size, fun i hi h0 h1 h2 h3 => ?_, fun i hi => ?_, fun j hj => (k.cells j hj).trans (h.cells j hj)⟩
  · have hs := h.size
    rw [k.block i (by omega) h0 h1 h2 (fun e => ?_)]
    · exact h.block i hi h0 h1 h2 h3
    · rcases h.row i e with h4 | h4
      · exact h3 h4
      · omega
  · rcases k.row i hi with h4 | h4
    · exact h.row i h4
    · exact Or.inr (Nat.le_trans h.size h4)
theorem Keeps.set {X M mb j : Nat} {w : World} {u : Value} (hne : M ≠ X) : Keeps X M mb w (w.setCell ⟨X, j, none⟩ u) := by
  refine ⟨rfl, rfl, rfl, by simp [World.setCell], fun k _ h0 _ _ _ => Below.heap_setCell _ _ _ _ h0, fun k hk => Or.inl ?_, fun i _ => World.cell?_of_block (a := ⟨M, i, none⟩) (Below.heap_setCell _ _ _ _ hne)⟩
  rw [← rowOf_same (w' := w.setCell ⟨X, j, none⟩ u) (Below.heap_setCell _ _ _ _ hne)]
  exact hk
/-- An int row of the call's own grows. -/
theorem Keeps.grown {X M mb n c : Nat} {w W w3 : World} {a : Option Addr} {xs : List Value} (h : Keeps X M mb w W) (ho : W.ownsRow w.heap.size 3 1 (.slice a n c) n xs) (hg : W.grownBy w3 (Value.slice a n c).ownBlock) (hM : M < w.heap.size) : Keeps X M mb w w3 := by
  have hs := h.size
  have hlow : ∀ k, k < w.heap.size → some k ≠ (Value.slice a n c).ownBlock := fun k hk e => by have := (ho.lt k e.symm).1; omega
  refine ⟨hg.os.trans h.os, hg.tape.trans h.tape, hg.output.trans h.output, Nat.le_trans hs hg.size, fun k hk h0 h1 h2 h3 => ?_, fun k hk => ?_, fun j hj => (World.cell?_of_block (a := ⟨M, j, none⟩) (hg.block M (by omega) (hlow M hM))).trans (h.cells j hj)⟩
  · rw [hg.block k (by omega) (hlow k hk)]
    exact h.block k hk h0 h1 h2 h3
  · rw [rowOf_same (hg.block M (by omega) (hlow M hM))] at hk
    exact h.row k hk

/-- Two blocks of other types are two blocks. -/
theorem Blk.ne {w : World} {a b : Nat} {xs ys : List Value} {s t : TypeId} (h : Blk w a xs s) (k : Blk w b ys t) (hne : s ≠ t) : a ≠ b := by
  intro e
  subst e
  unfold Blk at h k
  rw [h] at k
  simp at k
  exact hne k.2
theorem map_ne {w : World} {mb b : Nat} {xs : List Value} {t : TypeId} {es : Array MapEntry} {c : Nat} (hm : w.heap[mb]? = some (.map es c)) (h : Blk w b xs t) : mb ≠ b := by
  intro e
  subst e
  unfold Blk at h
  rw [hm] at h
  simp at h
theorem run_set {w : World} {X M mb j : Nat} {p : Nat × Ms × List Sd} {sts : List St} {xs : List Value} {u : Value} (h : RunAt w M mb p sts) (hX : Blk w X xs 75) : RunAt (w.setCell ⟨X, j, none⟩ u) M mb p sts := by
  obtain ⟨as_, at_, cs, ct, D, ⟨ab, cb, m1, m2⟩, hoS, hoT, hown, hmap, hmb⟩ := h
  have hne : mb ≠ X := by
    obtain ⟨es, c, hes, _⟩ := hown
    exact map_ne hes hX
  exact ⟨as_, at_, cs, ct, D, ⟨ab, cb, m1.setOther _ _ (hX.ne m1 (by decide)), own_set_ne m2 _ _ (hX.ne_row m2 (by decide))⟩, own_set_ne hoS _ _ (hX.ne_row hoS (by decide)), own_set_ne hoT _ _ (hX.ne_row hoT (by decide)), hown.setCell hne _, hmap, hmb⟩
theorem book_set {w : World} {X B j : Nat} {nm : Nat → Bool} {its : List KItem} {rs : List PLn} {xs : List Value} {u : Value} (h : BookAt w B nm its rs) (hX : Blk w X xs 75) : BookAt (w.setCell ⟨X, j, none⟩ u) B nm its rs := by
  obtain ⟨ai, ar, ci, cr, h1, h2, h3⟩ := h
  exact ⟨ai, ar, ci, cr, h1.setOther _ _ (hX.ne h1 (by decide)), own_set_ne h2 _ _ (hX.ne_row h2 (by decide)), own_set_ne h3 _ _ (hX.ne_row h3 (by decide))⟩
theorem book_frm {w w' : World} {M mb B : Nat} {nm : Nat → Bool} {its : List KItem} {rs : List PLn} (h : BookAt w B nm its rs) (hf : FrmR M mb w w') : BookAt w' B nm its rs := by
  obtain ⟨ai, ar, ci, cr, h1, h2, h3⟩ := h
  exact ⟨ai, ar, ci, cr, hf.blk h1 (by decide) (by decide), hf.own h2 (by decide) (by decide), hf.own h3 (by decide) (by decide)⟩
theorem run_grown {p : Nat × Ms × List Sd} {sts : List St} {M mb b n c : Nat} {W w3 : World} {a : Option Addr} {xs : List Value} (h : RunAt W M mb p sts) (ho : W.ownsRow b 3 1 (.slice a n c) n xs) (hg : W.grownBy w3 (Value.slice a n c).ownBlock) : RunAt w3 M mb p sts := by
  obtain ⟨as_, at_, cs, ct, D, hMac, hoS, hoT, hown, hmap, hmbM⟩ := h
  have hne : some mb ≠ (Value.slice a n c).ownBlock := by
    obtain ⟨es, q, hes, _⟩ := hown
    exact map_ne_row hes ho
  exact ⟨as_, at_, cs, ct, D, hMac.grown ho hg (by decide) (by decide), own_grown' hoS ho hg (by decide), own_grown' hoT ho hg (by decide), hown.kept hg hne, hmap, hmbM⟩
theorem book_grown {B b n c : Nat} {nm : Nat → Bool} {its : List KItem} {rs : List PLn} {W w3 : World} {a : Option Addr} {xs : List Value} (h : BookAt W B nm its rs) (ho : W.ownsRow b 3 1 (.slice a n c) n xs) (hg : W.grownBy w3 (Value.slice a n c).ownBlock) : BookAt w3 B nm its rs := by
  obtain ⟨ai, ar, ci, cr, h1, h2, h3⟩ := h
  exact ⟨ai, ar, ci, cr, h1.grown hg (h1.ne_row ho (by decide)), own_grown' h2 ho hg (by decide), own_grown' h3 ho hg (by decide)⟩

/-- The slices that a block holds lie in F. -/
def SlIn (F : Nat → Prop) (w : World) (b : Nat) : Prop := ∀ (j k : Nat) (v : Value), w.cell? ⟨b, j, none⟩ = some v → v.ownBlock = some k → F k
theorem run_same {w w' : World} {M mb : Nat} {p : Nat × Ms × List Sd} {sts : List St} {F : Nat → Prop} (h : RunAt w M mb p sts) (hM : F M) (hmb : F mb) (hsl : SlIn F w M) (hF : ∀ k, F k → w'.heap[k]? = w.heap[k]?) : RunAt w' M mb p sts := by
  obtain ⟨as_, at_, cs, ct, D, ⟨ab, cb, m1, m2⟩, hoS, hoT, hown, hmap, hlt⟩ := h
  have hB : Blk w' M (macCells p.1 (.slice ab p.2.1.1.length cb) p.2.1.2 (.slice as_ p.2.2.length cs) (.map (some mb)) (.slice at_ sts.length ct)) 121 := by
    unfold Blk at m1 ⊢
    rw [hF M hM]
    exact m1
  refine ⟨as_, at_, cs, ct, D, ⟨ab, cb, hB, own_same m2 (fun k hk => hF k (hsl 1 k _ (m1.cell 1) hk))⟩, own_same hoS (fun k hk => hF k (hsl 29 k _ (m1.cell 29) hk)), own_same hoT (fun k hk => hF k (hsl 31 k _ (m1.cell 31) hk)), ?_, hmap, hlt⟩
  obtain ⟨es, c, hes, r⟩ := hown
  exact ⟨es, c, by rw [hF mb hmb]; exact hes, r⟩
theorem book_same {w w' : World} {B : Nat} {nm : Nat → Bool} {its : List KItem} {rs : List PLn} {F : Nat → Prop} (h : BookAt w B nm its rs) (hB : F B) (hsl : SlIn F w B) (hF : ∀ k, F k → w'.heap[k]? = w.heap[k]?) : BookAt w' B nm its rs := by
  obtain ⟨ai, ar, ci, cr, h1, h2, h3⟩ := h
  have hb1 : Blk w' B (bookCells nm (.slice ai its.length ci) (.slice ar rs.length cr) (rtOf rs)) 73 := by
    unfold Blk at h1 ⊢
    rw [hF B hB]
    exact h1
  exact ⟨ai, ar, ci, cr, hb1, own_same h2 (fun k hk => hF k (hsl 26 k _ (h1.cell 26) hk)), own_same h3 (fun k hk => hF k (hsl 27 k _ (h1.cell 27) hk))⟩
theorem SlIn.same {F : Nat → Prop} {w w' : World} {b : Nat} (h : SlIn F w b) (hb : w'.heap[b]? = w.heap[b]?) : SlIn F w' b := fun j k v hc hv => h j k v (by rw [← World.cell?_of_block (a := ⟨b, j, none⟩) hb]; exact hc) hv

/-- What is known of a file that is well, and of its book. -/
structure BookOk (l : List Cu.Ln) (its : List KItem) (rs : List PLn) : Prop where
  rules : RulesOk l rs
  letr : ∀ c, letter (symOf its c) = Cu.classOf l c ∧ 0 ≤ symOf its c ∧ symOf its c ≤ 26
  sep : Sep its
  len : its.length ≤ 2400
  two : ∀ x ∈ l, x.right.length ≤ 2
/-- The stream's own block. -/
abbrev strCells (B M j a : Nat) (r : ByteArray) : List Value := [.pointer (some ⟨B, 0, none⟩), .pointer (some ⟨M, 0, none⟩), .int .i64 j, .int .i64 a, .string r]
/-- The stream at X, to which T has come; N: how many bytes and Ends came to it, all in all. -/
structure PSat (N : Nat) (w : World) (base X : Nat) (l : List Cu.Ln) (T : ByteArray) (F : Nat → Prop) (B M mb j K : Nat) (nm : Nat → Bool) (its : List KItem) (rs : List PLn) (sts : List St) (s : St) : Prop where
  blk : Blk w X (strCells B M j (Cu.lastP T.data.toList) (T.extract (Cu.lastP T.data.toList) T.size)) 75
  book : BookAt w B nm its rs
  ok : BookOk l its rs
  run : RunAt w M mb (newP rs) sts
  good : Good (newP rs) sts
  len : sts.length ≤ K + Cu.doneN T.data.toList
  room : K + T.size ≤ N + 2
  j1 : 1 ≤ j
  js : sts[j]? = some s
  met : s.1 = runM rs (symsOf its ((Cu.sChars T.data.toList).take (Cu.doneN T.data.toList)))
  hX : F X
  hB : F B
  hM : F M
  hmb : F mb
  slB : SlIn F w B
  slM : SlIn F w M
  foot : ∀ k, F k → base ≤ k ∧ k < w.heap.size
def PS (N : Nat) : PSt := fun w base X l T F => ∃ (B M mb j K : Nat) (nm : Nat → Bool) (its : List KItem) (rs : List PLn) (sts : List St) (s : St), PSat N w base X l T F B M mb j K nm its rs sts s
theorem ps_firm (N : Nat) : Firm (PS N) := by
  refine ⟨?_, ?_, ?_⟩
  · rintro w base X l T F ⟨B, M, mb, j, K, nm, its, rs, sts, s, h⟩
    exact h.foot
  · rintro w w' base X l T F ⟨B, M, mb, j, K, nm, its, rs, sts, s, h⟩ hF
    have hlt : ∀ k, F k → k < w'.heap.size := fun k hk => by
      have h1 := hF k hk
      have h2 := (h.foot k hk).2
      rw [Array.getElem?_eq_getElem h2] at h1
      exact (Array.getElem?_eq_some_iff.1 h1).1
    have hb := h.blk
    exact ⟨B, M, mb, j, K, nm, its, rs, sts, s, ⟨by unfold Blk at hb ⊢; rw [hF X h.hX]; exact hb, book_same h.book h.hB h.slB hF, h.ok, run_same h.run h.hM h.hmb h.slM hF, h.good, h.len, h.room, h.j1, h.js, h.met, h.hX, h.hB, h.hM, h.hmb, h.slB.same (hF B h.hB), h.slM.same (hF M h.hM), fun k hk => ⟨(h.foot k hk).1, hlt k hk⟩⟩⟩
  · rintro w base X l T F ⟨B, M, mb, j, K, nm, its, rs, sts, s, h⟩
    exact h.ok.two
/-- Behind a call: the foot grows by the states' row alone. -/
theorem row_in {w : World} {M mb : Nat} {p : Nat × Ms × List Sd} {sts : List St} (h : RunAt w M mb p sts) {F : Nat → Prop} (hr : ∀ k, rowOf w M = some k → F k) (hold : ∀ (j k : Nat) (v : Value), j < 31 → w.cell? ⟨M, j, none⟩ = some v → v.ownBlock = some k → F k) : SlIn F w M := by
  obtain ⟨as_, at_, cs, ct, D, ⟨ab, cb, m1, m2⟩, _⟩ := h
  intro j k v hc hv
  by_cases h31 : j < 31
  · exact hold j k v h31 hc hv
  · have hj : j = 31 := by
      rw [m1.cell] at hc
      have := (List.getElem?_eq_some_iff.1 hc).1
      unfold macCells at this
      simp at this
      omega
    subst hj
    refine hr k ?_
    unfold rowOf
    rw [hc]
    exact hv
end Go.Proofs.YtbppbejigedioabGreatDoor
/- The program's stream: full runes, the last settled character. -/
namespace Go.Proofs.YtbppbejigedioabGreatDoor
open Go.RowKit Go.Maps

set_option maxRecDepth 100000 in
set_option maxHeartbeats 2000000 in
theorem full_slow (u : ByteArray) (x sz k lo hi : Nat) (w : World) (h0 : 0 < u.size) (hx : Go.Lib.firstT (Cu.byt u.data.toList 0) = x) (hsz : x % 8 = sz) (hk : x / 16 = k) (hlo : Go.Lib.accLo k = lo) (hhi : Go.Lib.accHi k = hi) (hand : bits .and .u8 (x : Int) 7 = (sz : Int)) (hk16 : k < 5) (hlt : u.size < sz) (hs4 : sz ≤ 4) (hT : Tabs w) :
    Calls Tryz.prog 55 #[.string u] w fun e w' => e = .returned (.bool (Cu.fullGo x u.data.toList)) ∧ Below w.heap.size w w' := by
  have hfull : Cu.fullGo x u.data.toList = ((decide (1 < u.size) && (decide (Cu.byt u.data.toList 1 < lo) || decide (hi < Cu.byt u.data.toList 1))) || (decide (2 < u.size) && (decide (Cu.byt u.data.toList 2 < 128) || decide (191 < Cu.byt u.data.toList 2)))) := by
    unfold Cu.fullGo
    rw [hsz, hk, hlo, hhi, len_toList, decide_eq_false (show ¬ sz ≤ u.size by omega), Bool.false_or]
  have hb0 := byt_lt u.data.toList 0
  have hbe0 := byt_eq u 0 h0
  have c0 := hT.1 _ hb0
  rw [hx] at c0
  obtain ⟨c1, c2⟩ := hT.2 k (by omega)
  rw [hlo, Nat.mul_comm] at c1
  rw [hhi, Nat.mul_comm] at c2
  have hshr : (x : Int) / 16 = (k : Int) := by omega
  have dn : ((u.size : Int) == 0) = false := by rw [beq_eq_false_iff_ne]; omega
  have hge : ¬ (sz : Int) ≤ (u.size : Int) := by omega
  have HF := hide hfull
  have HB := hide ((Below.refl w.heap.size w).alloc (Nat.le_refl _) (.cells #[.int .u8 lo, .int .u8 hi] 211))
  have hk16I : (k : Int) < 16 := by omega
  clear hfull hx hsz hk hT
  by_cases h1 : 1 < u.size
  · have hb1 := byt_lt u.data.toList 1
    have hbe1 := byt_eq u 1 h1
    have h1I : (1 : Int) < (u.size : Int) := by omega
    have h1D : decide (1 < u.size) = true := decide_eq_true h1
    by_cases hl1 : Cu.byt u.data.toList 1 < lo
    · have hl1D : decide (Cu.byt u.data.toList 1 < lo) = true := decide_eq_true hl1
      have hl1I : ((Cu.byt u.data.toList 1 : Nat) : Int) < (lo : Int) := by omega
      have hfin : Hid (Cu.fullGo x u.data.toList = true) := hide (by rw [unhide HF]; simp [h1, hl1])
      go_enter Tryz.func55, Tryz.ntmps55
      go_wp2
      go_quiet (fail)
      go_wp2
      go_ret
      exact ⟨ret_bool (unhide hfin).symm, below_drawn (unhide HB) _⟩
    · have hl1D : decide (Cu.byt u.data.toList 1 < lo) = false := decide_eq_false hl1
      have hl1I : ¬ ((Cu.byt u.data.toList 1 : Nat) : Int) < (lo : Int) := by omega
      by_cases hh1 : hi < Cu.byt u.data.toList 1
      · have hh1D : decide (hi < Cu.byt u.data.toList 1) = true := decide_eq_true hh1
        have hh1I : (hi : Int) < ((Cu.byt u.data.toList 1 : Nat) : Int) := by omega
        have hfin : Hid (Cu.fullGo x u.data.toList = true) := hide (by rw [unhide HF]; simp [h1, hh1])
        go_enter Tryz.func55, Tryz.ntmps55
        go_wp2
        go_quiet (fail)
        go_wp2
        go_ret
        exact ⟨ret_bool (unhide hfin).symm, below_drawn (unhide HB) _⟩
      · have hh1D : decide (hi < Cu.byt u.data.toList 1) = false := decide_eq_false hh1
        have hh1I : ¬ (hi : Int) < ((Cu.byt u.data.toList 1 : Nat) : Int) := by omega
        by_cases h2 : 2 < u.size
        · have hb2 := byt_lt u.data.toList 2
          have hbe2 := byt_eq u 2 h2
          have h2I : (2 : Int) < (u.size : Int) := by omega
          have h2D : decide (2 < u.size) = true := decide_eq_true h2
          by_cases hl2 : Cu.byt u.data.toList 2 < 128
          · have hl2D : decide (Cu.byt u.data.toList 2 < 128) = true := decide_eq_true hl2
            have hl2I : ((Cu.byt u.data.toList 2 : Nat) : Int) < 128 := by omega
            have hfin : Hid (Cu.fullGo x u.data.toList = true) := hide (by rw [unhide HF]; simp [h2, hl2])
            go_enter Tryz.func55, Tryz.ntmps55
            go_wp2
            go_quiet (fail)
            go_wp2
            go_ret
            exact ⟨ret_bool (unhide hfin).symm, below_drawn (unhide HB) _⟩
          · have hl2D : decide (Cu.byt u.data.toList 2 < 128) = false := decide_eq_false hl2
            have hl2I : ¬ ((Cu.byt u.data.toList 2 : Nat) : Int) < 128 := by omega
            by_cases hh2 : 191 < Cu.byt u.data.toList 2
            · have hh2D : decide (191 < Cu.byt u.data.toList 2) = true := decide_eq_true hh2
              have hh2I : (191 : Int) < ((Cu.byt u.data.toList 2 : Nat) : Int) := by omega
              have hfin : Hid (Cu.fullGo x u.data.toList = true) := hide (by rw [unhide HF]; simp [h2, hh2])
              go_enter Tryz.func55, Tryz.ntmps55
              go_wp2
              go_quiet (fail)
              go_wp2
              go_ret
              exact ⟨ret_bool (unhide hfin).symm, below_drawn (unhide HB) _⟩
            · have hh2D : decide (191 < Cu.byt u.data.toList 2) = false := decide_eq_false hh2
              have hh2I : ¬ (191 : Int) < ((Cu.byt u.data.toList 2 : Nat) : Int) := by omega
              have hfin : Hid (Cu.fullGo x u.data.toList = false) := hide (by rw [unhide HF]; simp [hl1, hh1, hl2, hh2])
              go_enter Tryz.func55, Tryz.ntmps55
              go_wp2
              go_quiet (fail)
              go_wp2
              go_ret
              exact ⟨ret_bool (unhide hfin).symm, below_drawn (unhide HB) _⟩
        · have h2D : decide (2 < u.size) = false := decide_eq_false h2
          have h2I : ¬ (2 : Int) < (u.size : Int) := by omega
          have hfin : Hid (Cu.fullGo x u.data.toList = false) := hide (by rw [unhide HF]; simp [hl1, hh1, h2])
          go_enter Tryz.func55, Tryz.ntmps55
          go_wp2
          go_quiet (fail)
          go_wp2
          go_ret
          exact ⟨ret_bool (unhide hfin).symm, below_drawn (unhide HB) _⟩
  · have h1D : decide (1 < u.size) = false := decide_eq_false h1
    have h1I : ¬ (1 : Int) < (u.size : Int) := by omega
    have h2I : ¬ (2 : Int) < (u.size : Int) := by omega
    have h1J : decide ((1 : Int) < (u.size : Int)) = false := decide_eq_false h1I
    have hu1 : u.size = 1 := by omega
    have hfin : Hid (Cu.fullGo x u.data.toList = false) := hide (by rw [unhide HF]; simp [h1]; intro h; omega)
    go_enter Tryz.func55, Tryz.ntmps55
    go_wp2
    go_quiet (fail)
    go_wp2
    go_ret
    exact ⟨ret_bool (unhide hfin).symm, below_drawn (unhide HB) _⟩

set_option maxRecDepth 100000 in
set_option maxHeartbeats 1000000 in
theorem full_fast (u : ByteArray) (x sz : Nat) (w : World) (h0 : 0 < u.size) (hx : Go.Lib.firstT (Cu.byt u.data.toList 0) = x) (hsz : x % 8 = sz) (hand : bits .and .u8 (x : Int) 7 = (sz : Int)) (hlt : sz ≤ u.size) (hs4 : sz ≤ 4) (hT : Tabs w) :
    Calls Tryz.prog 55 #[.string u] w fun e w' => e = .returned (.bool (Cu.fullGo x u.data.toList)) ∧ Below w.heap.size w w' := by
  have hfin : Hid (Cu.fullGo x u.data.toList = true) := hide (by
    unfold Cu.fullGo
    rw [hsz, len_toList, decide_eq_true hlt]
    rfl)
  have hb0 := byt_lt u.data.toList 0
  have hbe0 := byt_eq u 0 h0
  have c0 := hT.1 _ hb0
  rw [hx] at c0
  have dn : ((u.size : Int) == 0) = false := by rw [beq_eq_false_iff_ne]; omega
  have hge : (sz : Int) ≤ (u.size : Int) := by omega
  clear hx hsz hT
  go_enter Tryz.func55, Tryz.ntmps55
  go_wp2
  go_ret
  exact ⟨ret_bool (unhide hfin).symm, Below.refl _ _⟩

set_option maxRecDepth 100000 in
set_option maxHeartbeats 1000000 in
theorem full_none (u : ByteArray) (w : World) (h0 : u.size = 0) :
    Calls Tryz.prog 55 #[.string u] w fun e w' => e = .returned (.bool false) ∧ Below w.heap.size w w' := by
  have dn : ((u.size : Int) == 0) = true := by rw [h0]; rfl
  go_enter Tryz.func55, Tryz.ntmps55
  go_wp2
  go_ret
  exact ⟨rfl, Below.refl _ _⟩

theorem full_walk (u : ByteArray) (w : World) (h0 : 0 < u.size) (hT : Tabs w) :
    Calls Tryz.prog 55 #[.string u] w fun e w' => e = .returned (.bool (Cu.fullGo (Go.Lib.firstT (Cu.byt u.data.toList 0)) u.data.toList)) ∧ Below w.heap.size w w' := by
  have hcase : ∀ x sz k lo hi : Nat, Go.Lib.firstT (Cu.byt u.data.toList 0) = x → x % 8 = sz → x / 16 = k → Go.Lib.accLo k = lo → Go.Lib.accHi k = hi → bits .and .u8 (x : Int) 7 = (sz : Int) → (u.size < sz → k < 5) → sz ≤ 4 →
      Calls Tryz.prog 55 #[.string u] w fun e w' => e = .returned (.bool (Cu.fullGo (Go.Lib.firstT (Cu.byt u.data.toList 0)) u.data.toList)) ∧ Below w.heap.size w w' := by
    intro x sz k lo hi hx h1 h2 h3 h4 h5 h6 h7
    by_cases hlt : u.size < sz
    · have h := full_slow u x sz k lo hi w h0 hx h1 h2 h3 h4 h5 (h6 hlt) hlt h7 hT
      rw [← hx] at h
      exact h
    · have h := full_fast u x sz w h0 hx h1 h5 (by omega) h7 hT
      rw [← hx] at h
      exact h
  rcases Go.Lib.firstT_cases (Cu.byt u.data.toList 0) with h | h | h | h | h | h | h | h | h
  · exact hcase 240 0 15 0 0 h rfl rfl rfl rfl (by decide) (by omega) (by omega)
  · exact hcase 241 1 15 0 0 h rfl rfl rfl rfl (by decide) (by omega) (by omega)
  · exact hcase 2 2 0 128 191 h rfl rfl rfl rfl (by decide) (by omega) (by omega)
  · exact hcase 19 3 1 160 191 h rfl rfl rfl rfl (by decide) (by omega) (by omega)
  · exact hcase 3 3 0 128 191 h rfl rfl rfl rfl (by decide) (by omega) (by omega)
  · exact hcase 35 3 2 128 159 h rfl rfl rfl rfl (by decide) (by omega) (by omega)
  · exact hcase 52 4 3 144 191 h rfl rfl rfl rfl (by decide) (by omega) (by omega)
  · exact hcase 4 4 0 128 191 h rfl rfl rfl rfl (by decide) (by omega) (by omega)
  · exact hcase 68 4 4 128 143 h rfl rfl rfl rfl (by decide) (by omega) (by omega)
theorem full_any (u : ByteArray) (w : World) (hT : Tabs w) :
    Calls Tryz.prog 55 #[.string u] w fun e w' => e = .returned (.bool (Cu.fullT u.data.toList)) ∧ Below w.heap.size w w' := by
  by_cases h0 : u.size = 0
  · have e : Cu.fullT u.data.toList = false := by
      unfold Cu.fullT
      rw [len_toList, h0]
      rfl
    rw [e]
    exact full_none u w h0
  · rw [Cu.full_go (by rw [len_toList]; omega)]
    exact full_walk u w (by omega) hT
theorem ext_toList (s : ByteArray) (i : Nat) : (s.extract i s.size).data.toList = s.data.toList.drop i := by
  rw [ByteArray.data_extract, Array.toList_extract, List.extract_eq_take_drop]
  exact List.take_of_length_le (by rw [List.length_drop, len_toList]; omega)
theorem full_at (s : ByteArray) (i : Nat) (hi : i ≤ s.size) (w : World) (hT : Tabs w) :
    Calls Tryz.prog 55 #[.string (s.extract i s.size)] w fun e w' => e = .returned (.bool (decide (i < s.data.toList.length) && !Cu.halfway s.data.toList i)) ∧ Below w.heap.size w w' := by
  have h := full_any (s.extract i s.size) w hT
  rw [ext_toList, Cu.full_drop _ _ (by rw [len_toList]; exact hi)] at h
  exact h
theorem dec_width {s : ByteArray} {i : Nat} (hi : i < s.size) : (Lib.decodeGo (s.extract i s.size)).2 = Cu.chN s.data.toList i := by
  unfold Cu.chN
  cases hb : Cu.bad s.data.toList i with
  | true => rw [dec_bad hi hb]; rfl
  | false => rw [(dec_good hi hb).1]; rfl
/-- The rounds of lastSettled. -/
def LastRel (s : ByteArray) (w : World) (v x : Value) (wr : World) : Prop :=
  ∃ (i f : Nat) (l : List Cu.Chr), v = .int .i64 (Cu.lastOf l) ∧ x = .int .i64 i ∧ i ≤ s.size ∧ s.size ≤ i + f ∧ Cu.sChars s.data.toList = l ++ Cu.stChars s.data.toList f i ∧ Below w.heap.size w wr

set_option maxRecDepth 100000 in
set_option maxHeartbeats 1000000 in
theorem lastSettled_any (s : ByteArray) (w : World) (hs : s.size ≤ 1048576) (hT : Tabs w) :
    Calls Tryz.prog 32 #[.string s] w fun e w' => e = .returned (.int .i64 (Cu.lastP s.data.toList)) ∧ Below w.heap.size w w' := by
  have HTB : Hid (∀ wr, Below w.heap.size w wr → Tabs wr) := hide (fun wr hb => tabs_below hT hb)
  clear hT
  go_enter Tryz.func32, Tryz.ntmps32
  go_wp2
  go_loopw [3, 4] (fun v x wr => LastRel s w v x wr) (fun _ x _ => s.size + 1 - (intOf x).toNat)
  case atStart =>
    go_light
    exact ⟨0, s.size, [], rfl, rfl, Nat.zero_le _, by omega, by unfold Cu.sChars; rw [len_toList]; rfl, Below.refl _ _⟩
  case round =>
    obtain ⟨i, f, l, rfl, rfl, hi, hf, hsc, hb⟩ := hrel
    have HFU := hide (full_at s i hi wr (unhide HTB wr hb))
    have HSC := hide hsc
    have HB := hide hb
    clear hsc hb
    have hiI : (i : Int) ≤ (s.size : Int) := by omega
    cases hc : (decide (i < s.data.toList.length) && !Cu.halfway s.data.toList i) with
    | true =>
      have hlt : i < s.size := by
        simp only [Bool.and_eq_true, decide_eq_true_eq, len_toList] at hc
        exact hc.1
      obtain ⟨g, rfl⟩ : ∃ g, f = g + 1 := ⟨f - 1, by omega⟩
      have hn := Cu.chN_pos s.data.toList i
      rw [len_toList] at hn
      have hst := Cu.stChars_next (f := g) hc
      have hwd := dec_width hlt
      have hrel2 : Hid (∀ wr', Below w.heap.size w wr' → LastRel s w (.int .i64 i) (.int .i64 ((i : Int) + (Cu.chN s.data.toList i : Nat))) wr') := hide (fun wr' hb' => ⟨i + Cu.chN s.data.toList i, g, l ++ [(i, Cu.chN s.data.toList i, Cu.chCode s.data.toList i)], by rw [Cu.lastOf_snoc], by go_num, hn.2.2 hlt, by omega, by rw [unhide HSC, hst]; simp, hb'⟩)
      have hn1 := hn.1
      have hn2 := hn.2.1
      rw [hc] at HFU
      clear hst hc hn
      go_wp2_with fail
      refine (unhide HFU).mono ?_
      rintro e w1 ⟨rfl, hb1⟩
      have HB1 := hide (below_two hb1 (unhide HB))
      clear hb1
      go_wp2_with fail
      refine (Tryz.utf8_DecodeRuneInString _ _ (unhide HTB _ (unhide HB1))).mono ?_
      rintro e w2 ⟨rfl, hb2⟩
      rw [hwd]
      generalize Cu.chN s.data.toList i = wd at *
      have HB2 := hide (below_two hb2 (unhide HB1))
      clear hb2 hwd
      go_wp2
      go_roundw
      case rel => first | exact unhide hrel2 _ (unhide HB2) | ((repeat apply Exists.intro); exact ⟨unhide hrel2 _ (unhide HB2), rfl⟩)
      case measure => simp [intOf]; omega
    | false =>
      have hfin : Hid (Cu.lastP s.data.toList = Cu.lastOf l) := hide (by rw [Cu.lastP_of, unhide HSC, Cu.stChars_stop hc, List.append_nil])
      rw [hc] at HFU
      clear hc
      go_wp2_with fail
      refine (unhide HFU).mono ?_
      rintro e w1 ⟨rfl, hb1⟩
      have HB1 := hide (below_two hb1 (unhide HB))
      clear hb1
      go_wp2
      go_ret
      exact ⟨by rw [unhide hfin]; rfl, unhide HB1⟩
end Go.Proofs.YtbppbejigedioabGreatDoor
/- The program's stream: pass. -/
namespace Go.Proofs.YtbppbejigedioabGreatDoor
open Go.RowKit Go.Maps

/-- The first k characters shifted. -/
def shTo (a : Nat) (l : List Cu.Chr) (k : Nat) : List Cu.Chr := (l.take k).map (Cu.shift a) ++ l.drop k
theorem shTo_len (a : Nat) (l : List Cu.Chr) (k : Nat) : (shTo a l k).length = l.length := by
  unfold shTo
  rw [List.length_append, List.length_map, List.length_take, List.length_drop]
  omega
theorem shTo_zero (a : Nat) (l : List Cu.Chr) : shTo a l 0 = l := by unfold shTo; simp
theorem shTo_all (a : Nat) (l : List Cu.Chr) : shTo a l l.length = l.map (Cu.shift a) := by unfold shTo; simp
theorem shTo_get {a : Nat} {l : List Cu.Chr} {k : Nat} {x : Cu.Chr} (h : (shTo a l k)[k]? = some x) : l[k]? = some x := by
  unfold shTo at h
  have hk : k < l.length := by
    have := (List.getElem?_eq_some_iff.1 h).1
    rw [List.length_append, List.length_map, List.length_take, List.length_drop] at this
    omega
  rw [List.getElem?_append_right (by rw [List.length_map, List.length_take]; omega), List.length_map, List.length_take, List.getElem?_drop] at h
  rw [show k + (k - min k l.length) = k by omega] at h
  exact h
theorem shTo_next {a : Nat} {l : List Cu.Chr} {k : Nat} {x : Cu.Chr} (h : l[k]? = some x) : (shTo a l k).set k (Cu.shift a x) = shTo a l (k + 1) := by
  have hk : k < l.length := (List.getElem?_eq_some_iff.1 h).1
  have hd : l.drop k = x :: l.drop (k + 1) := by rw [← List.getElem_cons_drop hk, (List.getElem?_eq_some_iff.1 h).2]
  unfold shTo
  rw [List.set_append_right _ _ (by rw [List.length_map, List.length_take]; omega), List.length_map, List.length_take, show k - min k l.length = 0 by omega, hd, List.set_cons_zero, List.take_add_one, h]
  simp
theorem symB_cons (its : List KItem) (x y : Cu.Chr) (r r' : List Cu.Chr) (h : y.2 = x.2) : symB its (y :: r) = symB its (x :: r') := by
  show (symOf its y.2.2).toNat = (symOf its x.2.2).toNat
  rw [h]
theorem symB_set (its : List KItem) (l r : List Cu.Chr) (i : Nat) (x y : Cu.Chr) (hx : l[i]? = some x) (h : y.2 = x.2) : symB its (l.set i y ++ r) = symB its (l ++ r) := by
  cases l with
  | nil => simp at hx
  | cons z l =>
    cases i with
    | zero =>
      simp only [List.getElem?_cons_zero, Option.some.injEq] at hx
      subst hx
      exact symB_cons its _ _ _ _ h
    | succ i => rfl
theorem spCells_set (its : List KItem) (rs : List PLn) (l r : List Cu.Chr) (i : Nat) (x y : Cu.Chr) (hx : l[i]? = some x) (h : y.2 = x.2) : (spCells its rs l r).set (i * 3) (.int .i64 y.1) = spCells its rs (l.set i y) r := by
  induction l generalizing i with
  | nil => simp at hx
  | cons z l ih =>
    cases i with
    | zero =>
      simp only [List.getElem?_cons_zero, Option.some.injEq] at hx
      subst hx
      simp only [spCells, chv, List.set_cons_zero, Nat.zero_mul, List.cons_append]
      rw [h]
    | succ i =>
      simp only [List.getElem?_cons_succ] at hx
      simp only [spCells, List.set_cons_succ]
      rw [List.set_append_right _ _ (by simp [chv]; omega)]
      have e : (i + 1) * 3 - (chv its rs z (l ++ r)).length = i * 3 := by simp [chv]; omega
      rw [e, ih i hx]
      unfold chv
      rw [symB_set its l r i x y hx h]
theorem spCells_behind (its : List KItem) (rs : List PLn) (l r : List Cu.Chr) (a : Nat) : spCells its rs l r = spCells its rs l (r.map (Cu.shift a)) := by
  induction l with
  | nil => rfl
  | cons z l ih =>
    simp only [spCells]
    rw [ih]
    congr 1
    unfold chv
    have e : symB its (l ++ r) = symB its (l ++ r.map (Cu.shift a)) := by
      cases l with
      | nil =>
        cases r with
        | nil => rfl
        | cons y r => exact symB_cons its (Cu.shift a y) y _ _ rfl
      | cons y l => rfl
    rw [e]

/-- The stream and its machine behind m characters of cs; what was told since w. -/
structure SAt (X B M mb K m : Nat) (nm : Nat → Bool) (its : List KItem) (rs : List PLn) (cs : List Cu.Chr) (w : World) (a : Nat) (r : ByteArray) (j : Nat) (wc : World) : Prop where
  blk : Blk wc X (strCells B M j a r) 75
  book : BookAt wc B nm its rs
  run : ∃ (sts : List St) (s : St), RunAt wc M mb (newP rs) sts ∧ Good (newP rs) sts ∧ sts.length ≤ K + m ∧ 1 ≤ j ∧ sts[j]? = some s ∧ s.1 = runM rs ((symsOf its cs).take m)
  keep : Keeps X M mb w wc
theorem SAt.setAt {X B M mb K m : Nat} {nm : Nat → Bool} {its : List KItem} {rs : List PLn} {cs : List Cu.Chr} {w : World} {a a' : Nat} {r : ByteArray} {j : Nat} {wc : World} (h : SAt X B M mb K m nm its rs cs w a r j wc) : SAt X B M mb K m nm its rs cs w a' r j (wc.setCell ⟨X, 3, none⟩ (.int .i64 a')) := by
  obtain ⟨sts, s, h1, h2, h3, h4, h5, h6⟩ := h.run
  obtain ⟨vb, hBM⟩ : ∃ vb, Blk wc M vb 121 := by
    obtain ⟨as_, at_, cs_, ct, D, hMac, _⟩ := h1
    obtain ⟨v, hv⟩ := hMac.blk
    exact ⟨_, hv⟩
  exact ⟨h.blk.setSame 3 _, book_set h.book h.blk, ⟨sts, s, run_set h1 h.blk, h2, h3, h4, h5, h6⟩, h.keep.trans (Keeps.set (hBM.ne h.blk (by decide)))⟩
theorem SAt.setRest {X B M mb K m : Nat} {nm : Nat → Bool} {its : List KItem} {rs : List PLn} {cs : List Cu.Chr} {w : World} {a : Nat} {r r' : ByteArray} {j : Nat} {wc : World} (h : SAt X B M mb K m nm its rs cs w a r j wc) : SAt X B M mb K m nm its rs cs w a r' j (wc.setCell ⟨X, 4, none⟩ (.string r')) := by
  obtain ⟨sts, s, h1, h2, h3, h4, h5, h6⟩ := h.run
  obtain ⟨vb, hBM⟩ : ∃ vb, Blk wc M vb 121 := by
    obtain ⟨as_, at_, cs_, ct, D, hMac, _⟩ := h1
    obtain ⟨v, hv⟩ := hMac.blk
    exact ⟨_, hv⟩
  exact ⟨h.blk.setSame 4 _, book_set h.book h.blk, ⟨sts, s, run_set h1 h.blk, h2, h3, h4, h5, h6⟩, h.keep.trans (Keeps.set (hBM.ne h.blk (by decide)))⟩
theorem SAt.below {X B M mb K m : Nat} {nm : Nat → Bool} {its : List KItem} {rs : List PLn} {cs : List Cu.Chr} {w : World} {a : Nat} {r : ByteArray} {j : Nat} {wc W : World} (h : SAt X B M mb K m nm its rs cs w a r j wc) (hb : Below wc.heap.size wc W) : SAt X B M mb K m nm its rs cs w a r j W := by
  obtain ⟨sts, s, h1, h2, h3, h4, h5, h6⟩ := h.run
  exact ⟨h.blk.below hb h.blk.lt, h.book.below hb, ⟨sts, s, h1.below hb, h2, h3, h4, h5, h6⟩, h.keep.trans (Keeps.of hb h1.lt.1)⟩
/-- A row of the call's own, of a type of its own, stays while the stream's block is written. -/
theorem SAt.own {X B M mb K m : Nat} {nm : Nat → Bool} {its : List KItem} {rs : List PLn} {cs : List Cu.Chr} {w : World} {a : Nat} {r : ByteArray} {j : Nat} {wc : World} (h : SAt X B M mb K m nm its rs cs w a r j wc) {b n size : Nat} {v : Value} {xs : List Value} (ho : wc.ownsRow b 3 size v n xs) (i : Nat) (u : Value) : (wc.setCell ⟨X, i, none⟩ u).ownsRow b 3 size v n xs := own_set_ne ho _ _ (h.blk.ne_row ho (by decide))
/-- What pass answers and leaves. -/
def SRes (X B M mb K n a tp : Nat) (nm : Nat → Bool) (its : List KItem) (rs : List PLn) (l : List Cu.Ln) (r W : ByteArray) (cs : List Cu.Chr) (w : World) (e : Ending) (w' : World) : Prop :=
  ∃ (ao : Option Addr) (cap j i f : Nat) (lw : List Cu.Chr), lw ++ Cu.charsGo W.data.toList f i = Cu.chars W.data.toList ∧ tp ≤ i ∧ W.size ≤ i + f ∧ (∀ x ∈ lw, x.1 < tp) ∧ e = .returned (.slice ao (Cu.cutsFrom l cs n lw.length).length cap) ∧
    w'.ownsRow w.heap.size 3 1 (.slice ao (Cu.cutsFrom l cs n lw.length).length cap) (Cu.cutsFrom l cs n lw.length).length (intCells (Cu.cutsFrom l cs n lw.length)) ∧ SAt X B M mb K (n + lw.length) nm its rs cs w (a + tp) r j w'
/-- Behind the machine's pass. -/
theorem smid_done {X B M mb K n m a j : Nat} {nm : Nat → Bool} {its : List KItem} {rs : List PLn} {cs : List Cu.Chr} {r : ByteArray} {w W w2 : World} {out : List Nat} {v x : Value} (hblk : Blk w X (strCells B M j a r) 75) (hbook : BookAt w B nm its rs) (hM : M < w.heap.size) (hb : Below w.heap.size w W) (hall : AllAt (newP rs) (fun n => runM rs ((symsOf its cs).take n)) K M mb W (n + m) out v x w2) :
    ∃ (ao : Option Addr) (cap j2 : Nat), v = .slice ao out.length cap ∧ x = .int .i64 j2 ∧ Blk w2 X (strCells B M j a r) 75 ∧ X < w2.heap.size ∧ (w2.setCell ⟨X, 2, none⟩ (.int .i64 j2)).ownsRow w.heap.size 3 1 (.slice ao out.length cap) out.length (intCells out) ∧ SAt X B M mb K (n + m) nm its rs cs w a r j2 (w2.setCell ⟨X, 2, none⟩ (.int .i64 j2)) := by
  obtain ⟨cap, ao, rfl, ho, j2, sts, s, rfl, hR, hG, hl, hj1, hjs, hm, hf⟩ := hall
  have hb2 := hf.blk (hblk.below hb hblk.lt) (by decide) (by decide)
  obtain ⟨vb, hBM⟩ : ∃ vb, Blk w2 M vb 121 := by
    obtain ⟨as_, at_, cs_, ct, D, hMac, _⟩ := id hR
    obtain ⟨v, hv⟩ := hMac.blk
    exact ⟨_, hv⟩
  refine ⟨ao, cap, j2, rfl, rfl, hb2, hb2.lt, own_set_ne (own_base ho hb.size) _ _ (hb2.ne_row ho (by decide)), hb2.setSame 2 _, book_set (book_frm (hbook.below hb) hf) hb2, ⟨sts, s, run_set hR hb2, hG, hl, hj1, hjs, hm⟩, ?_⟩
  exact ((Keeps.of hb hM).trans (Keeps.frm hf)).trans (Keeps.set (hBM.ne hb2 (by decide)))
/-- The rounds that shift. -/
def ShRel (its : List KItem) (rs : List PLn) (lw suf : List Cu.Chr) (a : Nat) (al : Option Addr) (cl : Nat) (w : World) (v : Value) (wr : World) : Prop :=
  ∃ (k : Nat) (L : List Cu.Chr), k ≤ lw.length ∧ v = .int .i64 k ∧ L = shTo a lw k ∧ wr.ownsRow w.heap.size 141 3 (.slice al L.length cl) L.length (spCells its rs L suf) ∧ Below w.heap.size w wr
theorem sh_next {its : List KItem} {rs : List PLn} {lw suf L : List Cu.Chr} {a k g : Nat} {cl : Nat} {w wr : World} {x : Cu.Chr} (hL : L = shTo a lw k) (hx : L[k]? = some x) (ho : wr.ownsRow w.heap.size 141 3 (.slice (some ⟨g, 0, none⟩) L.length cl) L.length (spCells its rs L suf)) (hb : Below w.heap.size w wr) :
    ∀ q : Nat, ShRel its rs lw suf a (some ⟨g, 0, none⟩) cl w (.int .i64 ((k : Int) + 1)) ((wr.setCell ⟨g, k * 3, none⟩ (.int .i64 ((x.1 : Int) + (a : Int)))).drewN q) := by
  intro q
  have hk : k < L.length := (List.getElem?_eq_some_iff.1 hx).1
  have hx' := hx
  rw [hL] at hx'
  have hlw := shTo_get hx'
  have hset := spCells_set its rs L suf k x (Cu.shift a x) hx rfl
  have hst := ho.stored (k * 3) (.int .i64 ((x.1 : Int) + (a : Int)))
  have hv : Value.int .i64 ((x.1 : Int) + (a : Int)) = .int .i64 ((Cu.shift a x).1 : Nat) := by unfold Cu.shift; simp [Int.add_comm]
  rw [hL, shTo_len] at hk
  refine ⟨k + 1, shTo a lw (k + 1), hk, by go_num, rfl, ?_, ?_⟩
  · have h1 := hst.1
    rw [hv, hset, hL, shTo_next hlw] at h1
    rw [hv]
    have e1 : (shTo a lw k).length = (shTo a lw (k + 1)).length := by rw [shTo_len, shTo_len]
    rw [e1] at h1
    exact own_below h1 (below_drawn (Below.refl _ _) q)
  · have hge : w.heap.size ≤ g := (ho.lt g rfl).1
    exact below_drawn (hb.setCell hge _) q

set_option maxRecDepth 100000 in
set_option maxHeartbeats 4000000 in
theorem spass_any (X B M mb j K n a tp : Nat) (nm : Nat → Bool) (its : List KItem) (rs : List PLn) (sts : List St) (s : St) (l : List Cu.Ln) (r W : ByteArray) (t : List UInt8) (w : World) (hblk : Blk w X (strCells B M j a r) 75) (hbook : BookAt w B nm its rs) (hok : BookOk l its rs) (hrun : RunAt w M mb (newP rs) sts) (hgood : Good (newP rs) sts) (hlen : sts.length ≤ K + n) (hj1 : 1 ≤ j) (hjs : sts[j]? = some s) (hmet : s.1 = runM rs ((symsOf its (Cu.chars t)).take n))
    (hT : Tabs w) (hz : Tz w) (h3 : 4 < mb) (hwin : (Cu.chars W.data.toList).map (Cu.shift a) = (Cu.chars t).drop n) (hto : tp ≤ W.size) (hn : n ≤ a) (hsz : a + W.size ≤ 1048576) (hK : K ≤ 2097170) :
    Calls Tryz.prog 33 #[.pointer (some ⟨X, 0, none⟩), .string W, .int .i64 tp] w fun e w' => SRes X B M mb K n a tp nm its rs l r W (Cu.chars t) w e w' := by
  have hY : Syms its := fun c => (hok.letr c).2
  have x0 : w.cell? ⟨X, 0, none⟩ = some (.pointer (some ⟨B, 0, none⟩)) := hblk.cell 0
  have hXl := hblk.lt
  have hMl := hrun.lt
  have HSP := hide (split_to W tp hto B nm its rs w (by omega) hbook hok.len hok.sep hT hY hok.rules.n12)
  have HMID := hide (fun (W' w2 : World) (m : Nat) (out : List Nat) (v x : Value) (hb : Below w.heap.size w W') => smid_done (mb := mb) (K := K) (cs := Cu.chars t) (n := n) (m := m) (out := out) (v := v) (x := x) (w2 := w2) hblk hbook hMl.1 hb)
  have HPASS := hide (fun (W' : World) (hb : Below w.heap.size w W') (lw suf : List Cu.Chr) (al : Option Addr) (cl base : Nat) (hro : W'.ownsRow base 141 3 (.slice al lw.length cl) lw.length (spCells its rs lw suf)) (hd : (Cu.chars t).drop n = lw ++ suf) (hbl : n + lw.length ≤ 1048576) => mpass_any M mb K n (newP rs) its rs (Cu.chars t) lw suf _ _ l al cl base [] (.slice none 0 0) (.int .i64 j) W' W' ⟨0, none, rfl, World.ownsRow_nil _ _ _ _, j, sts, s, rfl, hrun.below hb, hgood, hlen, hj1, hjs, hmet, FrmR.refl _ _ _⟩ (macOk hok.rules) (hz.below hb hz.2) h3 (by have := hb.size; omega) (runOk hok.rules hok.letr) hro hd hbl hK (by simp))
  have HX := hide hblk
  have HWIN := hide hwin
  clear hblk hbook hok hrun hgood hjs hmet hT hz hwin hY
  go_enter Tryz.func33, Tryz.ntmps33
  go_wp2_with fail
  refine (unhide HSP).mono ?_
  rintro e w1 ⟨al, cl, i, f, lw, rfl, hti, hfi, hch, hall, ho1, hb1⟩
  have hlw : lw.length ≤ W.size := by
    have h1 := chars_len W
    have h2 := congrArg List.length hch
    rw [List.length_append] at h2
    omega
  have hin : Hid (ShRel its rs lw (Cu.charsGo W.data.toList f i) a al cl w (.int .i64 0) w1) := hide ⟨0, lw, Nat.zero_le _, rfl, (shTo_zero a lw).symm, ho1, hb1⟩
  have HCH := hide hch
  have HALL := hide hall
  clear ho1 hb1 hch hall HSP
  go_wp2
  go_loopw [19] (fun v wr => ShRel its rs lw (Cu.charsGo W.data.toList f i) a al cl w v wr) (fun v _ => lw.length + 1 - (intOf v).toNat)
  case atStart =>
    go_light
    exact unhide hin
  case round =>
    obtain ⟨k, L, hk, rfl, hL, ho, hb⟩ := hrel
    have hLl : L.length = lw.length := by rw [hL, shTo_len]
    have xr3 : wr.cell? ⟨X, 3, none⟩ = some (.int .i64 a) := (unhide HX |>.below hb hXl).cell 3
    have xr1 : wr.cell? ⟨X, 1, none⟩ = some (.pointer (some ⟨M, 0, none⟩)) := (unhide HX |>.below hb hXl).cell 1
    have xr2 : wr.cell? ⟨X, 2, none⟩ = some (.int .i64 j) := (unhide HX |>.below hb hXl).cell 2
    have hsw := hb.size
    by_cases hkl : k < lw.length
    · obtain ⟨g, x, rfl, hx, hgl, c0, c1, c2⟩ := sp_cells ho k (by omega)
      have hgf : wr.frozen? ⟨g, k * 3, none⟩ = false := ho.frozenAt (k * 3)
      have hge : w.heap.size ≤ g := (ho.lt g rfl).1
      have hxs : x.1 ≤ 1048576 := by
        have h1 : lw[k]? = some x := shTo_get (by rw [← hL]; exact hx)
        have := unhide HALL x (List.mem_of_getElem? h1)
        omega
      have hnext := hide (sh_next hL hx ho hb)
      have hXg : X ≠ g := by omega
      have hgX : g ≠ X := by omega
      clear ho hx hL hb c1 c2
      go_wp2_with fail
      go_region
      all_goals
        go_wp2
        go_roundw
        case rel => first | exact unhide hnext 1 | exact unhide hnext _ | ((repeat apply Exists.intro); exact ⟨unhide hnext _, rfl⟩)
        case measure => simp [intOf]; omega
    · obtain rfl : k = lw.length := by omega
      have hLL : L = lw.map (Cu.shift a) := by rw [hL, shTo_all]
      have hd : (Cu.chars t).drop n = lw.map (Cu.shift a) ++ (Cu.charsGo W.data.toList f i).map (Cu.shift a) := by rw [← unhide HWIN, ← unhide HCH, List.map_append]
      have hro : ∀ W', Below wr.heap.size wr W' → W'.ownsRow w.heap.size 141 3 (.slice al (lw.map (Cu.shift a)).length cl) (lw.map (Cu.shift a)).length (spCells its rs (lw.map (Cu.shift a)) ((Cu.charsGo W.data.toList f i).map (Cu.shift a))) := fun W' hW => own_below (by rw [hLL] at ho; rw [← spCells_behind]; exact ho) hW
      have hml : (lw.map (Cu.shift a)).length = lw.length := List.length_map _
      have HCM : Hid (∀ W', Below wr.heap.size wr W' → Calls Tryz.prog 57 #[.pointer (some ⟨M, 0, none⟩), .int .i64 j, .slice al lw.length cl, .slice none 0 0] W' fun e w2 => ∃ (ao : Option Addr) (cap j2 : Nat), e = .returned (.tuple #[.int .i64 j2, .slice ao (Cu.cutsFrom l (Cu.chars t) n lw.length).length cap]) ∧ Blk w2 X (strCells B M j a r) 75 ∧ X < w2.heap.size ∧
          (w2.setCell ⟨X, 2, none⟩ (.int .i64 j2)).ownsRow w.heap.size 3 1 (.slice ao (Cu.cutsFrom l (Cu.chars t) n lw.length).length cap) (Cu.cutsFrom l (Cu.chars t) n lw.length).length (intCells (Cu.cutsFrom l (Cu.chars t) n lw.length)) ∧ SAt X B M mb K (n + lw.length) nm its rs (Cu.chars t) w a r j2 (w2.setCell ⟨X, 2, none⟩ (.int .i64 j2))) := hide (by
        intro W' hW
        have h1 := unhide HPASS W' (below_two hW hb) _ _ al cl _ (hro W' hW) hd (by rw [hml]; omega)
        rw [hml] at h1
        refine h1.mono ?_
        rintro e w2 ⟨v, x, rfl, hall⟩
        rw [List.nil_append] at hall
        obtain ⟨ao, cap, j2, rfl, rfl, h2⟩ := unhide HMID W' w2 lw.length _ v x (below_two hW hb) hall
        exact ⟨ao, cap, j2, rfl, h2⟩)
      have HRES : Hid (∀ (ao : Option Addr) (cap j2 : Nat) (w' : World), w'.ownsRow w.heap.size 3 1 (.slice ao (Cu.cutsFrom l (Cu.chars t) n lw.length).length cap) (Cu.cutsFrom l (Cu.chars t) n lw.length).length (intCells (Cu.cutsFrom l (Cu.chars t) n lw.length)) → SAt X B M mb K (n + lw.length) nm its rs (Cu.chars t) w (a + tp) r j2 w' → SRes X B M mb K n a tp nm its rs l r W (Cu.chars t) w (.returned (.slice ao (Cu.cutsFrom l (Cu.chars t) n lw.length).length cap)) w') := hide (fun ao cap j2 w' h1 h2 => ⟨ao, cap, j2, i, f, lw, unhide HCH, hti, hfi, unhide HALL, rfl, h1, h2⟩)
      generalize Cu.cutsFrom l (Cu.chars t) n lw.length = out at *
      clear ho hL hb hLL hd hro HPASS HMID
      go_upto_region 8 with fail
      go_cut [9] (fun v wc => ∃ (ao : Option Addr) (cap j2 : Nat), v = .slice ao out.length cap ∧ wc.ownsRow w.heap.size 3 1 (.slice ao out.length cap) out.length (intCells out) ∧ SAt X B M mb K (n + lw.length) nm its rs (Cu.chars t) w a r j2 wc)
      case first =>
        go_region_with (go_at_call 57; refine (unhide HCM _ ((Below.refl _ _).drew)).mono ?_; rintro e w2 ⟨ao, cap, j2, rfl, hbx, hxl, hoo, hsat⟩; have y2 : w2.cell? ⟨X, 2, none⟩ = some (.int .i64 j) := hbx.cell 2; have y2f : w2.frozen? ⟨X, 2, none⟩ = false := hbx.free 2; have HOO := hide (And.intro hoo hsat); clear hbx hoo hsat)
        all_goals
          go_wp2_with fail
          go_meet
          case rel => exact ⟨ao, cap, j2, rfl, unhide HOO⟩
      case rest =>
        obtain ⟨ao, cap, j2, rfl, hoo, hsat⟩ := hcut
        have z3 : wc.cell? ⟨X, 3, none⟩ = some (.int .i64 a) := hsat.blk.cell 3
        have z3f : wc.frozen? ⟨X, 3, none⟩ = false := hsat.blk.free 3
        have hXc := hsat.blk.lt
        have hfin := hide (unhide HRES ao cap j2 (wc.setCell ⟨X, 3, none⟩ (.int .i64 ((a + tp : Nat) : Int))) (hsat.own hoo _ _) hsat.setAt)
        rw [show ((a + tp : Nat) : Int) = (a : Int) + (tp : Int) by omega] at hfin
        clear hoo hsat
        go_wp2
        go_ret
        exact unhide hfin
end Go.Proofs.YtbppbejigedioabGreatDoor
/- The program's stream: isOpen, begin, Feed, End. -/
namespace Go.Proofs.YtbppbejigedioabGreatDoor
open Go.RowKit Go.Maps

set_option maxRecDepth 100000 in
set_option maxHeartbeats 400000 in
theorem isOpen_any (X B M j a : Nat) (r : ByteArray) (w : World) (hB : Blk w X (strCells B M j a r) 75) :
    Calls Tryz.prog 31 #[.pointer (some ⟨X, 0, none⟩)] w fun e w' => e = .returned (.bool true) ∧ w = w' := by
  have c0 : w.cell? ⟨X, 0, none⟩ = some (.pointer (some ⟨B, 0, none⟩)) := hB.cell 0
  have hl := hB.lt
  clear hB
  go_enter Tryz.func31, Tryz.ntmps31
  go_wp2
  go_ret
  exact ⟨rfl, rfl⟩

/-- What begin leaves. -/
def BeginRes (X B M mb K : Nat) (nm : Nat → Bool) (its : List KItem) (rs : List PLn) (w : World) (e : Ending) (w' : World) : Prop :=
  e = .returned (.tuple #[]) ∧ ∃ j : Nat, SAt X B M mb K 0 nm its rs [] w 0 ⟨#[]⟩ j w'
theorem begin_done {X B M mb j j2 a K : Nat} {nm : Nat → Bool} {its : List KItem} {rs : List PLn} {sts sts2 : List St} {s2 : St} {r : ByteArray} {w w1 : World} (hblk : Blk w X (strCells B M j a r) 75) (hbook : BookAt w B nm its rs) (hlen : sts.length + 1 ≤ K) (hR : RunAt w1 M mb (newP rs) sts2) (hG : Good (newP rs) sts2) (hgr : Grew sts sts2) (hf : FrmR M mb w w1) (hj1 : 1 ≤ j2) (hjs : sts2[j2]? = some s2) (hm : s2.1 = 0) :
    Blk w1 X (strCells B M j a r) 75 ∧ SAt X B M mb K 0 nm its rs [] w 0 ⟨#[]⟩ j2 (((w1.setCell ⟨X, 2, none⟩ (.int .i64 j2)).setCell ⟨X, 3, none⟩ (.int .i64 0)).setCell ⟨X, 4, none⟩ (.string ⟨#[]⟩)) := by
  have hb1 := hf.blk hblk (by decide) (by decide)
  obtain ⟨vb, hBM⟩ : ∃ vb, Blk w1 M vb 121 := by
    obtain ⟨as_, at_, cs_, ct, D, hMac, _⟩ := id hR
    obtain ⟨v, hv⟩ := hMac.blk
    exact ⟨_, hv⟩
  have h0 : SAt X B M mb K 0 nm its rs [] w a r j2 (w1.setCell ⟨X, 2, none⟩ (.int .i64 j2)) := ⟨hb1.setSame 2 _, book_set (book_frm hbook hf) hb1, ⟨sts2, s2, run_set hR hb1, hG, by have := hgr.2.1; omega, hj1, hjs, by rw [hm]; rfl⟩, (Keeps.frm hf).trans (Keeps.set (hBM.ne hb1 (by decide)))⟩
  exact ⟨hb1, (h0.setAt (a' := 0)).setRest⟩

set_option maxRecDepth 100000 in
set_option maxHeartbeats 1000000 in
theorem begin_any (X B M mb j a K : Nat) (nm : Nat → Bool) (its : List KItem) (rs : List PLn) (sts : List St) (r : ByteArray) (w : World) (hblk : Blk w X (strCells B M j a r) 75) (hbook : BookAt w B nm its rs) (hp : MacOk (newP rs)) (hrun : RunAt w M mb (newP rs) sts) (hgood : Good (newP rs) sts) (hlen : sts.length + 1 ≤ K) (hK : K ≤ 4194304) :
    Calls Tryz.prog 28 #[.pointer (some ⟨X, 0, none⟩)] w fun e w' => BeginRes X B M mb K nm its rs w e w' := by
  have c1 : w.cell? ⟨X, 1, none⟩ = some (.pointer (some ⟨M, 0, none⟩)) := hblk.cell 1
  have hl := hblk.lt
  have HST := hide (start_any M mb (newP rs) sts w hrun hgood hp (by omega))
  have HDONE := hide (fun (w1 : World) (sts2 : List St) (s2 : St) (j2 : Nat) => begin_done (w1 := w1) (sts2 := sts2) (s2 := s2) (j2 := j2) (mb := mb) hblk hbook hlen)
  clear hblk hbook hrun hgood hp
  go_enter Tryz.func28, Tryz.ntmps28
  go_wp2_with fail
  refine (unhide HST).mono ?_
  rintro e w1 ⟨j2, sts2, s2, rfl, hR, hG, hgr, hf, hj1, hjs, hm⟩
  obtain ⟨hb1, hfin⟩ := unhide HDONE w1 sts2 s2 j2 hR hG hgr hf hj1 hjs hm
  have y2 : w1.cell? ⟨X, 2, none⟩ = some (.int .i64 j) := hb1.cell 2
  have y3 : w1.cell? ⟨X, 3, none⟩ = some (.int .i64 a) := hb1.cell 3
  have y4 : w1.cell? ⟨X, 4, none⟩ = some (.string r) := hb1.cell 4
  have yf : ∀ i, w1.frozen? ⟨X, i, none⟩ = false := hb1.free
  have hl1 := hb1.lt
  have HF := hide hfin
  clear hR hG hgr hf hjs hm hb1 hfin
  go_wp2
  go_end0
  exact ⟨rfl, j2, unhide HF⟩

theorem ext_cat (T b : ByteArray) (a : Nat) (ha : a ≤ T.size) : T.extract a T.size ++ b = (T ++ b).extract a (T ++ b).size := by
  apply ByteArray.ext
  apply Array.ext'
  simp only [ByteArray.data_append, ByteArray.data_extract, Array.toList_append, Array.toList_extract, List.extract_eq_take_drop, ByteArray.size_append]
  rw [List.take_of_length_le (by rw [List.length_drop, len_toList]; omega), List.take_of_length_le (by rw [List.length_drop, List.length_append, len_toList, len_toList]; omega), List.drop_append_of_le_length (by rw [len_toList]; exact ha)]
theorem ext_ext (T : ByteArray) (a c : Nat) : (T.extract a T.size).extract c (T.extract a T.size).size = T.extract (a + c) T.size := by
  apply ByteArray.ext
  apply Array.ext'
  simp only [ByteArray.data_extract, Array.toList_extract, List.extract_eq_take_drop, ByteArray.size_extract]
  rw [List.take_of_length_le (by simp), List.take_of_length_le (by simp), List.take_of_length_le (by simp), List.drop_drop]
theorem PSat.env {N : Nat} {w : World} {base X : Nat} {l : List Cu.Ln} {T : ByteArray} {F : Nat → Prop} {B M mb j K : Nat} {nm : Nat → Bool} {its : List KItem} {rs : List PLn} {sts : List St} {s : St} (h : PSat N w base X l T F B M mb j K nm its rs sts s) (hb : 4 < base) : 4 < mb := by have := (h.foot mb h.hmb).1; omega
/-- From what pass leaves to the stream again. -/
theorem ps_back {N N' : Nat} {w w' : World} {base X : Nat} {l : List Cu.Ln} {T T' : ByteArray} {F : Nat → Prop} {B M mb j K : Nat} {nm : Nat → Bool} {its : List KItem} {rs : List PLn} {sts : List St} {s : St} {out : List Nat} {ao : Option Addr} {cap j' K' m : Nat} {cs : List Cu.Chr} (h : PSat N w base X l T F B M mb j K nm its rs sts s)
    (ho : w'.ownsRow w.heap.size 3 1 (.slice ao out.length cap) out.length (intCells out)) (hs : SAt X B M mb K' m nm its rs cs w (Cu.lastP T'.data.toList) (T'.extract (Cu.lastP T'.data.toList) T'.size) j' w') (hm : m = Cu.doneN T'.data.toList) (hcs : (symsOf its cs).take m = symsOf its ((Cu.sChars T'.data.toList).take m)) (hroom : K' + T'.size ≤ N' + 2) :
    PRes (PS N') out base X l T' F w (.returned (.slice ao out.length cap)) w' := by
  obtain ⟨sts', s', hR, hG, hlen, hj1, hjs, hmet⟩ := hs.run
  have hMl := h.run.lt
  have hbB := h.book
  obtain ⟨ai, ar, ci, cr, hB1, hB2, hB3⟩ := id hbB
  have hxb := h.blk
  obtain ⟨as_, at_, cs_, ct, D, ⟨ab, cb, m1, m2⟩, hoS, hoT, hown, hmap, hmbM⟩ := id h.run
  obtain ⟨es, ec, hes, _⟩ := id hown
  have hBne : w'.heap[B]? = w.heap[B]? := hs.keep.block B hB1.lt (hB1.ne hxb (by decide)) (hB1.ne m1 (by decide)) (fun e => map_ne hes hB1 e.symm) (fun e => by
    unfold rowOf at e
    rw [show w.cell? ⟨M, 31, none⟩ = some (.slice at_ sts.length ct) from m1.cell 31] at e
    exact hB1.ne_row hoT (by decide) e.symm)
  have hrowF : ∀ k, rowOf w M = some k → F k := fun k hk => by
    unfold rowOf at hk
    cases hc : w.cell? ⟨M, 31, none⟩ with
    | none => rw [hc] at hk; cases hk
    | some v => rw [hc] at hk; exact h.slM 31 k v hc hk
  have hsz := hs.keep.size
  refine ⟨ao, cap, fun k => F k ∨ rowOf w' M = some k, rfl, ho, ⟨B, M, mb, j', K', nm, its, rs, sts', s', ⟨hs.blk, hs.book, h.ok, hR, hG, by rw [hm] at hlen; exact hlen, hroom, hj1, hjs, by rw [hmet, hcs, hm], Or.inl h.hX, Or.inl h.hB, Or.inl h.hM, Or.inl h.hmb, ?_, ?_, ?_⟩⟩, ?_, ?_, ?_⟩
  · intro i k v hc hv
    exact Or.inl (h.slB i k v (by rw [← World.cell?_of_block (a := ⟨B, i, none⟩) hBne]; exact hc) hv)
  · refine row_in hR (fun k hk => Or.inr hk) (fun i k v hi hc hv => Or.inl (h.slM i k v (by rw [← hs.keep.cells i hi]; exact hc) hv))
  · rintro k (hk | hk)
    · have := h.foot k hk
      exact ⟨this.1, by omega⟩
    · have hlt : k < w'.heap.size := by
        obtain ⟨as2, at2, cs2, ct2, D2, ⟨ab2, cb2, n1, n2⟩, _, hoT2, _⟩ := id hR
        unfold rowOf at hk
        rw [show w'.cell? ⟨M, 31, none⟩ = some (.slice at2 sts'.length ct2) from n1.cell 31] at hk
        exact (hoT2.lt k hk).2
      rcases hs.keep.row k hk with h1 | h1
      · have := h.foot k (hrowF k h1)
        exact ⟨this.1, by omega⟩
      · have := h.foot X h.hX
        exact ⟨by omega, hlt⟩
  · rintro k (hk | hk)
    · exact Or.inl hk
    · rcases hs.keep.row k hk with h1 | h1
      · exact Or.inl (hrowF k h1)
      · exact Or.inr h1
  · rintro k hk (hF | hF)
    · have := (ho.lt k hk).1
      have := (h.foot k hF).2
      omega
    · obtain ⟨as2, at2, cs2, ct2, D2, ⟨ab2, cb2, n1, n2⟩, _, hoT2, _⟩ := id hR
      unfold rowOf at hF
      rw [show w'.cell? ⟨M, 31, none⟩ = some (.slice at2 sts'.length ct2) from n1.cell 31] at hF
      rcases hoT2.2 with ⟨hv, _⟩ | ⟨g, cap', cur, hv, _, hh, _⟩
      · rw [hv] at hF; cases hF
      · rw [hv] at hF
        simp only [Option.bind_some, Value.ownBlock, Option.some.injEq] at hF
        subst hF
        rcases ho.2 with ⟨hv2, _⟩ | ⟨g2, cap2, cur2, hv2, _, hh2, _⟩
        · rw [hv2] at hk; cases hk
        · rw [hv2] at hk
          simp only [Value.ownBlock, Option.some.injEq] at hk
          subst hk
          rw [hh] at hh2
          simp at hh2
  · refine ⟨hs.keep.os, hs.keep.tape, hs.keep.output, hsz, fun k hk hF => hs.keep.block k hk (fun e => hF (by rw [e]; exact h.hX)) (fun e => hF (by rw [e]; exact h.hM)) (fun e => hF (by rw [e]; exact h.hmb)) (fun e => hF (hrowF k e))⟩
end Go.Proofs.YtbppbejigedioabGreatDoor
/- The program's streams keep what is asked: Feed. -/
namespace Go.Proofs.YtbppbejigedioabGreatDoor
open Go.RowKit Go.Maps

set_option maxRecDepth 100000 in
set_option maxHeartbeats 400000 in
theorem clone_any (s : ByteArray) (w : World) (hs : s.size ≤ 1048576) : Calls Tryz.prog 34 #[.string s] w fun e w' => e = .returned (.string s) ∧ Below w.heap.size w w' := by
  go_enter Tryz.func34, Tryz.ntmps34
  go_wp2_with fail
  refine (Tryz.stringslite_Clone s _ (by omega)).mono ?_
  rintro e w' ⟨rfl, hb⟩
  have HB := hide hb
  clear hb
  go_wp2
  go_ret
  exact ⟨rfl, unhide HB⟩
theorem SAt.base {X B M mb K m : Nat} {nm : Nat → Bool} {its : List KItem} {rs : List PLn} {cs : List Cu.Chr} {w W : World} {a : Nat} {r : ByteArray} {j : Nat} {wc : World} (h : SAt X B M mb K m nm its rs cs W a r j wc) (hb : Below w.heap.size w W) (hM : M < w.heap.size) : SAt X B M mb K m nm its rs cs w a r j wc :=
  ⟨h.blk, h.book, h.run, (Keeps.of hb hM).trans h.keep⟩
theorem cutsFrom_feed {l : List Cu.Ln} (hl : ∀ x ∈ l, x.right.length ≤ 2) (T b : List UInt8) : Cu.cutsFrom l (Cu.chars (T ++ b)) (Cu.doneN T) (Cu.doneN ((T ++ b).drop (Cu.lastP T))) = Cu.feedP l (T ++ b) (Cu.told l T).length := by
  unfold Cu.cutsFrom Cu.feedP
  rw [← (Cu.window_last T b).1, ← Cu.told_at hl T b]
  have h := Cu.told_at hl (T ++ b) []
  rw [List.append_nil] at h
  rw [← h]
theorem syms_take (its : List KItem) (T u : List UInt8) : (symsOf its (Cu.chars (T ++ u))).take (Cu.doneN T) = symsOf its ((Cu.sChars T).take (Cu.doneN T)) := by
  unfold symsOf
  rw [← List.map_take, Cu.take_done]

section
variable {N : Nat} {w : World} {base X : Nat} {l : List Cu.Ln} {T : ByteArray} {F : Nat → Prop} {B M mb j K : Nat} {nm : Nat → Bool} {its : List KItem} {rs : List PLn} {sts : List St} {s : St}
/-- pass, over what has come. -/
theorem ps_pass (h : PSat N w base X l T F B M mb j K nm its rs sts s) (hE : Env w) (hb : 4 < base) (b W : ByteArray) (tp : Nat) (hsz : T.size + b.size ≤ 1048576) (hN : N ≤ 2097160) (hW : W = (T ++ b).extract (Cu.lastP T.data.toList) (T ++ b).size) (htp : tp ≤ W.size) (W' : World) (hb' : Below w.heap.size w W') :
    Calls Tryz.prog 33 #[.pointer (some ⟨X, 0, none⟩), .string W, .int .i64 tp] W' fun e w' => SRes X B M mb K (Cu.doneN T.data.toList) (Cu.lastP T.data.toList) tp nm its rs l (T.extract (Cu.lastP T.data.toList) T.size) W (Cu.chars (T.data.toList ++ b.data.toList)) W' e w' := by
  have hla := Cu.lastP_le T.data.toList
  rw [len_toList] at hla
  have hws : (T ++ b).size = T.size + b.size := by simp
  have hwz : W.size = (T ++ b).size - Cu.lastP T.data.toList := by rw [hW]; simp
  have hroom := h.room
  refine spass_any X B M mb j K _ _ tp nm its rs sts s l _ W (T.data.toList ++ b.data.toList) W' (h.blk.below hb' h.blk.lt) (h.book.below hb') h.ok (h.run.below hb') h.good h.len h.j1 h.js ?_ (tabs_below hE.1 hb') (hE.2.1.below hb' hE.2.2.2) (h.env hb) ?_ htp (Cu.doneN_le _) (by omega) (by omega)
  · rw [h.met, syms_take]
  · rw [hW, ext_toList, app_list]
    exact Cu.window.1
/-- Behind Feed's pass. -/
theorem feed_done (h : PSat N w base X l T F B M mb j K nm its rs sts s) (b W : ByteArray) (hW : W = (T ++ b).extract (Cu.lastP T.data.toList) (T ++ b).size) (W' w2 : World) (hb' : Below w.heap.size w W') (e : Ending) (hr : SRes X B M mb K (Cu.doneN T.data.toList) (Cu.lastP T.data.toList) (Cu.lastP W.data.toList) nm its rs l (T.extract (Cu.lastP T.data.toList) T.size) W (Cu.chars (T.data.toList ++ b.data.toList)) W' e w2) :
    ∃ (ao : Option Addr) (cap : Nat) (xs : List Value), e = .returned (.slice ao (Cu.feedP l (T ++ b).data.toList (Cu.told l T.data.toList).length).length cap) ∧ Blk w2 X xs 75 ∧ 4 < xs.length ∧
      ∀ w3, Below w2.heap.size w2 w3 → PRes (PS (N + b.size)) (Cu.feedP l (T ++ b).data.toList (Cu.told l T.data.toList).length) base X l (T ++ b) F w (.returned (.slice ao (Cu.feedP l (T ++ b).data.toList (Cu.told l T.data.toList).length).length cap)) (w3.setCell ⟨X, 4, none⟩ (.string (W.extract (Cu.lastP W.data.toList) W.size))) := by
  obtain ⟨ao, cap, j', i, f, lw, hch, hti, hfi, hall, rfl, ho, hs⟩ := hr
  have hla := Cu.lastP_le T.data.toList
  rw [len_toList] at hla
  have hws : (T ++ b).size = T.size + b.size := by simp
  have hWl : W.data.toList = (T.data.toList ++ b.data.toList).drop (Cu.lastP T.data.toList) := by rw [hW, ext_toList, app_list]
  have hlen : lw.length = Cu.doneN W.data.toList := Cu.take_last hch hti hall
  rw [hlen] at ho hs ⊢
  have hcf : Cu.cutsFrom l (Cu.chars (T.data.toList ++ b.data.toList)) (Cu.doneN T.data.toList) (Cu.doneN W.data.toList) = Cu.feedP l (T ++ b).data.toList (Cu.told l T.data.toList).length := by rw [hWl, cutsFrom_feed h.ok.two, app_list]
  rw [hcf] at ho ⊢
  refine ⟨ao, cap, _, rfl, hs.blk, by simp, ?_⟩
  intro w3 hb3
  have hs3 := ((hs.base hb' h.run.lt.1).below hb3).setRest (r' := W.extract (Cu.lastP W.data.toList) W.size)
  have ho3 := (hs.below hb3).own (own_base (own_below ho hb3) hb'.size) 4 (.string (W.extract (Cu.lastP W.data.toList) W.size))
  have hlast := Cu.window_last T.data.toList b.data.toList
  rw [← app_list] at hlast
  rw [← app_list] at hWl
  have e1 : Cu.lastP T.data.toList + Cu.lastP W.data.toList = Cu.lastP (T ++ b).data.toList := by rw [hWl, hlast.2]
  have e2 : Cu.doneN T.data.toList + Cu.doneN W.data.toList = Cu.doneN (T ++ b).data.toList := by rw [hWl, hlast.1]
  have e3 : W.extract (Cu.lastP W.data.toList) W.size = (T ++ b).extract (Cu.lastP (T ++ b).data.toList) (T ++ b).size := by
    rw [← e1, ← ext_ext (T ++ b) _ _]
    rw [← hW]
  rw [e1, e2, e3] at hs3
  rw [e3] at ho3 ⊢
  refine ps_back h ho3 hs3 rfl ?_ (by have := h.room; omega)
  have h9 := syms_take its (T ++ b).data.toList []
  rw [List.append_nil] at h9
  rw [← app_list]
  exact h9
end

set_option maxRecDepth 100000 in
set_option maxHeartbeats 1000000 in
theorem pfeed_any {N : Nat} {w : World} {base X : Nat} {l : List Cu.Ln} {T : ByteArray} {F : Nat → Prop} (b : ByteArray) (h : PS N w base X l T F) (hE : Env w) (hb : 4 < base) (hsz : T.size + b.size ≤ 1048576) (hN : N + b.size ≤ 2097160) :
    Calls Tryz.prog 16 #[.pointer (some ⟨X, 0, none⟩), .string b] w fun e w' => PRes (PS (N + b.size)) (Cu.feedP l (T ++ b).data.toList (Cu.told l T.data.toList).length) base X l (T ++ b) F w e w' := by
  obtain ⟨B, M, mb, j, K, nm, its, rs, sts, s, h⟩ := h
  have hla := Cu.lastP_le T.data.toList
  rw [len_toList] at hla
  have hcat := ext_cat T b _ hla
  have hws : (T ++ b).size = T.size + b.size := by simp
  have c4 : w.cell? ⟨X, 4, none⟩ = some (.string (T.extract (Cu.lastP T.data.toList) T.size)) := h.blk.cell 4
  have hXl := h.blk.lt
  have HIS := hide (isOpen_any X B M j _ _ w h.blk)
  have HPASS := hide (fun (W : ByteArray) (hW : W = (T ++ b).extract (Cu.lastP T.data.toList) (T ++ b).size) (W' : World) (hb' : Below w.heap.size w W') => (ps_pass h hE hb b W (Cu.lastP W.data.toList) hsz (by omega) hW (by have := Cu.lastP_le W.data.toList; rw [len_toList] at this; exact this) W' hb').mono fun e w2 hr => feed_done h b W hW W' w2 hb' e hr)
  have HTB := hide hE.1
  generalize Cu.feedP l (T ++ b).data.toList (Cu.told l T.data.toList).length = out at *
  generalize T.extract (Cu.lastP T.data.toList) T.size = r at *
  have hWs : (r ++ b).size ≤ 1048576 := by rw [hcat]; simp; omega
  have HP2 := hide (unhide HPASS (r ++ b) hcat)
  generalize hWd : r ++ b = W at *
  have hrs : r.size + b.size ≤ 1048576 := by rw [← hWd] at hWs; simpa using hWs
  have hlp := Cu.lastP_le W.data.toList
  rw [len_toList] at hlp
  have HL := hide (lastSettled_any W w hWs hE.1)
  have hcl : (W.extract (Cu.lastP W.data.toList) W.size).size ≤ 1048576 := by simp; omega
  generalize Cu.lastP W.data.toList = tp at *
  have hlpI : (tp : Int) ≤ (W.size : Int) := by omega
  clear h hE HPASS hcat
  go_enter Tryz.func16, Tryz.ntmps16
  go_wp2_with (go_at_call 31; refine (unhide HIS).mono ?_; rintro e w' ⟨rfl, rfl⟩)
  go_at_call 32
  refine (unhide HL).mono ?_
  rintro e w1 ⟨rfl, hb1⟩
  have HP3 := hide (unhide HP2 w1 hb1)
  clear hb1
  go_wp2_with fail
  go_at_call 33
  refine (unhide HP3).mono ?_
  rintro e w2 ⟨ao, cap, xs, rfl, hbx, hxs, hfin⟩
  have HBX := hide hbx
  have HFIN := hide hfin
  clear hbx hfin
  go_wp2_with fail
  go_at_call 34
  refine (clone_any _ _ hcl).mono ?_
  rintro e w3 ⟨rfl, hb3⟩
  have hb3x := (unhide HBX).below hb3 (unhide HBX).lt
  have y4 : w3.cell? ⟨X, 4, none⟩ = some xs[4] := by rw [hb3x.cell 4, List.getElem?_eq_getElem hxs]
  have y4f : w3.frozen? ⟨X, 4, none⟩ = false := hb3x.free 4
  have hl3 := hb3x.lt
  have HF := hide (unhide HFIN w3 hb3)
  clear hb3 hb3x
  go_wp2
  go_ret
  exact unhide HF

theorem keeps_own {X M mb b n size : Nat} {p : Nat × Ms × List Sd} {sts : List St} {w w' : World} {xs ys : List Value} {v : Value} (hk : Keeps X M mb w w') (hX : Blk w X xs 75) (hR : RunAt w M mb p sts) (ho : w.ownsRow b 3 size v n ys) : w'.ownsRow b 3 size v n ys := by
  obtain ⟨as_, at_, cs, ct, D, ⟨ab, cb, m1, m2⟩, hoS, hoT, hown, hmap, hmbM⟩ := hR
  refine own_same ho (fun k hk2 => hk.block k (ho.lt k hk2).2 (fun e => hX.ne_row ho (by decide) (by rw [hk2, e])) (fun e => m1.ne_row ho (by decide) (by rw [hk2, e])) (fun e => ?_) (fun e => ?_))
  · obtain ⟨es, c, hes, _⟩ := hown
    exact map_ne_row hes ho (by rw [hk2, e])
  · unfold rowOf at e
    rw [show w.cell? ⟨M, 31, none⟩ = some (.slice at_ sts.length ct) from m1.cell 31] at e
    rcases hoT.2 with ⟨hv, _⟩ | ⟨g, cap', cur, hv, _, hh, _⟩
    · rw [hv] at e; cases e
    · rw [hv] at e
      simp only [Option.bind_some, Value.ownBlock, Option.some.injEq] at e
      subst e
      rcases ho.2 with ⟨hv2, _⟩ | ⟨g2, cap2, cur2, hv2, _, hh2, _⟩
      · rw [hv2] at hk2; cases hk2
      · rw [hv2] at hk2
        simp only [Value.ownBlock, Option.some.injEq] at hk2
        subst hk2
        rw [hh] at hh2
        simp at hh2
/-- What End tells ahead of the text's length. -/
def endCuts (l : List Cu.Ln) (T : List UInt8) : List Nat := Cu.cutsFrom l (Cu.chars T) (Cu.doneN T) ((Cu.chars T).length - Cu.doneN T)
theorem done_le (T : List UInt8) : Cu.doneN T ≤ (Cu.chars T).length := by
  obtain ⟨r, hr⟩ := Cu.sChars_pre T
  rw [hr, List.length_append]
  unfold Cu.doneN
  omega
theorem endCuts_all {l : List Cu.Ln} (hl : ∀ x ∈ l, x.right.length ≤ 2) (T : List UInt8) : Cu.endP l T (Cu.told l T).length = endCuts l T ++ (if 0 < T.length then [T.length] else []) := by
  have h := Cu.told_at hl T []
  rw [List.append_nil] at h
  have h2 := Cu.cutsFrom_all l (Cu.chars T) (Cu.doneN T) ((Cu.chars T).length - Cu.doneN T)
  rw [← h, show Cu.doneN T + ((Cu.chars T).length - Cu.doneN T) = (Cu.chars T).length by have := done_le T; omega] at h2
  unfold Cu.endP Cu.cutsR endCuts
  rw [← h2, List.append_assoc, List.drop_left']
  rfl

section
variable {N : Nat} {w : World} {base X : Nat} {l : List Cu.Ln} {T : ByteArray} {F : Nat → Prop} {B M mb j K : Nat} {nm : Nat → Bool} {its : List KItem} {rs : List PLn} {sts : List St} {s : St}
/-- Behind End's pass. -/
theorem end_done (h : PSat N w base X l T F B M mb j K nm its rs sts s) (W : ByteArray) (hW : W = T.extract (Cu.lastP T.data.toList) T.size) (W' w2 : World) (hb' : Below w.heap.size w W') (e : Ending) (hr : SRes X B M mb K (Cu.doneN T.data.toList) (Cu.lastP T.data.toList) W.size nm its rs l (T.extract (Cu.lastP T.data.toList) T.size) W (Cu.chars T.data.toList) W' e w2) :
    ∃ (ao : Option Addr) (cap j' : Nat), e = .returned (.slice ao (endCuts l T.data.toList).length cap) ∧ w2.ownsRow w.heap.size 3 1 (.slice ao (endCuts l T.data.toList).length cap) (endCuts l T.data.toList).length (intCells (endCuts l T.data.toList)) ∧ SAt X B M mb K (Cu.chars T.data.toList).length nm its rs (Cu.chars T.data.toList) w T.size (T.extract (Cu.lastP T.data.toList) T.size) j' w2 := by
  obtain ⟨ao, cap, j', i, f, lw, hch, hti, hfi, hall, rfl, ho, hs⟩ := hr
  have hla := Cu.lastP_le T.data.toList
  rw [len_toList] at hla
  have hwz : W.size = T.size - Cu.lastP T.data.toList := by rw [hW]; simp
  have e0 : Cu.charsGo W.data.toList f i = [] := Cu.charsGo_end (by rw [len_toList]; omega)
  rw [e0, List.append_nil] at hch
  have hwin := (Cu.window (T := T.data.toList) (u := [])).1
  rw [List.append_nil, ← ext_toList, ← hW] at hwin
  have hlen : lw.length = (Cu.chars T.data.toList).length - Cu.doneN T.data.toList := by
    have := congrArg List.length hwin
    rw [List.length_map, List.length_drop, ← hch] at this
    exact this
  rw [hlen] at ho hs ⊢
  rw [show Cu.doneN T.data.toList + ((Cu.chars T.data.toList).length - Cu.doneN T.data.toList) = (Cu.chars T.data.toList).length by have := done_le T.data.toList; omega, show Cu.lastP T.data.toList + W.size = T.size by omega] at hs
  exact ⟨ao, cap, j', rfl, own_base ho hb'.size, hs.base hb' h.run.lt.1⟩
/-- Behind begin. -/
theorem end_back (h : PSat N w base X l T F B M mb j K nm its rs sts s) {W3 w4 : World} {out : List Nat} {ao : Option Addr} {cap j' j2 a : Nat} {r : ByteArray} {cs : List Cu.Chr} (ho : W3.ownsRow w.heap.size 3 1 (.slice ao out.length cap) out.length (intCells out)) (hs : SAt X B M mb K (Cu.chars T.data.toList).length nm its rs cs w a r j' W3) (hb : SAt X B M mb (K + (Cu.chars T.data.toList).length + 1) 0 nm its rs [] W3 0 ⟨#[]⟩ j2 w4) :
    PRes (PS (N + 1)) out base X l ⟨#[]⟩ F w (.returned (.slice ao out.length cap)) w4 := by
  obtain ⟨sts3, s3, hR3, _⟩ := hs.run
  have ho4 := keeps_own hb.keep hs.blk hR3 ho
  have hcl := chars_len T
  have hroom := h.room
  refine ps_back (T' := ⟨#[]⟩) h ho4 ⟨hb.blk, hb.book, hb.run, hs.keep.trans hb.keep⟩ rfl rfl ?_
  show K + (Cu.chars T.data.toList).length + 1 + 0 ≤ N + 1 + 2
  omega
end

set_option maxRecDepth 100000 in
set_option maxHeartbeats 2000000 in
theorem pfin_any {N : Nat} {w : World} {base X : Nat} {l : List Cu.Ln} {T : ByteArray} {F : Nat → Prop} (h : PS N w base X l T F) (hE : Env w) (hb : 4 < base) (hsz : T.size ≤ 1048576) (hN : N ≤ 2097160) :
    Calls Tryz.prog 20 #[.pointer (some ⟨X, 0, none⟩)] w fun e w' => PRes (PS (N + 1)) (Cu.endP l T.data.toList (Cu.told l T.data.toList).length) base X l ⟨#[]⟩ F w e w' := by
  obtain ⟨i0, ki, kz0, kz1, kz2⟩ := info_parts Tryz.info3
  obtain ⟨B, M, mb, j, K, nm, its, rs, sts, s, h⟩ := h
  have hcl := chars_len T
  have hroom := h.room
  have c4 : w.cell? ⟨X, 4, none⟩ = some (.string (T.extract (Cu.lastP T.data.toList) T.size)) := h.blk.cell 4
  have hXl := h.blk.lt
  have hMl := h.run.lt.1
  have HIS := hide (isOpen_any X B M j _ _ w h.blk)
  have hnil : T ++ (⟨#[]⟩ : ByteArray) = T := by apply ByteArray.ext; apply Array.ext'; simp
  have hnl : (⟨#[]⟩ : ByteArray).data.toList = [] := rfl
  have hnz : (⟨#[]⟩ : ByteArray).size = 0 := rfl
  have HPASS : Hid (∀ W', Below w.heap.size w W' → Calls Tryz.prog 33 #[.pointer (some ⟨X, 0, none⟩), .string (T.extract (Cu.lastP T.data.toList) T.size), .int .i64 (T.extract (Cu.lastP T.data.toList) T.size).size] W' fun e w2 => ∃ (ao : Option Addr) (cap j' : Nat), e = .returned (.slice ao (endCuts l T.data.toList).length cap) ∧ w2.ownsRow w.heap.size 3 1 (.slice ao (endCuts l T.data.toList).length cap) (endCuts l T.data.toList).length (intCells (endCuts l T.data.toList)) ∧ SAt X B M mb K (Cu.chars T.data.toList).length nm its rs (Cu.chars T.data.toList) w T.size (T.extract (Cu.lastP T.data.toList) T.size) j' w2) := hide (fun W' hb' => by
    have h1 := ps_pass h hE hb ⟨#[]⟩ (T.extract (Cu.lastP T.data.toList) T.size) _ (by rw [hnz]; omega) hN (by rw [hnil]) (Nat.le_refl _) W' hb'
    rw [hnl, List.append_nil] at h1
    exact h1.mono fun e w2 hr => end_done h _ rfl W' w2 hb' e hr)
  have hall := endCuts_all h.ok.two T.data.toList
  rw [len_toList] at hall
  have HBACK := hide (fun (W3 w4 : World) (out : List Nat) (ao : Option Addr) (cap j' j2 a : Nat) (r : ByteArray) (cs : List Cu.Chr) => end_back (W3 := W3) (w4 := w4) (out := out) (ao := ao) (cap := cap) (j' := j') (j2 := j2) (a := a) (r := r) (cs := cs) h)
  have hp := macOk h.ok.rules
  have HBEG := hide (fun (W3 : World) (a j' : Nat) (r : ByteArray) (cs : List Cu.Chr) (hs : SAt X B M mb K (Cu.chars T.data.toList).length nm its rs cs w a r j' W3) => by
    obtain ⟨sts3, s3, hR3, hG3, hl3, _⟩ := hs.run
    exact begin_any X B M mb j' a (K + (Cu.chars T.data.toList).length + 1) nm its rs sts3 r W3 hs.blk hs.book hp hR3 hG3 (by omega) (by omega))
  generalize T.extract (Cu.lastP T.data.toList) T.size = r at *
  have hel := Cu.cutsFrom_len l (Cu.chars T.data.toList) (Cu.doneN T.data.toList) ((Cu.chars T.data.toList).length - Cu.doneN T.data.toList)
  have hdl := done_le T.data.toList
  have hel2 : (endCuts l T.data.toList).length ≤ 1048576 := by unfold endCuts; omega
  generalize endCuts l T.data.toList = out1 at *
  generalize Cu.endP l T.data.toList (Cu.told l T.data.toList).length = out at *
  have HOUT := hide hall
  clear h hE hall hel hp
  go_enter Tryz.func20, Tryz.ntmps20
  go_wp2_with (go_at_call 31; refine (unhide HIS).mono ?_; rintro e w' ⟨rfl, rfl⟩)
  go_upto_region 3 with fail
  go_cut [3] (fun v wc => ∃ (ao : Option Addr) (cap j' : Nat), v = .slice ao out1.length cap ∧ wc.ownsRow w.heap.size 3 1 (.slice ao out1.length cap) out1.length (intCells out1) ∧ SAt X B M mb K (Cu.chars T.data.toList).length nm its rs (Cu.chars T.data.toList) w T.size r j' wc)
  case first =>
    go_region_with (go_at_call 33; refine (unhide HPASS _ ((Below.refl _ _).drew)).mono ?_; rintro e w2 ⟨ao, cap, j', rfl, hoo⟩; have HOO := hide hoo; clear hoo)
    all_goals
      go_wp2_with fail
      go_meet
      case rel => exact ⟨ao, cap, j', rfl, unhide HOO⟩
  case rest =>
    obtain ⟨ao, cap, j', rfl, hoo, hsat⟩ := hcut
    have z3 : wc.cell? ⟨X, 3, none⟩ = some (.int .i64 T.size) := hsat.blk.cell 3
    have hXc := hsat.blk.lt
    have hsz3 := hsat.keep.size
    by_cases h0 : 0 < T.size
    · rw [if_pos h0] at HOUT
      have h0I : (0 : Int) < (T.size : Int) := by omega
      have hcap : (out1.length + 1) * 8 ≤ 140737488355328 := by omega
      have hmax : out1.length + 1 ≤ maxLen := by unfold maxLen; omega
      have HOO := hide hoo
      have HSAT := hide hsat
      have hXn : X ≠ wc.heap.size := by omega
      clear hoo hsat
      go_wp2_with (at_builtin; refine wpList_append_own _ rfl (.tmp 23) (.tmp 28) 30 rfl w.heap.size 3 i0 (.int .i64 0) 1 8 Tryz.underlying30 ki kz0 kz1 kz2 rfl (by decide) (.slice ao out1.length cap) out1.length (intCells out1) rfl ((unhide HOO).alloc _) ⟨wc.heap.size, 0, none⟩ 1 1 [.int .i64 T.size] rfl rfl (news_new _ _ rfl _ _) (one1 _) hmax hcap (by simp; omega) ?_; intro v' w4 hown' hgrow _; refine Hid.out ?_)
      refine hide ?_
      obtain ⟨a', cap', hv'⟩ := own_form hown'
      subst hv'
      have hl2 : (out1 ++ [T.size]).length = out1.length + 1 := by simp
      have hal := (unhide HSAT).below ((Below.refl _ _).alloc (Nat.le_refl _) (.cells #[.int .i64 T.size] 3))
      have hs4 : SAt X B M mb K (Cu.chars T.data.toList).length nm its rs (Cu.chars T.data.toList) w T.size r j' w4 := by
        obtain ⟨sts4, s4, hR4, h5⟩ := hal.run
        exact ⟨hal.blk.grown hgrow (hal.blk.ne_row ((unhide HOO).alloc _) (by decide)), book_grown hal.book ((unhide HOO).alloc _) hgrow, ⟨sts4, s4, run_grown hR4 ((unhide HOO).alloc _) hgrow, h5⟩, hal.keep.grown ((unhide HOO).alloc _) hgrow hMl⟩
      have ho4 : w4.ownsRow w.heap.size 3 1 (.slice a' (out1 ++ [T.size]).length cap') (out1 ++ [T.size]).length (intCells (out1 ++ [T.size])) := by rw [hl2, intCells_snoc]; exact hown'
      have HB4 := hide ((unhide HBEG w4 _ _ _ _ hs4).mono fun e w5 hr => (⟨hr.1, by obtain ⟨j2, h9⟩ := hr.2; exact unhide HBACK w4 w5 _ a' cap' _ j2 _ _ _ ho4 hs4 h9⟩ : e = .returned (.tuple #[]) ∧ PRes (PS (N + 1)) (out1 ++ [T.size]) base X l ⟨#[]⟩ F w (.returned (.slice a' (out1 ++ [T.size]).length cap')) w5))
      rw [hl2] at HB4
      clear hown' hgrow hal hs4 ho4
      go_wp2_with fail
      go_at_call 28
      refine (unhide HB4).mono ?_
      rintro e w5 ⟨rfl, hr⟩
      have HR := hide hr
      clear hr
      go_wp2
      go_ret
      rw [unhide HOUT]
      exact unhide HR
    · rw [if_neg h0, List.append_nil] at HOUT
      have h0I : ¬ (0 : Int) < (T.size : Int) := by omega
      have hT0 : T.size = 0 := by omega
      have HB4 := hide ((unhide HBEG wc _ _ _ _ hsat).mono fun e w5 hr => (⟨hr.1, by obtain ⟨j2, h9⟩ := hr.2; exact unhide HBACK wc w5 _ ao cap _ j2 _ _ _ hoo hsat h9⟩ : e = .returned (.tuple #[]) ∧ PRes (PS (N + 1)) out1 base X l ⟨#[]⟩ F w (.returned (.slice ao out1.length cap)) w5))
      clear hoo hsat
      go_wp2_with fail
      go_at_call 28
      refine (unhide HB4).mono ?_
      rintro e w5 ⟨rfl, hr⟩
      have HR := hide hr
      clear hr
      go_wp2
      go_ret
      rw [unhide HOUT]
      exact unhide HR
end Go.Proofs.YtbppbejigedioabGreatDoor
/- The program's streams: Open. -/
namespace Go.Proofs.YtbppbejigedioabGreatDoor
open Go.RowKit Go.Maps

theorem book_slices {nm : Nat → Bool} {vi vr v : Value} {rt : Nat → Nat} {i k : Nat} (h : (bookCells nm vi vr rt)[i]? = some v) (hv : v.ownBlock = some k) : v = vi ∨ v = vr := by
  by_cases h26 : i < 26
  · rw [bookCells_get _ _ _ _ _ h26] at h
    simp only [Option.some.injEq] at h
    subst h
    cases hv
  · by_cases h28 : i < 28
    · have h2 : i = 26 ∨ i = 27 := by omega
      rcases h2 with rfl | rfl
      · exact Or.inl (Option.some.inj h).symm
      · exact Or.inr (Option.some.inj h).symm
    · unfold bookCells at h
      rw [List.getElem?_append_right (show 28 ≤ i by omega)] at h
      unfold rtCells at h
      obtain ⟨q, _, rfl⟩ := List.mem_map.1 (List.mem_of_getElem? h)
      cases hv
theorem mac_slices {fi : Nat} {vb vs vm vt v : Value} {mt : Nat → Nat} {i k : Nat} (h : (macCells fi vb mt vs vm vt)[i]? = some v) (hv : v.ownBlock = some k) : v = vb ∨ v = vs ∨ v = vm ∨ v = vt := by
  have hm := List.mem_of_getElem? h
  unfold macCells at hm
  rcases List.mem_append.1 hm with h1 | h1
  · rcases List.mem_append.1 h1 with h2 | h2
    · simp only [List.mem_cons, List.not_mem_nil, or_false] at h2
      rcases h2 with rfl | rfl
      · cases hv
      · exact Or.inl rfl
    · obtain ⟨q, _, rfl⟩ := List.mem_map.1 h2
      cases hv
  · simp only [List.mem_cons, List.not_mem_nil, or_false] at h1
    exact Or.inr h1
theorem book_in {w : World} {lo B : Nat} {nm : Nat → Bool} {its : List KItem} {rs : List PLn} (h : BookAt w B nm its rs) (hB : lo ≤ B) : SlIn (fun k => lo ≤ k ∧ k < w.heap.size) w B := by
  obtain ⟨ai, ar, ci, cr, h1, h2, h3⟩ := h
  intro i k v hc hv
  rw [h1.cell] at hc
  rcases book_slices hc hv with rfl | rfl
  · have := h2.lt k hv
    exact ⟨by omega, this.2⟩
  · have := h3.lt k hv
    exact ⟨by omega, this.2⟩
theorem mac_in {w : World} {lo M mb : Nat} {p : Nat × Ms × List Sd} {sts : List St} (h : RunAt w M mb p sts) (hB : lo ≤ mb) : SlIn (fun k => lo ≤ k ∧ k < w.heap.size) w M := by
  obtain ⟨as_, at_, cs, ct, D, ⟨ab, cb, m1, m2⟩, hoS, hoT, hown, hmap, hlt⟩ := h
  intro i k v hc hv
  rw [m1.cell] at hc
  rcases mac_slices hc hv with rfl | rfl | rfl | rfl
  · have := m2.lt k hv
    exact ⟨by omega, this.2⟩
  · have := hoS.lt k hv
    exact ⟨by omega, this.2⟩
  · cases hv
  · have := hoT.lt k hv
    exact ⟨by omega, this.2⟩
/-- Behind begin of a stream that was made just now. -/
theorem open_back {f : ByteArray} {w w3 w4 : World} {X B M mb j p : Nat} {nm : Nat → Bool} {its : List KItem} {lns : List Cu.Ln} {L : List PLn} {sts : List St} (hrd : Cu.readGo f.data.toList 12 0 [] = (true, p, lns)) (hok : BookOk lns its (rulesOf L)) (hb : Below w.heap.size w w3) (hB : w.heap.size ≤ B) (hmb : w.heap.size ≤ mb) (hX : w.heap.size ≤ X) (hR3 : RunAt w3 M mb (newP (rulesOf L)) sts) (hs : SAt X B M mb 2 0 nm its (rulesOf L) [] w3 0 ⟨#[]⟩ j w4) (hc : (Cu.check f.data.toList).1 = 0) :
    POpen (PS 0) f w (.returned (.tuple #[.pointer (some ⟨X, 0, none⟩), .int .i64 0, .int .i64 0])) w4 := by
  obtain ⟨sts4, s4, hR, hG, hlen, hj1, hjs, hmet⟩ := hs.run
  have hRl := hR.lt
  have hXl := hs.blk.lt
  have hBl := hs.book.lt
  have hsz := hs.keep.size
  refine Or.inr ⟨hc, X, fun k => w.heap.size ≤ k ∧ k < w4.heap.size, rfl, ?_, ?_⟩
  · rw [hrd]
    exact ⟨B, M, mb, j, 2, nm, its, rulesOf L, sts4, s4, ⟨hs.blk, hs.book, hok, hR, hG, hlen, Nat.le_refl _, hj1, hjs, hmet, ⟨hX, hXl⟩, ⟨hB, hBl⟩, ⟨by omega, hRl.1⟩, ⟨hmb, by omega⟩, book_in hs.book hB, mac_in hR hmb, fun k hk => hk⟩⟩
  · refine ⟨hs.keep.os.trans hb.os, hs.keep.tape.trans hb.tape, hs.keep.output.trans hb.output, Nat.le_trans hb.size hsz, fun k hk => ?_⟩
    have hbs := hb.size
    have h3l := hR3.lt
    rw [hs.keep.block k (by omega) (by omega) (by omega) (by omega) (fun e => ?_)]
    · exact hb.block k hk
    · obtain ⟨as_, at_, cs, ct, D, ⟨ab, cb, m1, m2⟩, hoS, hoT, _⟩ := hR3
      unfold rowOf at e
      rw [show w3.cell? ⟨M, 31, none⟩ = some (.slice at_ sts.length ct) from m1.cell 31] at e
      have := (hoT.lt k e).1
      omega

set_option maxRecDepth 100000 in
set_option maxHeartbeats 2000000 in
theorem popen_any : Opens PS := by
  intro f w hf hE
  have hw3 := hE.2.2.2
  have hg := hE.2.2.1
  have hT := hE.1
  clear hE
  go_enter Tryz.func10, Tryz.ntmps10
  go_wp2_with fail
  refine (readBook_full f _ hf hT (by omega)).mono ?_
  rintro e w1 (⟨c, p, hc, hc0, rfl, hb⟩ | ⟨B, hc, rfl, hbook, hb⟩)
  · have hg1 : ErrT w1 := by unfold ErrT; rw [cell_below hb (by show 0 < w.heap.size; omega)]; exact hg
    have HB := hide hb
    have HG := hide hg1
    have hout : Hid (∀ w', Below w.heap.size w w' → POpen (PS 0) f w (.returned (.tuple #[.pointer none, .int .i64 (c : Int), .int .i64 (p : Int)])) w') := hide (fun w' hw' => Or.inl ⟨by rw [hc]; exact hc0, by rw [hc], hw'⟩)
    clear hc hb hg1 hg hT hc0
    unfold brokenV
    go_wp2_with fail
    refine (told_hit (c : Int) (p : Int) w1 (unhide HG)).mono ?_
    rintro e w2 ⟨rfl, hb2⟩
    have HB2 := hide (unhide hout w2 (below_two hb2 (unhide HB)))
    clear hb2
    go_wp2
    go_ret3
    exact unhide HB2
  · have hsz : f.size ≤ 200 := (check_ok (show (Cu.check f.data.toList).1 = 0 by rw [hc])).1
    obtain ⟨p, lns, L, nm, its, hrd, hL, hperm, hri, htd, hlen, hBk, hPL, hBb⟩ := hbook
    have hrules := rules_ok hsz hrd hL
    have h2R := readGo_r2 f.data.toList 12 0 [] (fun x hx => by simp at hx)
    rw [hrd] at h2R
    have hok : BookOk lns its (rulesOf L) := ⟨hrules, book_letter hrd hperm htd, sep_of hperm hri htd, hlen, h2R⟩
    obtain ⟨ai, ar, ci, cr, hB1, hB2, hB3⟩ := id hBk
    have b27 : w1.cell? ⟨B, 27, none⟩ = some (.slice ar (rulesOf L).length cr) := hB1.cell 27
    have hBlt := hB1.lt
    have hs1 := hb.size
    have HNEW := hide (newMachine_any (rulesOf L) ar cr B w1 hB3 hrules.n12 hrules.l4)
    have HB := hide hb
    have HBK := hide hBk
    have HOK := hide hok
    have HRD := hide hrd
    have HMAC := hide (macOk hrules)
    have HC : Hid ((Cu.check f.data.toList).1 = 0) := hide (by rw [hc])
    clear hc hb hg hT hrd hL hperm hri htd hBk hPL hB1 hB2 hB3 hrules hok h2R
    go_wp2_with fail
    refine (unhide HNEW).mono ?_
    rintro e w2 ⟨rfl, hsd, hmp, hst, hb2⟩
    have hs2 := hb2.size
    have hR2 := run_start hsd hmp hst (by omega)
    have hal : Below w2.heap.size w2 (w2.alloc (.cells #[.pointer (some ⟨B, 0, none⟩), .pointer (some ⟨w1.heap.size + 2, 0, none⟩), .int .i64 0, .int .i64 0, .string ⟨#[]⟩] 75)) := (Below.refl _ _).alloc (Nat.le_refl _) _
    have hR3 := hR2.below hal
    have hbx : Blk (w2.alloc (.cells #[.pointer (some ⟨B, 0, none⟩), .pointer (some ⟨w1.heap.size + 2, 0, none⟩), .int .i64 0, .int .i64 0, .string ⟨#[]⟩] 75)) w2.heap.size (strCells B (w1.heap.size + 2) 0 0 ⟨#[]⟩) 75 := Blk.new w2 _ _
    have hbk3 := ((unhide HBK).below hb2).below hal
    have hb3 := below_two hal (below_two hb2 (unhide HB))
    have HBEG := hide ((begin_any w2.heap.size B (w1.heap.size + 2) w1.heap.size 0 0 2 nm its (rulesOf L) [(0, 0, fun _ => 0)] ⟨#[]⟩ _ hbx hbk3 (unhide HMAC) hR3 (good_start _) (by simp) (by omega)).mono fun e w4 hr => (⟨hr.1, by obtain ⟨j, h9⟩ := hr.2; exact open_back (unhide HRD) (unhide HOK) hb3 hBb (by omega) (by omega) hR3 h9 (unhide HC)⟩ : e = .returned (.tuple #[]) ∧ POpen (PS 0) f w (.returned (.tuple #[.pointer (some ⟨w2.heap.size, 0, none⟩), .int .i64 0, .int .i64 0])) w4))
    clear hsd hmp hst hb2 hR2 hal hR3 hbx hbk3 hb3
    go_wp2_with fail
    go_at_call 28
    refine (unhide HBEG).mono ?_
    rintro e w4 ⟨rfl, hr⟩
    have HR := hide hr
    clear hr
    go_wp2
    go_ret3
    exact unhide HR

theorem ps_streamy : Streamy PS := ⟨ps_firm, fun b h hE hb h1 h2 => pfeed_any b h hE hb h1 h2, fun h hE hb h1 h2 => pfin_any h hE hb h1 h2⟩
end Go.Proofs.YtbppbejigedioabGreatDoor
