/- The program's stream in memory. -/
import Derived.Test.YtbppbejigedioabGreatDoorStAsk
import Derived.Test.YtbppbejigedioabGreatDoorPlainW
import Derived.Test.YtbppbejigedioabGreatDoorMacN
namespace Go.Proofs.YtbppbejigedioabGreatDoor
open Go.RowKit Go.Maps

/-- What a call of the stream at X changes of what is old: the stream's block, its machine's, its map, its states' row; that row stays, or it is a new one. -/
structure Keeps (X M mb : Nat) (w w' : World) : Prop where
  os : w'.os = w.os
  tape : w'.tape = w.tape
  output : w'.output = w.output
  size : w.heap.size ≤ w'.heap.size
  block : ∀ k, k < w.heap.size → k ≠ X → k ≠ M → k ≠ mb → rowOf w M ≠ some k → w'.heap[k]? = w.heap[k]?
  row : ∀ k, rowOf w' M = some k → rowOf w M = some k ∨ w.heap.size ≤ k
  cells : ∀ j, j < 31 → w'.cell? ⟨M, j, none⟩ = w.cell? ⟨M, j, none⟩
theorem Keeps.frm {X M mb : Nat} {w w' : World} (h : FrmR M mb w w') : Keeps X M mb w w' := ⟨h.1.os, h.1.tape, h.1.output, h.1.size, fun k hk _ h1 h2 h3 => h.2.2.1 k hk h1 h2 h3, h.2.2.2.1, h.2.2.2.2⟩
theorem Keeps.of {X M mb : Nat} {w w' : World} (h : Below w.heap.size w w') (hM : M < w.heap.size) : Keeps X M mb w w' := ⟨h.os, h.tape, h.output, h.size, fun k hk _ _ _ _ => h.block k hk, (Turns.of (mb := mb) h hM).2.1, (Turns.of (mb := mb) h hM).2.2⟩
theorem Keeps.trans {X M mb : Nat} {a b c : World} (h : Keeps X M mb a b) (k : Keeps X M mb b c) : Keeps X M mb a c := by
  refine ⟨k.os.trans h.os, k.tape.trans h.tape, k.output.trans h.output, Nat.le_trans h.size k.size, fun i hi h0 h1 h2 h3 => ?_, fun i hi => ?_, fun j hj => (k.cells j hj).trans (h.cells j hj)⟩
  · have hs := h.size
    rw [k.block i (by omega) h0 h1 h2 (fun e => ?_)]
    · exact h.block i hi h0 h1 h2 h3
    · rcases h.row i e with h4 | h4
      · exact h3 h4
      · omega
  · rcases k.row i hi with h4 | h4
    · exact h.row i h4
    · exact Or.inr (Nat.le_trans h.size h4)
theorem Keeps.set {X M mb j : Nat} {w : World} {u : Value} (hne : M ≠ X) : Keeps X M mb w (w.setCell ⟨X, j, none⟩ u) := by
  refine ⟨rfl, rfl, rfl, by simp [World.setCell], fun k _ h0 _ _ _ => Below.heap_setCell _ _ _ _ h0, fun k hk => Or.inl ?_, fun i _ => World.cell?_of_block (a := ⟨M, i, none⟩) (Below.heap_setCell _ _ _ _ hne)⟩
  rw [← rowOf_same (w' := w.setCell ⟨X, j, none⟩ u) (Below.heap_setCell _ _ _ _ hne)]
  exact hk
/-- An int row of the call's own grows. -/
theorem Keeps.grown {X M mb n c : Nat} {w W w3 : World} {a : Option Addr} {xs : List Value} (h : Keeps X M mb w W) (ho : W.ownsRow w.heap.size 3 1 (.slice a n c) n xs) (hg : W.grownBy w3 (Value.slice a n c).ownBlock) (hM : M < w.heap.size) : Keeps X M mb w w3 := by
  have hs := h.size
  have hlow : ∀ k, k < w.heap.size → some k ≠ (Value.slice a n c).ownBlock := fun k hk e => by have := (ho.lt k e.symm).1; omega
  refine ⟨hg.os.trans h.os, hg.tape.trans h.tape, hg.output.trans h.output, Nat.le_trans hs hg.size, fun k hk h0 h1 h2 h3 => ?_, fun k hk => ?_, fun j hj => (World.cell?_of_block (a := ⟨M, j, none⟩) (hg.block M (by omega) (hlow M hM))).trans (h.cells j hj)⟩
  · rw [hg.block k (by omega) (hlow k hk)]
    exact h.block k hk h0 h1 h2 h3
  · rw [rowOf_same (hg.block M (by omega) (hlow M hM))] at hk
    exact h.row k hk

/-- Two blocks of other types are two blocks. -/
theorem Blk.ne {w : World} {a b : Nat} {xs ys : List Value} {s t : TypeId} (h : Blk w a xs s) (k : Blk w b ys t) (hne : s ≠ t) : a ≠ b := by
  intro e
  subst e
  unfold Blk at h k
  rw [h] at k
  simp at k
  exact hne k.2
theorem map_ne {w : World} {mb b : Nat} {xs : List Value} {t : TypeId} {es : Array MapEntry} {c : Nat} (hm : w.heap[mb]? = some (.map es c)) (h : Blk w b xs t) : mb ≠ b := by
  intro e
  subst e
  unfold Blk at h
  rw [hm] at h
  simp at h
theorem run_set {w : World} {X M mb j : Nat} {p : Nat × Ms × List Sd} {sts : List St} {xs : List Value} {u : Value} (h : RunAt w M mb p sts) (hX : Blk w X xs 75) : RunAt (w.setCell ⟨X, j, none⟩ u) M mb p sts := by
  obtain ⟨as_, at_, cs, ct, D, ⟨ab, cb, m1, m2⟩, hoS, hoT, hown, hmap, hmb⟩ := h
  have hne : mb ≠ X := by
    obtain ⟨es, c, hes, _⟩ := hown
    exact map_ne hes hX
  exact ⟨as_, at_, cs, ct, D, ⟨ab, cb, m1.setOther _ _ (hX.ne m1 (by decide)), own_set_ne m2 _ _ (hX.ne_row m2 (by decide))⟩, own_set_ne hoS _ _ (hX.ne_row hoS (by decide)), own_set_ne hoT _ _ (hX.ne_row hoT (by decide)), hown.setCell hne _, hmap, hmb⟩
theorem book_set {w : World} {X B j : Nat} {nm : Nat → Bool} {its : List KItem} {rs : List PLn} {xs : List Value} {u : Value} (h : BookAt w B nm its rs) (hX : Blk w X xs 75) : BookAt (w.setCell ⟨X, j, none⟩ u) B nm its rs := by
  obtain ⟨ai, ar, ci, cr, h1, h2, h3⟩ := h
  exact ⟨ai, ar, ci, cr, h1.setOther _ _ (hX.ne h1 (by decide)), own_set_ne h2 _ _ (hX.ne_row h2 (by decide)), own_set_ne h3 _ _ (hX.ne_row h3 (by decide))⟩
theorem book_frm {w w' : World} {M mb B : Nat} {nm : Nat → Bool} {its : List KItem} {rs : List PLn} (h : BookAt w B nm its rs) (hf : FrmR M mb w w') : BookAt w' B nm its rs := by
  obtain ⟨ai, ar, ci, cr, h1, h2, h3⟩ := h
  exact ⟨ai, ar, ci, cr, hf.blk h1 (by decide) (by decide), hf.own h2 (by decide) (by decide), hf.own h3 (by decide) (by decide)⟩
theorem run_grown {p : Nat × Ms × List Sd} {sts : List St} {M mb b n c : Nat} {W w3 : World} {a : Option Addr} {xs : List Value} (h : RunAt W M mb p sts) (ho : W.ownsRow b 3 1 (.slice a n c) n xs) (hg : W.grownBy w3 (Value.slice a n c).ownBlock) : RunAt w3 M mb p sts := by
  obtain ⟨as_, at_, cs, ct, D, hMac, hoS, hoT, hown, hmap, hmbM⟩ := h
  have hne : some mb ≠ (Value.slice a n c).ownBlock := by
    obtain ⟨es, q, hes, _⟩ := hown
    exact map_ne_row hes ho
  exact ⟨as_, at_, cs, ct, D, hMac.grown ho hg (by decide) (by decide), own_grown' hoS ho hg (by decide), own_grown' hoT ho hg (by decide), hown.kept hg hne, hmap, hmbM⟩
theorem book_grown {B b n c : Nat} {nm : Nat → Bool} {its : List KItem} {rs : List PLn} {W w3 : World} {a : Option Addr} {xs : List Value} (h : BookAt W B nm its rs) (ho : W.ownsRow b 3 1 (.slice a n c) n xs) (hg : W.grownBy w3 (Value.slice a n c).ownBlock) : BookAt w3 B nm its rs := by
  obtain ⟨ai, ar, ci, cr, h1, h2, h3⟩ := h
  exact ⟨ai, ar, ci, cr, h1.grown hg (h1.ne_row ho (by decide)), own_grown' h2 ho hg (by decide), own_grown' h3 ho hg (by decide)⟩

/-- The slices that a block holds lie in F. -/
def SlIn (F : Nat → Prop) (w : World) (b : Nat) : Prop := ∀ (j k : Nat) (v : Value), w.cell? ⟨b, j, none⟩ = some v → v.ownBlock = some k → F k
theorem run_same {w w' : World} {M mb : Nat} {p : Nat × Ms × List Sd} {sts : List St} {F : Nat → Prop} (h : RunAt w M mb p sts) (hM : F M) (hmb : F mb) (hsl : SlIn F w M) (hF : ∀ k, F k → w'.heap[k]? = w.heap[k]?) : RunAt w' M mb p sts := by
  obtain ⟨as_, at_, cs, ct, D, ⟨ab, cb, m1, m2⟩, hoS, hoT, hown, hmap, hlt⟩ := h
  have hB : Blk w' M (macCells p.1 (.slice ab p.2.1.1.length cb) p.2.1.2 (.slice as_ p.2.2.length cs) (.map (some mb)) (.slice at_ sts.length ct)) 121 := by
    unfold Blk at m1 ⊢
    rw [hF M hM]
    exact m1
  refine ⟨as_, at_, cs, ct, D, ⟨ab, cb, hB, own_same m2 (fun k hk => hF k (hsl 1 k _ (m1.cell 1) hk))⟩, own_same hoS (fun k hk => hF k (hsl 29 k _ (m1.cell 29) hk)), own_same hoT (fun k hk => hF k (hsl 31 k _ (m1.cell 31) hk)), ?_, hmap, hlt⟩
  obtain ⟨es, c, hes, r⟩ := hown
  exact ⟨es, c, by rw [hF mb hmb]; exact hes, r⟩
theorem book_same {w w' : World} {B : Nat} {nm : Nat → Bool} {its : List KItem} {rs : List PLn} {F : Nat → Prop} (h : BookAt w B nm its rs) (hB : F B) (hsl : SlIn F w B) (hF : ∀ k, F k → w'.heap[k]? = w.heap[k]?) : BookAt w' B nm its rs := by
  obtain ⟨ai, ar, ci, cr, h1, h2, h3⟩ := h
  have hb1 : Blk w' B (bookCells nm (.slice ai its.length ci) (.slice ar rs.length cr) (rtOf rs)) 73 := by
    unfold Blk at h1 ⊢
    rw [hF B hB]
    exact h1
  exact ⟨ai, ar, ci, cr, hb1, own_same h2 (fun k hk => hF k (hsl 26 k _ (h1.cell 26) hk)), own_same h3 (fun k hk => hF k (hsl 27 k _ (h1.cell 27) hk))⟩
theorem SlIn.same {F : Nat → Prop} {w w' : World} {b : Nat} (h : SlIn F w b) (hb : w'.heap[b]? = w.heap[b]?) : SlIn F w' b := fun j k v hc hv => h j k v (by rw [← World.cell?_of_block (a := ⟨b, j, none⟩) hb]; exact hc) hv

/-- What is known of a file that is well, and of its book. -/
structure BookOk (l : List Cu.Ln) (its : List KItem) (rs : List PLn) : Prop where
  rules : RulesOk l rs
  letr : ∀ c, letter (symOf its c) = Cu.classOf l c ∧ 0 ≤ symOf its c ∧ symOf its c ≤ 26
  sep : Sep its
  len : its.length ≤ 2400
  two : ∀ x ∈ l, x.right.length ≤ 2
/-- The stream's own block. -/
abbrev strCells (B M j a : Nat) (r : ByteArray) : List Value := [.pointer (some ⟨B, 0, none⟩), .pointer (some ⟨M, 0, none⟩), .int .i64 j, .int .i64 a, .string r]
/-- The stream at X, to which T has come; N: how many bytes and Ends came to it, all in all. -/
structure PSat (N : Nat) (w : World) (base X : Nat) (l : List Cu.Ln) (T : ByteArray) (F : Nat → Prop) (B M mb j K : Nat) (nm : Nat → Bool) (its : List KItem) (rs : List PLn) (sts : List St) (s : St) : Prop where
  blk : Blk w X (strCells B M j (Cu.lastP T.data.toList) (T.extract (Cu.lastP T.data.toList) T.size)) 75
  book : BookAt w B nm its rs
  ok : BookOk l its rs
  run : RunAt w M mb (newP rs) sts
  good : Good (newP rs) sts
  len : sts.length ≤ K + Cu.doneN T.data.toList
  room : K + T.size ≤ N + 2
  j1 : 1 ≤ j
  js : sts[j]? = some s
  met : s.1 = runM rs (symsOf its ((Cu.sChars T.data.toList).take (Cu.doneN T.data.toList)))
  hX : F X
  hB : F B
  hM : F M
  hmb : F mb
  slB : SlIn F w B
  slM : SlIn F w M
  foot : ∀ k, F k → base ≤ k ∧ k < w.heap.size
def PS (N : Nat) : PSt := fun w base X l T F => ∃ (B M mb j K : Nat) (nm : Nat → Bool) (its : List KItem) (rs : List PLn) (sts : List St) (s : St), PSat N w base X l T F B M mb j K nm its rs sts s
theorem ps_firm (N : Nat) : Firm (PS N) := by
  refine ⟨?_, ?_, ?_⟩
  · rintro w base X l T F ⟨B, M, mb, j, K, nm, its, rs, sts, s, h⟩
    exact h.foot
  · rintro w w' base X l T F ⟨B, M, mb, j, K, nm, its, rs, sts, s, h⟩ hF
    have hlt : ∀ k, F k → k < w'.heap.size := fun k hk => by
      have h1 := hF k hk
      have h2 := (h.foot k hk).2
      rw [Array.getElem?_eq_getElem h2] at h1
      exact (Array.getElem?_eq_some_iff.1 h1).1
    have hb := h.blk
    exact ⟨B, M, mb, j, K, nm, its, rs, sts, s, ⟨by unfold Blk at hb ⊢; rw [hF X h.hX]; exact hb, book_same h.book h.hB h.slB hF, h.ok, run_same h.run h.hM h.hmb h.slM hF, h.good, h.len, h.room, h.j1, h.js, h.met, h.hX, h.hB, h.hM, h.hmb, h.slB.same (hF B h.hB), h.slM.same (hF M h.hM), fun k hk => ⟨(h.foot k hk).1, hlt k hk⟩⟩⟩
  · rintro w base X l T F ⟨B, M, mb, j, K, nm, its, rs, sts, s, h⟩
    exact h.ok.two
/-- Behind a call: the foot grows by the states' row alone. -/
theorem row_in {w : World} {M mb : Nat} {p : Nat × Ms × List Sd} {sts : List St} (h : RunAt w M mb p sts) {F : Nat → Prop} (hr : ∀ k, rowOf w M = some k → F k) (hold : ∀ (j k : Nat) (v : Value), j < 31 → w.cell? ⟨M, j, none⟩ = some v → v.ownBlock = some k → F k) : SlIn F w M := by
  obtain ⟨as_, at_, cs, ct, D, ⟨ab, cb, m1, m2⟩, _⟩ := h
  intro j k v hc hv
  by_cases h31 : j < 31
  · exact hold j k v h31 hc hv
  · have hj : j = 31 := by
      rw [m1.cell] at hc
      have := (List.getElem?_eq_some_iff.1 hc).1
      unfold macCells at this
      simp at this
      omega
    subst hj
    refine hr k ?_
    unfold rowOf
    rw [hc]
    exact hv
end Go.Proofs.YtbppbejigedioabGreatDoor
