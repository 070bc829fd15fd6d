/- The program's stream: isOpen, begin, Feed, End. -/
import Derived.Test.YtbppbejigedioabGreatDoorStStep
namespace Go.Proofs.YtbppbejigedioabGreatDoor
open Go.RowKit Go.Maps

set_option maxRecDepth 100000 in
set_option maxHeartbeats 400000 in
theorem isOpen_any (X B M j a : Nat) (r : ByteArray) (w : World) (hB : Blk w X (strCells B M j a r) 75) :
    Calls Tryz.prog 31 #[.pointer (some ⟨X, 0, none⟩)] w fun e w' => e = .returned (.bool true) ∧ w = w' := by
  have c0 : w.cell? ⟨X, 0, none⟩ = some (.pointer (some ⟨B, 0, none⟩)) := hB.cell 0
  have hl := hB.lt
  clear hB
  go_enter Tryz.func31, Tryz.ntmps31
  go_wp2
  go_ret
  exact ⟨rfl, rfl⟩

/-- What begin leaves. -/
def BeginRes (X B M mb K : Nat) (nm : Nat → Bool) (its : List KItem) (rs : List PLn) (w : World) (e : Ending) (w' : World) : Prop :=
  e = .returned (.tuple #[]) ∧ ∃ j : Nat, SAt X B M mb K 0 nm its rs [] w 0 ⟨#[]⟩ j w'
theorem begin_done {X B M mb j j2 a K : Nat} {nm : Nat → Bool} {its : List KItem} {rs : List PLn} {sts sts2 : List St} {s2 : St} {r : ByteArray} {w w1 : World} (hblk : Blk w X (strCells B M j a r) 75) (hbook : BookAt w B nm its rs) (hlen : sts.length + 1 ≤ K) (hR : RunAt w1 M mb (newP rs) sts2) (hG : Good (newP rs) sts2) (hgr : Grew sts sts2) (hf : FrmR M mb w w1) (hj1 : 1 ≤ j2) (hjs : sts2[j2]? = some s2) (hm : s2.1 = 0) :
    Blk w1 X (strCells B M j a r) 75 ∧ SAt X B M mb K 0 nm its rs [] w 0 ⟨#[]⟩ j2 (((w1.setCell ⟨X, 2, none⟩ (.int .i64 j2)).setCell ⟨X, 3, none⟩ (.int .i64 0)).setCell ⟨X, 4, none⟩ (.string ⟨#[]⟩)) := by
  have hb1 := hf.blk hblk (by decide) (by decide)
  obtain ⟨vb, hBM⟩ : ∃ vb, Blk w1 M vb 121 := by
    obtain ⟨as_, at_, cs_, ct, D, hMac, _⟩ := id hR
    obtain ⟨v, hv⟩ := hMac.blk
    exact ⟨_, hv⟩
  have h0 : SAt X B M mb K 0 nm its rs [] w a r j2 (w1.setCell ⟨X, 2, none⟩ (.int .i64 j2)) := ⟨hb1.setSame 2 _, book_set (book_frm hbook hf) hb1, ⟨sts2, s2, run_set hR hb1, hG, by have := hgr.2.1; omega, hj1, hjs, by rw [hm]; rfl⟩, (Keeps.frm hf).trans (Keeps.set (hBM.ne hb1 (by decide)))⟩
  exact ⟨hb1, (h0.setAt (a' := 0)).setRest⟩

set_option maxRecDepth 100000 in
set_option maxHeartbeats 1000000 in
theorem begin_any (X B M mb j a K : Nat) (nm : Nat → Bool) (its : List KItem) (rs : List PLn) (sts : List St) (r : ByteArray) (w : World) (hblk : Blk w X (strCells B M j a r) 75) (hbook : BookAt w B nm its rs) (hp : MacOk (newP rs)) (hrun : RunAt w M mb (newP rs) sts) (hgood : Good (newP rs) sts) (hlen : sts.length + 1 ≤ K) (hK : K ≤ 4194304) :
    Calls Tryz.prog 28 #[.pointer (some ⟨X, 0, none⟩)] w fun e w' => BeginRes X B M mb K nm its rs w e w' := by
  have c1 : w.cell? ⟨X, 1, none⟩ = some (.pointer (some ⟨M, 0, none⟩)) := hblk.cell 1
  have hl := hblk.lt
  have HST := hide (start_any M mb (newP rs) sts w hrun hgood hp (by omega))
  have HDONE := hide (fun (w1 : World) (sts2 : List St) (s2 : St) (j2 : Nat) => begin_done (w1 := w1) (sts2 := sts2) (s2 := s2) (j2 := j2) (mb := mb) hblk hbook hlen)
  clear hblk hbook hrun hgood hp
  go_enter Tryz.func28, Tryz.ntmps28
  go_wp2_with fail
  refine (unhide HST).mono ?_
  rintro e w1 ⟨j2, sts2, s2, rfl, hR, hG, hgr, hf, hj1, hjs, hm⟩
  obtain ⟨hb1, hfin⟩ := unhide HDONE w1 sts2 s2 j2 hR hG hgr hf hj1 hjs hm
  have y2 : w1.cell? ⟨X, 2, none⟩ = some (.int .i64 j) := hb1.cell 2
  have y3 : w1.cell? ⟨X, 3, none⟩ = some (.int .i64 a) := hb1.cell 3
  have y4 : w1.cell? ⟨X, 4, none⟩ = some (.string r) := hb1.cell 4
  have yf : ∀ i, w1.frozen? ⟨X, i, none⟩ = false := hb1.free
  have hl1 := hb1.lt
  have HF := hide hfin
  clear hR hG hgr hf hjs hm hb1 hfin
  go_wp2
  go_end0
  exact ⟨rfl, j2, unhide HF⟩

theorem ext_cat (T b : ByteArray) (a : Nat) (ha : a ≤ T.size) : T.extract a T.size ++ b = (T ++ b).extract a (T ++ b).size := by
  apply ByteArray.ext
  apply Array.ext'
  simp only [ByteArray.data_append, ByteArray.data_extract, Array.toList_append, Array.toList_extract, List.extract_eq_take_drop, ByteArray.size_append]
  rw [List.take_of_length_le (by rw [List.length_drop, len_toList]; omega), List.take_of_length_le (by rw [List.length_drop, List.length_append, len_toList, len_toList]; omega), List.drop_append_of_le_length (by rw [len_toList]; exact ha)]
theorem ext_ext (T : ByteArray) (a c : Nat) : (T.extract a T.size).extract c (T.extract a T.size).size = T.extract (a + c) T.size := by
  apply ByteArray.ext
  apply Array.ext'
  simp only [ByteArray.data_extract, Array.toList_extract, List.extract_eq_take_drop, ByteArray.size_extract]
  rw [List.take_of_length_le (by simp), List.take_of_length_le (by simp), List.take_of_length_le (by simp), List.drop_drop]
theorem PSat.env {N : Nat} {w : World} {base X : Nat} {l : List Cu.Ln} {T : ByteArray} {F : Nat → Prop} {B M mb j K : Nat} {nm : Nat → Bool} {its : List KItem} {rs : List PLn} {sts : List St} {s : St} (h : PSat N w base X l T F B M mb j K nm its rs sts s) (hb : 4 < base) : 4 < mb := by have := (h.foot mb h.hmb).1; omega
/-- From what pass leaves to the stream again. -/
theorem ps_back {N N' : Nat} {w w' : World} {base X : Nat} {l : List Cu.Ln} {T T' : ByteArray} {F : Nat → Prop} {B M mb j K : Nat} {nm : Nat → Bool} {its : List KItem} {rs : List PLn} {sts : List St} {s : St} {out : List Nat} {ao : Option Addr} {cap j' K' m : Nat} {cs : List Cu.Chr} (h : PSat N w base X l T F B M mb j K nm its rs sts s)
    (ho : w'.ownsRow w.heap.size 3 1 (.slice ao out.length cap) out.length (intCells out)) (hs : SAt X B M mb K' m nm its rs cs w (Cu.lastP T'.data.toList) (T'.extract (Cu.lastP T'.data.toList) T'.size) j' w') (hm : m = Cu.doneN T'.data.toList) (hcs : (symsOf its cs).take m = symsOf its ((Cu.sChars T'.data.toList).take m)) (hroom : K' + T'.size ≤ N' + 2) :
    PRes (PS N') out base X l T' F w (.returned (.slice ao out.length cap)) w' := by
  obtain ⟨sts', s', hR, hG, hlen, hj1, hjs, hmet⟩ := hs.run
  have hMl := h.run.lt
  have hbB := h.book
  obtain ⟨ai, ar, ci, cr, hB1, hB2, hB3⟩ := id hbB
  have hxb := h.blk
  obtain ⟨as_, at_, cs_, ct, D, ⟨ab, cb, m1, m2⟩, hoS, hoT, hown, hmap, hmbM⟩ := id h.run
  obtain ⟨es, ec, hes, _⟩ := id hown
  have hBne : w'.heap[B]? = w.heap[B]? := hs.keep.block B hB1.lt (hB1.ne hxb (by decide)) (hB1.ne m1 (by decide)) (fun e => map_ne hes hB1 e.symm) (fun e => by
    unfold rowOf at e
    rw [show w.cell? ⟨M, 31, none⟩ = some (.slice at_ sts.length ct) from m1.cell 31] at e
    exact hB1.ne_row hoT (by decide) e.symm)
  have hrowF : ∀ k, rowOf w M = some k → F k := fun k hk => by
    unfold rowOf at hk
    cases hc : w.cell? ⟨M, 31, none⟩ with
    | none => rw [hc] at hk; cases hk
    | some v => rw [hc] at hk; exact h.slM 31 k v hc hk
  have hsz := hs.keep.size
  refine ⟨ao, cap, fun k => F k ∨ rowOf w' M = some k, rfl, ho, ⟨B, M, mb, j', K', nm, its, rs, sts', s', ⟨hs.blk, hs.book, h.ok, hR, hG, by rw [hm] at hlen; exact hlen, hroom, hj1, hjs, by rw [hmet, hcs, hm], Or.inl h.hX, Or.inl h.hB, Or.inl h.hM, Or.inl h.hmb, ?_, ?_, ?_⟩⟩, ?_, ?_, ?_⟩
  · intro i k v hc hv
    exact Or.inl (h.slB i k v (by rw [← World.cell?_of_block (a := ⟨B, i, none⟩) hBne]; exact hc) hv)
  · refine row_in hR (fun k hk => Or.inr hk) (fun i k v hi hc hv => Or.inl (h.slM i k v (by rw [← hs.keep.cells i hi]; exact hc) hv))
  · rintro k (hk | hk)
    · have := h.foot k hk
      exact ⟨this.1, by omega⟩
    · have hlt : k < w'.heap.size := by
        obtain ⟨as2, at2, cs2, ct2, D2, ⟨ab2, cb2, n1, n2⟩, _, hoT2, _⟩ := id hR
        unfold rowOf at hk
        rw [show w'.cell? ⟨M, 31, none⟩ = some (.slice at2 sts'.length ct2) from n1.cell 31] at hk
        exact (hoT2.lt k hk).2
      rcases hs.keep.row k hk with h1 | h1
      · have := h.foot k (hrowF k h1)
        exact ⟨this.1, by omega⟩
      · have := h.foot X h.hX
        exact ⟨by omega, hlt⟩
  · rintro k (hk | hk)
    · exact Or.inl hk
    · rcases hs.keep.row k hk with h1 | h1
      · exact Or.inl (hrowF k h1)
      · exact Or.inr h1
  · rintro k hk (hF | hF)
    · have := (ho.lt k hk).1
      have := (h.foot k hF).2
      omega
    · obtain ⟨as2, at2, cs2, ct2, D2, ⟨ab2, cb2, n1, n2⟩, _, hoT2, _⟩ := id hR
      unfold rowOf at hF
      rw [show w'.cell? ⟨M, 31, none⟩ = some (.slice at2 sts'.length ct2) from n1.cell 31] at hF
      rcases hoT2.2 with ⟨hv, _⟩ | ⟨g, cap', cur, hv, _, hh, _⟩
      · rw [hv] at hF; cases hF
      · rw [hv] at hF
        simp only [Option.bind_some, Value.ownBlock, Option.some.injEq] at hF
        subst hF
        rcases ho.2 with ⟨hv2, _⟩ | ⟨g2, cap2, cur2, hv2, _, hh2, _⟩
        · rw [hv2] at hk; cases hk
        · rw [hv2] at hk
          simp only [Value.ownBlock, Option.some.injEq] at hk
          subst hk
          rw [hh] at hh2
          simp at hh2
  · refine ⟨hs.keep.os, hs.keep.tape, hs.keep.output, hsz, fun k hk hF => hs.keep.block k hk (fun e => hF (by rw [e]; exact h.hX)) (fun e => hF (by rw [e]; exact h.hM)) (fun e => hF (by rw [e]; exact h.hmb)) (fun e => hF (hrowF k e))⟩
end Go.Proofs.YtbppbejigedioabGreatDoor
