/- The program's streams: Open. -/
import Derived.Test.YtbppbejigedioabGreatDoorStProg
namespace Go.Proofs.YtbppbejigedioabGreatDoor
open Go.RowKit Go.Maps

theorem book_slices {nm : Nat → Bool} {vi vr v : Value} {rt : Nat → Nat} {i k : Nat} (h : (bookCells nm vi vr rt)[i]? = some v) (hv : v.ownBlock = some k) : v = vi ∨ v = vr := by
  by_cases h26 : i < 26
  · rw [bookCells_get _ _ _ _ _ h26] at h
    simp only [Option.some.injEq] at h
    subst h
    cases hv
  · by_cases h28 : i < 28
    · have h2 : i = 26 ∨ i = 27 := by omega
      rcases h2 with rfl | rfl
      · exact Or.inl (Option.some.inj h).symm
      · exact Or.inr (Option.some.inj h).symm
    · unfold bookCells at h
      rw [List.getElem?_append_right (show 28 ≤ i by omega)] at h
      unfold rtCells at h
      obtain ⟨q, _, rfl⟩ := List.mem_map.1 (List.mem_of_getElem? h)
      cases hv
theorem mac_slices {fi : Nat} {vb vs vm vt v : Value} {mt : Nat → Nat} {i k : Nat} (h : (macCells fi vb mt vs vm vt)[i]? = some v) (hv : v.ownBlock = some k) : v = vb ∨ v = vs ∨ v = vm ∨ v = vt := by
  have hm := List.mem_of_getElem? h
  unfold macCells at hm
  rcases List.mem_append.1 hm with h1 | h1
  · rcases List.mem_append.1 h1 with h2 | h2
    · simp only [List.mem_cons, List.not_mem_nil, or_false] at h2
      rcases h2 with rfl | rfl
      · cases hv
      · exact Or.inl rfl
    · obtain ⟨q, _, rfl⟩ := List.mem_map.1 h2
      cases hv
  · simp only [List.mem_cons, List.not_mem_nil, or_false] at h1
    exact Or.inr h1
theorem book_in {w : World} {lo B : Nat} {nm : Nat → Bool} {its : List KItem} {rs : List PLn} (h : BookAt w B nm its rs) (hB : lo ≤ B) : SlIn (fun k => lo ≤ k ∧ k < w.heap.size) w B := by
  obtain ⟨ai, ar, ci, cr, h1, h2, h3⟩ := h
  intro i k v hc hv
  rw [h1.cell] at hc
  rcases book_slices hc hv with rfl | rfl
  · have := h2.lt k hv
    exact ⟨by omega, this.2⟩
  · have := h3.lt k hv
    exact ⟨by omega, this.2⟩
theorem mac_in {w : World} {lo M mb : Nat} {p : Nat × Ms × List Sd} {sts : List St} (h : RunAt w M mb p sts) (hB : lo ≤ mb) : SlIn (fun k => lo ≤ k ∧ k < w.heap.size) w M := by
  obtain ⟨as_, at_, cs, ct, D, ⟨ab, cb, m1, m2⟩, hoS, hoT, hown, hmap, hlt⟩ := h
  intro i k v hc hv
  rw [m1.cell] at hc
  rcases mac_slices hc hv with rfl | rfl | rfl | rfl
  · have := m2.lt k hv
    exact ⟨by omega, this.2⟩
  · have := hoS.lt k hv
    exact ⟨by omega, this.2⟩
  · cases hv
  · have := hoT.lt k hv
    exact ⟨by omega, this.2⟩
/-- Behind begin of a stream that was made just now. -/
theorem open_back {f : ByteArray} {w w3 w4 : World} {X B M mb j p : Nat} {nm : Nat → Bool} {its : List KItem} {lns : List Cu.Ln} {L : List PLn} {sts : List St} (hrd : Cu.readGo f.data.toList 12 0 [] = (true, p, lns)) (hok : BookOk lns its (rulesOf L)) (hb : Below w.heap.size w w3) (hB : w.heap.size ≤ B) (hmb : w.heap.size ≤ mb) (hX : w.heap.size ≤ X) (hR3 : RunAt w3 M mb (newP (rulesOf L)) sts) (hs : SAt X B M mb 2 0 nm its (rulesOf L) [] w3 0 ⟨#[]⟩ j w4) (hc : (Cu.check f.data.toList).1 = 0) :
    POpen (PS 0) f w (.returned (.tuple #[.pointer (some ⟨X, 0, none⟩), .int .i64 0, .int .i64 0])) w4 := by
  obtain ⟨sts4, s4, hR, hG, hlen, hj1, hjs, hmet⟩ := hs.run
  have hRl := hR.lt
  have hXl := hs.blk.lt
  have hBl := hs.book.lt
  have hsz := hs.keep.size
  refine Or.inr ⟨hc, X, fun k => w.heap.size ≤ k ∧ k < w4.heap.size, rfl, ?_, ?_⟩
  · rw [hrd]
    exact ⟨B, M, mb, j, 2, nm, its, rulesOf L, sts4, s4, ⟨hs.blk, hs.book, hok, hR, hG, hlen, Nat.le_refl _, hj1, hjs, hmet, ⟨hX, hXl⟩, ⟨hB, hBl⟩, ⟨by omega, hRl.1⟩, ⟨hmb, by omega⟩, book_in hs.book hB, mac_in hR hmb, fun k hk => hk⟩⟩
  · refine ⟨hs.keep.os.trans hb.os, hs.keep.tape.trans hb.tape, hs.keep.output.trans hb.output, Nat.le_trans hb.size hsz, fun k hk => ?_⟩
    have hbs := hb.size
    have h3l := hR3.lt
    rw [hs.keep.block k (by omega) (by omega) (by omega) (by omega) (fun e => ?_)]
    · exact hb.block k hk
    · obtain ⟨as_, at_, cs, ct, D, ⟨ab, cb, m1, m2⟩, hoS, hoT, _⟩ := hR3
      unfold rowOf at e
      rw [show w3.cell? ⟨M, 31, none⟩ = some (.slice at_ sts.length ct) from m1.cell 31] at e
      have := (hoT.lt k e).1
      omega

set_option maxRecDepth 100000 in
set_option maxHeartbeats 2000000 in
theorem popen_any : Opens PS := by
  intro f w hf hE
  have hw3 := hE.2.2.2
  have hg := hE.2.2.1
  have hT := hE.1
  clear hE
  go_enter Tryz.func10, Tryz.ntmps10
  go_wp2_with fail
  refine (readBook_full f _ hf hT (by omega)).mono ?_
  rintro e w1 (⟨c, p, hc, hc0, rfl, hb⟩ | ⟨B, hc, rfl, hbook, hb⟩)
  · have hg1 : ErrT w1 := by unfold ErrT; rw [cell_below hb (by show 0 < w.heap.size; omega)]; exact hg
    have HB := hide hb
    have HG := hide hg1
    have hout : Hid (∀ w', Below w.heap.size w w' → POpen (PS 0) f w (.returned (.tuple #[.pointer none, .int .i64 (c : Int), .int .i64 (p : Int)])) w') := hide (fun w' hw' => Or.inl ⟨by rw [hc]; exact hc0, by rw [hc], hw'⟩)
    clear hc hb hg1 hg hT hc0
    unfold brokenV
    go_wp2_with fail
    refine (told_hit (c : Int) (p : Int) w1 (unhide HG)).mono ?_
    rintro e w2 ⟨rfl, hb2⟩
    have HB2 := hide (unhide hout w2 (below_two hb2 (unhide HB)))
    clear hb2
    go_wp2
    go_ret3
    exact unhide HB2
  · have hsz : f.size ≤ 200 := (check_ok (show (Cu.check f.data.toList).1 = 0 by rw [hc])).1
    obtain ⟨p, lns, L, nm, its, hrd, hL, hperm, hri, htd, hlen, hBk, hPL, hBb⟩ := hbook
    have hrules := rules_ok hsz hrd hL
    have h2R := readGo_r2 f.data.toList 12 0 [] (fun x hx => by simp at hx)
    rw [hrd] at h2R
    have hok : BookOk lns its (rulesOf L) := ⟨hrules, book_letter hrd hperm htd, sep_of hperm hri htd, hlen, h2R⟩
    obtain ⟨ai, ar, ci, cr, hB1, hB2, hB3⟩ := id hBk
    have b27 : w1.cell? ⟨B, 27, none⟩ = some (.slice ar (rulesOf L).length cr) := hB1.cell 27
    have hBlt := hB1.lt
    have hs1 := hb.size
    have HNEW := hide (newMachine_any (rulesOf L) ar cr B w1 hB3 hrules.n12 hrules.l4)
    have HB := hide hb
    have HBK := hide hBk
    have HOK := hide hok
    have HRD := hide hrd
    have HMAC := hide (macOk hrules)
    have HC : Hid ((Cu.check f.data.toList).1 = 0) := hide (by rw [hc])
    clear hc hb hg hT hrd hL hperm hri htd hBk hPL hB1 hB2 hB3 hrules hok h2R
    go_wp2_with fail
    refine (unhide HNEW).mono ?_
    rintro e w2 ⟨rfl, hsd, hmp, hst, hb2⟩
    have hs2 := hb2.size
    have hR2 := run_start hsd hmp hst (by omega)
    have hal : Below w2.heap.size w2 (w2.alloc (.cells #[.pointer (some ⟨B, 0, none⟩), .pointer (some ⟨w1.heap.size + 2, 0, none⟩), .int .i64 0, .int .i64 0, .string ⟨#[]⟩] 75)) := (Below.refl _ _).alloc (Nat.le_refl _) _
    have hR3 := hR2.below hal
    have hbx : Blk (w2.alloc (.cells #[.pointer (some ⟨B, 0, none⟩), .pointer (some ⟨w1.heap.size + 2, 0, none⟩), .int .i64 0, .int .i64 0, .string ⟨#[]⟩] 75)) w2.heap.size (strCells B (w1.heap.size + 2) 0 0 ⟨#[]⟩) 75 := Blk.new w2 _ _
    have hbk3 := ((unhide HBK).below hb2).below hal
    have hb3 := below_two hal (below_two hb2 (unhide HB))
    have HBEG := hide ((begin_any w2.heap.size B (w1.heap.size + 2) w1.heap.size 0 0 2 nm its (rulesOf L) [(0, 0, fun _ => 0)] ⟨#[]⟩ _ hbx hbk3 (unhide HMAC) hR3 (good_start _) (by simp) (by omega)).mono fun e w4 hr => (⟨hr.1, by obtain ⟨j, h9⟩ := hr.2; exact open_back (unhide HRD) (unhide HOK) hb3 hBb (by omega) (by omega) hR3 h9 (unhide HC)⟩ : e = .returned (.tuple #[]) ∧ POpen (PS 0) f w (.returned (.tuple #[.pointer (some ⟨w2.heap.size, 0, none⟩), .int .i64 0, .int .i64 0])) w4))
    clear hsd hmp hst hb2 hR2 hal hR3 hbx hbk3 hb3
    go_wp2_with fail
    go_at_call 28
    refine (unhide HBEG).mono ?_
    rintro e w4 ⟨rfl, hr⟩
    have HR := hide hr
    clear hr
    go_wp2
    go_ret3
    exact unhide HR

theorem ps_streamy : Streamy PS := ⟨ps_firm, fun b h hE hb h1 h2 => pfeed_any b h hE hb h1 h2, fun h hE hb h1 h2 => pfin_any h hE hb h1 h2⟩
end Go.Proofs.YtbppbejigedioabGreatDoor
