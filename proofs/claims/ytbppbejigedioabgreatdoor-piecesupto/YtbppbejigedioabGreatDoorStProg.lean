/- The program's streams keep what is asked: Feed. -/
import Derived.Test.YtbppbejigedioabGreatDoorStFeed
namespace Go.Proofs.YtbppbejigedioabGreatDoor
open Go.RowKit Go.Maps

set_option maxRecDepth 100000 in
set_option maxHeartbeats 400000 in
theorem clone_any (s : ByteArray) (w : World) (hs : s.size ≤ 1048576) : Calls Tryz.prog 34 #[.string s] w fun e w' => e = .returned (.string s) ∧ Below w.heap.size w w' := by
  go_enter Tryz.func34, Tryz.ntmps34
  go_wp2_with fail
  refine (Tryz.stringslite_Clone s _ (by omega)).mono ?_
  rintro e w' ⟨rfl, hb⟩
  have HB := hide hb
  clear hb
  go_wp2
  go_ret
  exact ⟨rfl, unhide HB⟩
theorem SAt.base {X B M mb K m : Nat} {nm : Nat → Bool} {its : List KItem} {rs : List PLn} {cs : List Cu.Chr} {w W : World} {a : Nat} {r : ByteArray} {j : Nat} {wc : World} (h : SAt X B M mb K m nm its rs cs W a r j wc) (hb : Below w.heap.size w W) (hM : M < w.heap.size) : SAt X B M mb K m nm its rs cs w a r j wc :=
  ⟨h.blk, h.book, h.run, (Keeps.of hb hM).trans h.keep⟩
theorem cutsFrom_feed {l : List Cu.Ln} (hl : ∀ x ∈ l, x.right.length ≤ 2) (T b : List UInt8) : Cu.cutsFrom l (Cu.chars (T ++ b)) (Cu.doneN T) (Cu.doneN ((T ++ b).drop (Cu.lastP T))) = Cu.feedP l (T ++ b) (Cu.told l T).length := by
  unfold Cu.cutsFrom Cu.feedP
  rw [← (Cu.window_last T b).1, ← Cu.told_at hl T b]
  have h := Cu.told_at hl (T ++ b) []
  rw [List.append_nil] at h
  rw [← h]
theorem syms_take (its : List KItem) (T u : List UInt8) : (symsOf its (Cu.chars (T ++ u))).take (Cu.doneN T) = symsOf its ((Cu.sChars T).take (Cu.doneN T)) := by
  unfold symsOf
  rw [← List.map_take, Cu.take_done]

section
variable {N : Nat} {w : World} {base X : Nat} {l : List Cu.Ln} {T : ByteArray} {F : Nat → Prop} {B M mb j K : Nat} {nm : Nat → Bool} {its : List KItem} {rs : List PLn} {sts : List St} {s : St}
/-- pass, over what has come. -/
theorem ps_pass (h : PSat N w base X l T F B M mb j K nm its rs sts s) (hE : Env w) (hb : 4 < base) (b W : ByteArray) (tp : Nat) (hsz : T.size + b.size ≤ 1048576) (hN : N ≤ 2097160) (hW : W = (T ++ b).extract (Cu.lastP T.data.toList) (T ++ b).size) (htp : tp ≤ W.size) (W' : World) (hb' : Below w.heap.size w W') :
    Calls Tryz.prog 33 #[.pointer (some ⟨X, 0, none⟩), .string W, .int .i64 tp] W' fun e w' => SRes X B M mb K (Cu.doneN T.data.toList) (Cu.lastP T.data.toList) tp nm its rs l (T.extract (Cu.lastP T.data.toList) T.size) W (Cu.chars (T.data.toList ++ b.data.toList)) W' e w' := by
  have hla := Cu.lastP_le T.data.toList
  rw [len_toList] at hla
  have hws : (T ++ b).size = T.size + b.size := by simp
  have hwz : W.size = (T ++ b).size - Cu.lastP T.data.toList := by rw [hW]; simp
  have hroom := h.room
  refine spass_any X B M mb j K _ _ tp nm its rs sts s l _ W (T.data.toList ++ b.data.toList) W' (h.blk.below hb' h.blk.lt) (h.book.below hb') h.ok (h.run.below hb') h.good h.len h.j1 h.js ?_ (tabs_below hE.1 hb') (hE.2.1.below hb' hE.2.2.2) (h.env hb) ?_ htp (Cu.doneN_le _) (by omega) (by omega)
  · rw [h.met, syms_take]
  · rw [hW, ext_toList, app_list]
    exact Cu.window.1
/-- Behind Feed's pass. -/
theorem feed_done (h : PSat N w base X l T F B M mb j K nm its rs sts s) (b W : ByteArray) (hW : W = (T ++ b).extract (Cu.lastP T.data.toList) (T ++ b).size) (W' w2 : World) (hb' : Below w.heap.size w W') (e : Ending) (hr : SRes X B M mb K (Cu.doneN T.data.toList) (Cu.lastP T.data.toList) (Cu.lastP W.data.toList) nm its rs l (T.extract (Cu.lastP T.data.toList) T.size) W (Cu.chars (T.data.toList ++ b.data.toList)) W' e w2) :
    ∃ (ao : Option Addr) (cap : Nat) (xs : List Value), e = .returned (.slice ao (Cu.feedP l (T ++ b).data.toList (Cu.told l T.data.toList).length).length cap) ∧ Blk w2 X xs 75 ∧ 4 < xs.length ∧
      ∀ w3, Below w2.heap.size w2 w3 → PRes (PS (N + b.size)) (Cu.feedP l (T ++ b).data.toList (Cu.told l T.data.toList).length) base X l (T ++ b) F w (.returned (.slice ao (Cu.feedP l (T ++ b).data.toList (Cu.told l T.data.toList).length).length cap)) (w3.setCell ⟨X, 4, none⟩ (.string (W.extract (Cu.lastP W.data.toList) W.size))) := by
  obtain ⟨ao, cap, j', i, f, lw, hch, hti, hfi, hall, rfl, ho, hs⟩ := hr
  have hla := Cu.lastP_le T.data.toList
  rw [len_toList] at hla
  have hws : (T ++ b).size = T.size + b.size := by simp
  have hWl : W.data.toList = (T.data.toList ++ b.data.toList).drop (Cu.lastP T.data.toList) := by rw [hW, ext_toList, app_list]
  have hlen : lw.length = Cu.doneN W.data.toList := Cu.take_last hch hti hall
  rw [hlen] at ho hs ⊢
  have hcf : Cu.cutsFrom l (Cu.chars (T.data.toList ++ b.data.toList)) (Cu.doneN T.data.toList) (Cu.doneN W.data.toList) = Cu.feedP l (T ++ b).data.toList (Cu.told l T.data.toList).length := by rw [hWl, cutsFrom_feed h.ok.two, app_list]
  rw [hcf] at ho ⊢
  refine ⟨ao, cap, _, rfl, hs.blk, by simp, ?_⟩
  intro w3 hb3
  have hs3 := ((hs.base hb' h.run.lt.1).below hb3).setRest (r' := W.extract (Cu.lastP W.data.toList) W.size)
  have ho3 := (hs.below hb3).own (own_base (own_below ho hb3) hb'.size) 4 (.string (W.extract (Cu.lastP W.data.toList) W.size))
  have hlast := Cu.window_last T.data.toList b.data.toList
  rw [← app_list] at hlast
  rw [← app_list] at hWl
  have e1 : Cu.lastP T.data.toList + Cu.lastP W.data.toList = Cu.lastP (T ++ b).data.toList := by rw [hWl, hlast.2]
  have e2 : Cu.doneN T.data.toList + Cu.doneN W.data.toList = Cu.doneN (T ++ b).data.toList := by rw [hWl, hlast.1]
  have e3 : W.extract (Cu.lastP W.data.toList) W.size = (T ++ b).extract (Cu.lastP (T ++ b).data.toList) (T ++ b).size := by
    rw [← e1, ← ext_ext (T ++ b) _ _]
    rw [← hW]
  rw [e1, e2, e3] at hs3
  rw [e3] at ho3 ⊢
  refine ps_back h ho3 hs3 rfl ?_ (by have := h.room; omega)
  have h9 := syms_take its (T ++ b).data.toList []
  rw [List.append_nil] at h9
  rw [← app_list]
  exact h9
end

set_option maxRecDepth 100000 in
set_option maxHeartbeats 1000000 in
theorem pfeed_any {N : Nat} {w : World} {base X : Nat} {l : List Cu.Ln} {T : ByteArray} {F : Nat → Prop} (b : ByteArray) (h : PS N w base X l T F) (hE : Env w) (hb : 4 < base) (hsz : T.size + b.size ≤ 1048576) (hN : N + b.size ≤ 2097160) :
    Calls Tryz.prog 16 #[.pointer (some ⟨X, 0, none⟩), .string b] w fun e w' => PRes (PS (N + b.size)) (Cu.feedP l (T ++ b).data.toList (Cu.told l T.data.toList).length) base X l (T ++ b) F w e w' := by
  obtain ⟨B, M, mb, j, K, nm, its, rs, sts, s, h⟩ := h
  have hla := Cu.lastP_le T.data.toList
  rw [len_toList] at hla
  have hcat := ext_cat T b _ hla
  have hws : (T ++ b).size = T.size + b.size := by simp
  have c4 : w.cell? ⟨X, 4, none⟩ = some (.string (T.extract (Cu.lastP T.data.toList) T.size)) := h.blk.cell 4
  have hXl := h.blk.lt
  have HIS := hide (isOpen_any X B M j _ _ w h.blk)
  have HPASS := hide (fun (W : ByteArray) (hW : W = (T ++ b).extract (Cu.lastP T.data.toList) (T ++ b).size) (W' : World) (hb' : Below w.heap.size w W') => (ps_pass h hE hb b W (Cu.lastP W.data.toList) hsz (by omega) hW (by have := Cu.lastP_le W.data.toList; rw [len_toList] at this; exact this) W' hb').mono fun e w2 hr => feed_done h b W hW W' w2 hb' e hr)
  have HTB := hide hE.1
  generalize Cu.feedP l (T ++ b).data.toList (Cu.told l T.data.toList).length = out at *
  generalize T.extract (Cu.lastP T.data.toList) T.size = r at *
  have hWs : (r ++ b).size ≤ 1048576 := by rw [hcat]; simp; omega
  have HP2 := hide (unhide HPASS (r ++ b) hcat)
  generalize hWd : r ++ b = W at *
  have hrs : r.size + b.size ≤ 1048576 := by rw [← hWd] at hWs; simpa using hWs
  have hlp := Cu.lastP_le W.data.toList
  rw [len_toList] at hlp
  have HL := hide (lastSettled_any W w hWs hE.1)
  have hcl : (W.extract (Cu.lastP W.data.toList) W.size).size ≤ 1048576 := by simp; omega
  generalize Cu.lastP W.data.toList = tp at *
  have hlpI : (tp : Int) ≤ (W.size : Int) := by omega
  clear h hE HPASS hcat
  go_enter Tryz.func16, Tryz.ntmps16
  go_wp2_with (go_at_call 31; refine (unhide HIS).mono ?_; rintro e w' ⟨rfl, rfl⟩)
  go_at_call 32
  refine (unhide HL).mono ?_
  rintro e w1 ⟨rfl, hb1⟩
  have HP3 := hide (unhide HP2 w1 hb1)
  clear hb1
  go_wp2_with fail
  go_at_call 33
  refine (unhide HP3).mono ?_
  rintro e w2 ⟨ao, cap, xs, rfl, hbx, hxs, hfin⟩
  have HBX := hide hbx
  have HFIN := hide hfin
  clear hbx hfin
  go_wp2_with fail
  go_at_call 34
  refine (clone_any _ _ hcl).mono ?_
  rintro e w3 ⟨rfl, hb3⟩
  have hb3x := (unhide HBX).below hb3 (unhide HBX).lt
  have y4 : w3.cell? ⟨X, 4, none⟩ = some xs[4] := by rw [hb3x.cell 4, List.getElem?_eq_getElem hxs]
  have y4f : w3.frozen? ⟨X, 4, none⟩ = false := hb3x.free 4
  have hl3 := hb3x.lt
  have HF := hide (unhide HFIN w3 hb3)
  clear hb3 hb3x
  go_wp2
  go_ret
  exact unhide HF

theorem keeps_own {X M mb b n size : Nat} {p : Nat × Ms × List Sd} {sts : List St} {w w' : World} {xs ys : List Value} {v : Value} (hk : Keeps X M mb w w') (hX : Blk w X xs 75) (hR : RunAt w M mb p sts) (ho : w.ownsRow b 3 size v n ys) : w'.ownsRow b 3 size v n ys := by
  obtain ⟨as_, at_, cs, ct, D, ⟨ab, cb, m1, m2⟩, hoS, hoT, hown, hmap, hmbM⟩ := hR
  refine own_same ho (fun k hk2 => hk.block k (ho.lt k hk2).2 (fun e => hX.ne_row ho (by decide) (by rw [hk2, e])) (fun e => m1.ne_row ho (by decide) (by rw [hk2, e])) (fun e => ?_) (fun e => ?_))
  · obtain ⟨es, c, hes, _⟩ := hown
    exact map_ne_row hes ho (by rw [hk2, e])
  · unfold rowOf at e
    rw [show w.cell? ⟨M, 31, none⟩ = some (.slice at_ sts.length ct) from m1.cell 31] at e
    rcases hoT.2 with ⟨hv, _⟩ | ⟨g, cap', cur, hv, _, hh, _⟩
    · rw [hv] at e; cases e
    · rw [hv] at e
      simp only [Option.bind_some, Value.ownBlock, Option.some.injEq] at e
      subst e
      rcases ho.2 with ⟨hv2, _⟩ | ⟨g2, cap2, cur2, hv2, _, hh2, _⟩
      · rw [hv2] at hk2; cases hk2
      · rw [hv2] at hk2
        simp only [Value.ownBlock, Option.some.injEq] at hk2
        subst hk2
        rw [hh] at hh2
        simp at hh2
/-- What End tells ahead of the text's length. -/
def endCuts (l : List Cu.Ln) (T : List UInt8) : List Nat := Cu.cutsFrom l (Cu.chars T) (Cu.doneN T) ((Cu.chars T).length - Cu.doneN T)
theorem done_le (T : List UInt8) : Cu.doneN T ≤ (Cu.chars T).length := by
  obtain ⟨r, hr⟩ := Cu.sChars_pre T
  rw [hr, List.length_append]
  unfold Cu.doneN
  omega
theorem endCuts_all {l : List Cu.Ln} (hl : ∀ x ∈ l, x.right.length ≤ 2) (T : List UInt8) : Cu.endP l T (Cu.told l T).length = endCuts l T ++ (if 0 < T.length then [T.length] else []) := by
  have h := Cu.told_at hl T []
  rw [List.append_nil] at h
  have h2 := Cu.cutsFrom_all l (Cu.chars T) (Cu.doneN T) ((Cu.chars T).length - Cu.doneN T)
  rw [← h, show Cu.doneN T + ((Cu.chars T).length - Cu.doneN T) = (Cu.chars T).length by have := done_le T; omega] at h2
  unfold Cu.endP Cu.cutsR endCuts
  rw [← h2, List.append_assoc, List.drop_left']
  rfl

section
variable {N : Nat} {w : World} {base X : Nat} {l : List Cu.Ln} {T : ByteArray} {F : Nat → Prop} {B M mb j K : Nat} {nm : Nat → Bool} {its : List KItem} {rs : List PLn} {sts : List St} {s : St}
/-- Behind End's pass. -/
theorem end_done (h : PSat N w base X l T F B M mb j K nm its rs sts s) (W : ByteArray) (hW : W = T.extract (Cu.lastP T.data.toList) T.size) (W' w2 : World) (hb' : Below w.heap.size w W') (e : Ending) (hr : SRes X B M mb K (Cu.doneN T.data.toList) (Cu.lastP T.data.toList) W.size nm its rs l (T.extract (Cu.lastP T.data.toList) T.size) W (Cu.chars T.data.toList) W' e w2) :
    ∃ (ao : Option Addr) (cap j' : Nat), e = .returned (.slice ao (endCuts l T.data.toList).length cap) ∧ w2.ownsRow w.heap.size 3 1 (.slice ao (endCuts l T.data.toList).length cap) (endCuts l T.data.toList).length (intCells (endCuts l T.data.toList)) ∧ SAt X B M mb K (Cu.chars T.data.toList).length nm its rs (Cu.chars T.data.toList) w T.size (T.extract (Cu.lastP T.data.toList) T.size) j' w2 := by
  obtain ⟨ao, cap, j', i, f, lw, hch, hti, hfi, hall, rfl, ho, hs⟩ := hr
  have hla := Cu.lastP_le T.data.toList
  rw [len_toList] at hla
  have hwz : W.size = T.size - Cu.lastP T.data.toList := by rw [hW]; simp
  have e0 : Cu.charsGo W.data.toList f i = [] := Cu.charsGo_end (by rw [len_toList]; omega)
  rw [e0, List.append_nil] at hch
  have hwin := (Cu.window (T := T.data.toList) (u := [])).1
  rw [List.append_nil, ← ext_toList, ← hW] at hwin
  have hlen : lw.length = (Cu.chars T.data.toList).length - Cu.doneN T.data.toList := by
    have := congrArg List.length hwin
    rw [List.length_map, List.length_drop, ← hch] at this
    exact this
  rw [hlen] at ho hs ⊢
  rw [show Cu.doneN T.data.toList + ((Cu.chars T.data.toList).length - Cu.doneN T.data.toList) = (Cu.chars T.data.toList).length by have := done_le T.data.toList; omega, show Cu.lastP T.data.toList + W.size = T.size by omega] at hs
  exact ⟨ao, cap, j', rfl, own_base ho hb'.size, hs.base hb' h.run.lt.1⟩
/-- Behind begin. -/
theorem end_back (h : PSat N w base X l T F B M mb j K nm its rs sts s) {W3 w4 : World} {out : List Nat} {ao : Option Addr} {cap j' j2 a : Nat} {r : ByteArray} {cs : List Cu.Chr} (ho : W3.ownsRow w.heap.size 3 1 (.slice ao out.length cap) out.length (intCells out)) (hs : SAt X B M mb K (Cu.chars T.data.toList).length nm its rs cs w a r j' W3) (hb : SAt X B M mb (K + (Cu.chars T.data.toList).length + 1) 0 nm its rs [] W3 0 ⟨#[]⟩ j2 w4) :
    PRes (PS (N + 1)) out base X l ⟨#[]⟩ F w (.returned (.slice ao out.length cap)) w4 := by
  obtain ⟨sts3, s3, hR3, _⟩ := hs.run
  have ho4 := keeps_own hb.keep hs.blk hR3 ho
  have hcl := chars_len T
  have hroom := h.room
  refine ps_back (T' := ⟨#[]⟩) h ho4 ⟨hb.blk, hb.book, hb.run, hs.keep.trans hb.keep⟩ rfl rfl ?_
  show K + (Cu.chars T.data.toList).length + 1 + 0 ≤ N + 1 + 2
  omega
end

set_option maxRecDepth 100000 in
set_option maxHeartbeats 2000000 in
theorem pfin_any {N : Nat} {w : World} {base X : Nat} {l : List Cu.Ln} {T : ByteArray} {F : Nat → Prop} (h : PS N w base X l T F) (hE : Env w) (hb : 4 < base) (hsz : T.size ≤ 1048576) (hN : N ≤ 2097160) :
    Calls Tryz.prog 20 #[.pointer (some ⟨X, 0, none⟩)] w fun e w' => PRes (PS (N + 1)) (Cu.endP l T.data.toList (Cu.told l T.data.toList).length) base X l ⟨#[]⟩ F w e w' := by
  obtain ⟨i0, ki, kz0, kz1, kz2⟩ := info_parts Tryz.info3
  obtain ⟨B, M, mb, j, K, nm, its, rs, sts, s, h⟩ := h
  have hcl := chars_len T
  have hroom := h.room
  have c4 : w.cell? ⟨X, 4, none⟩ = some (.string (T.extract (Cu.lastP T.data.toList) T.size)) := h.blk.cell 4
  have hXl := h.blk.lt
  have hMl := h.run.lt.1
  have HIS := hide (isOpen_any X B M j _ _ w h.blk)
  have hnil : T ++ (⟨#[]⟩ : ByteArray) = T := by apply ByteArray.ext; apply Array.ext'; simp
  have hnl : (⟨#[]⟩ : ByteArray).data.toList = [] := rfl
  have hnz : (⟨#[]⟩ : ByteArray).size = 0 := rfl
  have HPASS : Hid (∀ W', Below w.heap.size w W' → Calls Tryz.prog 33 #[.pointer (some ⟨X, 0, none⟩), .string (T.extract (Cu.lastP T.data.toList) T.size), .int .i64 (T.extract (Cu.lastP T.data.toList) T.size).size] W' fun e w2 => ∃ (ao : Option Addr) (cap j' : Nat), e = .returned (.slice ao (endCuts l T.data.toList).length cap) ∧ w2.ownsRow w.heap.size 3 1 (.slice ao (endCuts l T.data.toList).length cap) (endCuts l T.data.toList).length (intCells (endCuts l T.data.toList)) ∧ SAt X B M mb K (Cu.chars T.data.toList).length nm its rs (Cu.chars T.data.toList) w T.size (T.extract (Cu.lastP T.data.toList) T.size) j' w2) := hide (fun W' hb' => by
    have h1 := ps_pass h hE hb ⟨#[]⟩ (T.extract (Cu.lastP T.data.toList) T.size) _ (by rw [hnz]; omega) hN (by rw [hnil]) (Nat.le_refl _) W' hb'
    rw [hnl, List.append_nil] at h1
    exact h1.mono fun e w2 hr => end_done h _ rfl W' w2 hb' e hr)
  have hall := endCuts_all h.ok.two T.data.toList
  rw [len_toList] at hall
  have HBACK := hide (fun (W3 w4 : World) (out : List Nat) (ao : Option Addr) (cap j' j2 a : Nat) (r : ByteArray) (cs : List Cu.Chr) => end_back (W3 := W3) (w4 := w4) (out := out) (ao := ao) (cap := cap) (j' := j') (j2 := j2) (a := a) (r := r) (cs := cs) h)
  have hp := macOk h.ok.rules
  have HBEG := hide (fun (W3 : World) (a j' : Nat) (r : ByteArray) (cs : List Cu.Chr) (hs : SAt X B M mb K (Cu.chars T.data.toList).length nm its rs cs w a r j' W3) => by
    obtain ⟨sts3, s3, hR3, hG3, hl3, _⟩ := hs.run
    exact begin_any X B M mb j' a (K + (Cu.chars T.data.toList).length + 1) nm its rs sts3 r W3 hs.blk hs.book hp hR3 hG3 (by omega) (by omega))
  generalize T.extract (Cu.lastP T.data.toList) T.size = r at *
  have hel := Cu.cutsFrom_len l (Cu.chars T.data.toList) (Cu.doneN T.data.toList) ((Cu.chars T.data.toList).length - Cu.doneN T.data.toList)
  have hdl := done_le T.data.toList
  have hel2 : (endCuts l T.data.toList).length ≤ 1048576 := by unfold endCuts; omega
  generalize endCuts l T.data.toList = out1 at *
  generalize Cu.endP l T.data.toList (Cu.told l T.data.toList).length = out at *
  have HOUT := hide hall
  clear h hE hall hel hp
  go_enter Tryz.func20, Tryz.ntmps20
  go_wp2_with (go_at_call 31; refine (unhide HIS).mono ?_; rintro e w' ⟨rfl, rfl⟩)
  go_upto_region 3 with fail
  go_cut [3] (fun v wc => ∃ (ao : Option Addr) (cap j' : Nat), v = .slice ao out1.length cap ∧ wc.ownsRow w.heap.size 3 1 (.slice ao out1.length cap) out1.length (intCells out1) ∧ SAt X B M mb K (Cu.chars T.data.toList).length nm its rs (Cu.chars T.data.toList) w T.size r j' wc)
  case first =>
    go_region_with (go_at_call 33; refine (unhide HPASS _ ((Below.refl _ _).drew)).mono ?_; rintro e w2 ⟨ao, cap, j', rfl, hoo⟩; have HOO := hide hoo; clear hoo)
    all_goals
      go_wp2_with fail
      go_meet
      case rel => exact ⟨ao, cap, j', rfl, unhide HOO⟩
  case rest =>
    obtain ⟨ao, cap, j', rfl, hoo, hsat⟩ := hcut
    have z3 : wc.cell? ⟨X, 3, none⟩ = some (.int .i64 T.size) := hsat.blk.cell 3
    have hXc := hsat.blk.lt
    have hsz3 := hsat.keep.size
    by_cases h0 : 0 < T.size
    · rw [if_pos h0] at HOUT
      have h0I : (0 : Int) < (T.size : Int) := by omega
      have hcap : (out1.length + 1) * 8 ≤ 140737488355328 := by omega
      have hmax : out1.length + 1 ≤ maxLen := by unfold maxLen; omega
      have HOO := hide hoo
      have HSAT := hide hsat
      have hXn : X ≠ wc.heap.size := by omega
      clear hoo hsat
      go_wp2_with (at_builtin; refine wpList_append_own _ rfl (.tmp 23) (.tmp 28) 30 rfl w.heap.size 3 i0 (.int .i64 0) 1 8 Tryz.underlying30 ki kz0 kz1 kz2 rfl (by decide) (.slice ao out1.length cap) out1.length (intCells out1) rfl ((unhide HOO).alloc _) ⟨wc.heap.size, 0, none⟩ 1 1 [.int .i64 T.size] rfl rfl (news_new _ _ rfl _ _) (one1 _) hmax hcap (by simp; omega) ?_; intro v' w4 hown' hgrow _; refine Hid.out ?_)
      refine hide ?_
      obtain ⟨a', cap', hv'⟩ := own_form hown'
      subst hv'
      have hl2 : (out1 ++ [T.size]).length = out1.length + 1 := by simp
      have hal := (unhide HSAT).below ((Below.refl _ _).alloc (Nat.le_refl _) (.cells #[.int .i64 T.size] 3))
      have hs4 : SAt X B M mb K (Cu.chars T.data.toList).length nm its rs (Cu.chars T.data.toList) w T.size r j' w4 := by
        obtain ⟨sts4, s4, hR4, h5⟩ := hal.run
        exact ⟨hal.blk.grown hgrow (hal.blk.ne_row ((unhide HOO).alloc _) (by decide)), book_grown hal.book ((unhide HOO).alloc _) hgrow, ⟨sts4, s4, run_grown hR4 ((unhide HOO).alloc _) hgrow, h5⟩, hal.keep.grown ((unhide HOO).alloc _) hgrow hMl⟩
      have ho4 : w4.ownsRow w.heap.size 3 1 (.slice a' (out1 ++ [T.size]).length cap') (out1 ++ [T.size]).length (intCells (out1 ++ [T.size])) := by rw [hl2, intCells_snoc]; exact hown'
      have HB4 := hide ((unhide HBEG w4 _ _ _ _ hs4).mono fun e w5 hr => (⟨hr.1, by obtain ⟨j2, h9⟩ := hr.2; exact unhide HBACK w4 w5 _ a' cap' _ j2 _ _ _ ho4 hs4 h9⟩ : e = .returned (.tuple #[]) ∧ PRes (PS (N + 1)) (out1 ++ [T.size]) base X l ⟨#[]⟩ F w (.returned (.slice a' (out1 ++ [T.size]).length cap')) w5))
      rw [hl2] at HB4
      clear hown' hgrow hal hs4 ho4
      go_wp2_with fail
      go_at_call 28
      refine (unhide HB4).mono ?_
      rintro e w5 ⟨rfl, hr⟩
      have HR := hide hr
      clear hr
      go_wp2
      go_ret
      rw [unhide HOUT]
      exact unhide HR
    · rw [if_neg h0, List.append_nil] at HOUT
      have h0I : ¬ (0 : Int) < (T.size : Int) := by omega
      have hT0 : T.size = 0 := by omega
      have HB4 := hide ((unhide HBEG wc _ _ _ _ hsat).mono fun e w5 hr => (⟨hr.1, by obtain ⟨j2, h9⟩ := hr.2; exact unhide HBACK wc w5 _ ao cap _ j2 _ _ _ hoo hsat h9⟩ : e = .returned (.tuple #[]) ∧ PRes (PS (N + 1)) out1 base X l ⟨#[]⟩ F w (.returned (.slice ao out1.length cap)) w5))
      clear hoo hsat
      go_wp2_with fail
      go_at_call 28
      refine (unhide HB4).mono ?_
      rintro e w5 ⟨rfl, hr⟩
      have HR := hide hr
      clear hr
      go_wp2
      go_ret
      rw [unhide HOUT]
      exact unhide HR
end Go.Proofs.YtbppbejigedioabGreatDoor
