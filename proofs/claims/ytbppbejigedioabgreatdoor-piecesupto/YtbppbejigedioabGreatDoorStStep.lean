/- The program's stream: pass. -/
import Derived.Test.YtbppbejigedioabGreatDoorStCall
namespace Go.Proofs.YtbppbejigedioabGreatDoor
open Go.RowKit Go.Maps

/-- The first k characters shifted. -/
def shTo (a : Nat) (l : List Cu.Chr) (k : Nat) : List Cu.Chr := (l.take k).map (Cu.shift a) ++ l.drop k
theorem shTo_len (a : Nat) (l : List Cu.Chr) (k : Nat) : (shTo a l k).length = l.length := by
  unfold shTo
  rw [List.length_append, List.length_map, List.length_take, List.length_drop]
  omega
theorem shTo_zero (a : Nat) (l : List Cu.Chr) : shTo a l 0 = l := by unfold shTo; simp
theorem shTo_all (a : Nat) (l : List Cu.Chr) : shTo a l l.length = l.map (Cu.shift a) := by unfold shTo; simp
theorem shTo_get {a : Nat} {l : List Cu.Chr} {k : Nat} {x : Cu.Chr} (h : (shTo a l k)[k]? = some x) : l[k]? = some x := by
  unfold shTo at h
  have hk : k < l.length := by
    have := (List.getElem?_eq_some_iff.1 h).1
    rw [List.length_append, List.length_map, List.length_take, List.length_drop] at this
    omega
  rw [List.getElem?_append_right (by rw [List.length_map, List.length_take]; omega), List.length_map, List.length_take, List.getElem?_drop] at h
  rw [show k + (k - min k l.length) = k by omega] at h
  exact h
theorem shTo_next {a : Nat} {l : List Cu.Chr} {k : Nat} {x : Cu.Chr} (h : l[k]? = some x) : (shTo a l k).set k (Cu.shift a x) = shTo a l (k + 1) := by
  have hk : k < l.length := (List.getElem?_eq_some_iff.1 h).1
  have hd : l.drop k = x :: l.drop (k + 1) := by rw [← List.getElem_cons_drop hk, (List.getElem?_eq_some_iff.1 h).2]
  unfold shTo
  rw [List.set_append_right _ _ (by rw [List.length_map, List.length_take]; omega), List.length_map, List.length_take, show k - min k l.length = 0 by omega, hd, List.set_cons_zero, List.take_add_one, h]
  simp
theorem symB_cons (its : List KItem) (x y : Cu.Chr) (r r' : List Cu.Chr) (h : y.2 = x.2) : symB its (y :: r) = symB its (x :: r') := by
  show (symOf its y.2.2).toNat = (symOf its x.2.2).toNat
  rw [h]
theorem symB_set (its : List KItem) (l r : List Cu.Chr) (i : Nat) (x y : Cu.Chr) (hx : l[i]? = some x) (h : y.2 = x.2) : symB its (l.set i y ++ r) = symB its (l ++ r) := by
  cases l with
  | nil => simp at hx
  | cons z l =>
    cases i with
    | zero =>
      simp only [List.getElem?_cons_zero, Option.some.injEq] at hx
      subst hx
      exact symB_cons its _ _ _ _ h
    | succ i => rfl
theorem spCells_set (its : List KItem) (rs : List PLn) (l r : List Cu.Chr) (i : Nat) (x y : Cu.Chr) (hx : l[i]? = some x) (h : y.2 = x.2) : (spCells its rs l r).set (i * 3) (.int .i64 y.1) = spCells its rs (l.set i y) r := by
  induction l generalizing i with
  | nil => simp at hx
  | cons z l ih =>
    cases i with
    | zero =>
      simp only [List.getElem?_cons_zero, Option.some.injEq] at hx
      subst hx
      simp only [spCells, chv, List.set_cons_zero, Nat.zero_mul, List.cons_append]
      rw [h]
    | succ i =>
      simp only [List.getElem?_cons_succ] at hx
      simp only [spCells, List.set_cons_succ]
      rw [List.set_append_right _ _ (by simp [chv]; omega)]
      have e : (i + 1) * 3 - (chv its rs z (l ++ r)).length = i * 3 := by simp [chv]; omega
      rw [e, ih i hx]
      unfold chv
      rw [symB_set its l r i x y hx h]
theorem spCells_behind (its : List KItem) (rs : List PLn) (l r : List Cu.Chr) (a : Nat) : spCells its rs l r = spCells its rs l (r.map (Cu.shift a)) := by
  induction l with
  | nil => rfl
  | cons z l ih =>
    simp only [spCells]
    rw [ih]
    congr 1
    unfold chv
    have e : symB its (l ++ r) = symB its (l ++ r.map (Cu.shift a)) := by
      cases l with
      | nil =>
        cases r with
        | nil => rfl
        | cons y r => exact symB_cons its (Cu.shift a y) y _ _ rfl
      | cons y l => rfl
    rw [e]

/-- The stream and its machine behind m characters of cs; what was told since w. -/
structure SAt (X B M mb K m : Nat) (nm : Nat → Bool) (its : List KItem) (rs : List PLn) (cs : List Cu.Chr) (w : World) (a : Nat) (r : ByteArray) (j : Nat) (wc : World) : Prop where
  blk : Blk wc X (strCells B M j a r) 75
  book : BookAt wc B nm its rs
  run : ∃ (sts : List St) (s : St), RunAt wc M mb (newP rs) sts ∧ Good (newP rs) sts ∧ sts.length ≤ K + m ∧ 1 ≤ j ∧ sts[j]? = some s ∧ s.1 = runM rs ((symsOf its cs).take m)
  keep : Keeps X M mb w wc
theorem SAt.setAt {X B M mb K m : Nat} {nm : Nat → Bool} {its : List KItem} {rs : List PLn} {cs : List Cu.Chr} {w : World} {a a' : Nat} {r : ByteArray} {j : Nat} {wc : World} (h : SAt X B M mb K m nm its rs cs w a r j wc) : SAt X B M mb K m nm its rs cs w a' r j (wc.setCell ⟨X, 3, none⟩ (.int .i64 a')) := by
  obtain ⟨sts, s, h1, h2, h3, h4, h5, h6⟩ := h.run
  obtain ⟨vb, hBM⟩ : ∃ vb, Blk wc M vb 121 := by
    obtain ⟨as_, at_, cs_, ct, D, hMac, _⟩ := h1
    obtain ⟨v, hv⟩ := hMac.blk
    exact ⟨_, hv⟩
  exact ⟨h.blk.setSame 3 _, book_set h.book h.blk, ⟨sts, s, run_set h1 h.blk, h2, h3, h4, h5, h6⟩, h.keep.trans (Keeps.set (hBM.ne h.blk (by decide)))⟩
theorem SAt.setRest {X B M mb K m : Nat} {nm : Nat → Bool} {its : List KItem} {rs : List PLn} {cs : List Cu.Chr} {w : World} {a : Nat} {r r' : ByteArray} {j : Nat} {wc : World} (h : SAt X B M mb K m nm its rs cs w a r j wc) : SAt X B M mb K m nm its rs cs w a r' j (wc.setCell ⟨X, 4, none⟩ (.string r')) := by
  obtain ⟨sts, s, h1, h2, h3, h4, h5, h6⟩ := h.run
  obtain ⟨vb, hBM⟩ : ∃ vb, Blk wc M vb 121 := by
    obtain ⟨as_, at_, cs_, ct, D, hMac, _⟩ := h1
    obtain ⟨v, hv⟩ := hMac.blk
    exact ⟨_, hv⟩
  exact ⟨h.blk.setSame 4 _, book_set h.book h.blk, ⟨sts, s, run_set h1 h.blk, h2, h3, h4, h5, h6⟩, h.keep.trans (Keeps.set (hBM.ne h.blk (by decide)))⟩
theorem SAt.below {X B M mb K m : Nat} {nm : Nat → Bool} {its : List KItem} {rs : List PLn} {cs : List Cu.Chr} {w : World} {a : Nat} {r : ByteArray} {j : Nat} {wc W : World} (h : SAt X B M mb K m nm its rs cs w a r j wc) (hb : Below wc.heap.size wc W) : SAt X B M mb K m nm its rs cs w a r j W := by
  obtain ⟨sts, s, h1, h2, h3, h4, h5, h6⟩ := h.run
  exact ⟨h.blk.below hb h.blk.lt, h.book.below hb, ⟨sts, s, h1.below hb, h2, h3, h4, h5, h6⟩, h.keep.trans (Keeps.of hb h1.lt.1)⟩
/-- A row of the call's own, of a type of its own, stays while the stream's block is written. -/
theorem SAt.own {X B M mb K m : Nat} {nm : Nat → Bool} {its : List KItem} {rs : List PLn} {cs : List Cu.Chr} {w : World} {a : Nat} {r : ByteArray} {j : Nat} {wc : World} (h : SAt X B M mb K m nm its rs cs w a r j wc) {b n size : Nat} {v : Value} {xs : List Value} (ho : wc.ownsRow b 3 size v n xs) (i : Nat) (u : Value) : (wc.setCell ⟨X, i, none⟩ u).ownsRow b 3 size v n xs := own_set_ne ho _ _ (h.blk.ne_row ho (by decide))
/-- What pass answers and leaves. -/
def SRes (X B M mb K n a tp : Nat) (nm : Nat → Bool) (its : List KItem) (rs : List PLn) (l : List Cu.Ln) (r W : ByteArray) (cs : List Cu.Chr) (w : World) (e : Ending) (w' : World) : Prop :=
  ∃ (ao : Option Addr) (cap j i f : Nat) (lw : List Cu.Chr), lw ++ Cu.charsGo W.data.toList f i = Cu.chars W.data.toList ∧ tp ≤ i ∧ W.size ≤ i + f ∧ (∀ x ∈ lw, x.1 < tp) ∧ e = .returned (.slice ao (Cu.cutsFrom l cs n lw.length).length cap) ∧
    w'.ownsRow w.heap.size 3 1 (.slice ao (Cu.cutsFrom l cs n lw.length).length cap) (Cu.cutsFrom l cs n lw.length).length (intCells (Cu.cutsFrom l cs n lw.length)) ∧ SAt X B M mb K (n + lw.length) nm its rs cs w (a + tp) r j w'
/-- Behind the machine's pass. -/
theorem smid_done {X B M mb K n m a j : Nat} {nm : Nat → Bool} {its : List KItem} {rs : List PLn} {cs : List Cu.Chr} {r : ByteArray} {w W w2 : World} {out : List Nat} {v x : Value} (hblk : Blk w X (strCells B M j a r) 75) (hbook : BookAt w B nm its rs) (hM : M < w.heap.size) (hb : Below w.heap.size w W) (hall : AllAt (newP rs) (fun n => runM rs ((symsOf its cs).take n)) K M mb W (n + m) out v x w2) :
    ∃ (ao : Option Addr) (cap j2 : Nat), v = .slice ao out.length cap ∧ x = .int .i64 j2 ∧ Blk w2 X (strCells B M j a r) 75 ∧ X < w2.heap.size ∧ (w2.setCell ⟨X, 2, none⟩ (.int .i64 j2)).ownsRow w.heap.size 3 1 (.slice ao out.length cap) out.length (intCells out) ∧ SAt X B M mb K (n + m) nm its rs cs w a r j2 (w2.setCell ⟨X, 2, none⟩ (.int .i64 j2)) := by
  obtain ⟨cap, ao, rfl, ho, j2, sts, s, rfl, hR, hG, hl, hj1, hjs, hm, hf⟩ := hall
  have hb2 := hf.blk (hblk.below hb hblk.lt) (by decide) (by decide)
  obtain ⟨vb, hBM⟩ : ∃ vb, Blk w2 M vb 121 := by
    obtain ⟨as_, at_, cs_, ct, D, hMac, _⟩ := id hR
    obtain ⟨v, hv⟩ := hMac.blk
    exact ⟨_, hv⟩
  refine ⟨ao, cap, j2, rfl, rfl, hb2, hb2.lt, own_set_ne (own_base ho hb.size) _ _ (hb2.ne_row ho (by decide)), hb2.setSame 2 _, book_set (book_frm (hbook.below hb) hf) hb2, ⟨sts, s, run_set hR hb2, hG, hl, hj1, hjs, hm⟩, ?_⟩
  exact ((Keeps.of hb hM).trans (Keeps.frm hf)).trans (Keeps.set (hBM.ne hb2 (by decide)))
/-- The rounds that shift. -/
def ShRel (its : List KItem) (rs : List PLn) (lw suf : List Cu.Chr) (a : Nat) (al : Option Addr) (cl : Nat) (w : World) (v : Value) (wr : World) : Prop :=
  ∃ (k : Nat) (L : List Cu.Chr), k ≤ lw.length ∧ v = .int .i64 k ∧ L = shTo a lw k ∧ wr.ownsRow w.heap.size 141 3 (.slice al L.length cl) L.length (spCells its rs L suf) ∧ Below w.heap.size w wr
theorem sh_next {its : List KItem} {rs : List PLn} {lw suf L : List Cu.Chr} {a k g : Nat} {cl : Nat} {w wr : World} {x : Cu.Chr} (hL : L = shTo a lw k) (hx : L[k]? = some x) (ho : wr.ownsRow w.heap.size 141 3 (.slice (some ⟨g, 0, none⟩) L.length cl) L.length (spCells its rs L suf)) (hb : Below w.heap.size w wr) :
    ∀ q : Nat, ShRel its rs lw suf a (some ⟨g, 0, none⟩) cl w (.int .i64 ((k : Int) + 1)) ((wr.setCell ⟨g, k * 3, none⟩ (.int .i64 ((x.1 : Int) + (a : Int)))).drewN q) := by
  intro q
  have hk : k < L.length := (List.getElem?_eq_some_iff.1 hx).1
  have hx' := hx
  rw [hL] at hx'
  have hlw := shTo_get hx'
  have hset := spCells_set its rs L suf k x (Cu.shift a x) hx rfl
  have hst := ho.stored (k * 3) (.int .i64 ((x.1 : Int) + (a : Int)))
  have hv : Value.int .i64 ((x.1 : Int) + (a : Int)) = .int .i64 ((Cu.shift a x).1 : Nat) := by unfold Cu.shift; simp [Int.add_comm]
  rw [hL, shTo_len] at hk
  refine ⟨k + 1, shTo a lw (k + 1), hk, by go_num, rfl, ?_, ?_⟩
  · have h1 := hst.1
    rw [hv, hset, hL, shTo_next hlw] at h1
    rw [hv]
    have e1 : (shTo a lw k).length = (shTo a lw (k + 1)).length := by rw [shTo_len, shTo_len]
    rw [e1] at h1
    exact own_below h1 (below_drawn (Below.refl _ _) q)
  · have hge : w.heap.size ≤ g := (ho.lt g rfl).1
    exact below_drawn (hb.setCell hge _) q

set_option maxRecDepth 100000 in
set_option maxHeartbeats 4000000 in
theorem spass_any (X B M mb j K n a tp : Nat) (nm : Nat → Bool) (its : List KItem) (rs : List PLn) (sts : List St) (s : St) (l : List Cu.Ln) (r W : ByteArray) (t : List UInt8) (w : World) (hblk : Blk w X (strCells B M j a r) 75) (hbook : BookAt w B nm its rs) (hok : BookOk l its rs) (hrun : RunAt w M mb (newP rs) sts) (hgood : Good (newP rs) sts) (hlen : sts.length ≤ K + n) (hj1 : 1 ≤ j) (hjs : sts[j]? = some s) (hmet : s.1 = runM rs ((symsOf its (Cu.chars t)).take n))
    (hT : Tabs w) (hz : Tz w) (h3 : 4 < mb) (hwin : (Cu.chars W.data.toList).map (Cu.shift a) = (Cu.chars t).drop n) (hto : tp ≤ W.size) (hn : n ≤ a) (hsz : a + W.size ≤ 1048576) (hK : K ≤ 2097170) :
    Calls Tryz.prog 33 #[.pointer (some ⟨X, 0, none⟩), .string W, .int .i64 tp] w fun e w' => SRes X B M mb K n a tp nm its rs l r W (Cu.chars t) w e w' := by
  have hY : Syms its := fun c => (hok.letr c).2
  have x0 : w.cell? ⟨X, 0, none⟩ = some (.pointer (some ⟨B, 0, none⟩)) := hblk.cell 0
  have hXl := hblk.lt
  have hMl := hrun.lt
  have HSP := hide (split_to W tp hto B nm its rs w (by omega) hbook hok.len hok.sep hT hY hok.rules.n12)
  have HMID := hide (fun (W' w2 : World) (m : Nat) (out : List Nat) (v x : Value) (hb : Below w.heap.size w W') => smid_done (mb := mb) (K := K) (cs := Cu.chars t) (n := n) (m := m) (out := out) (v := v) (x := x) (w2 := w2) hblk hbook hMl.1 hb)
  have HPASS := hide (fun (W' : World) (hb : Below w.heap.size w W') (lw suf : List Cu.Chr) (al : Option Addr) (cl base : Nat) (hro : W'.ownsRow base 141 3 (.slice al lw.length cl) lw.length (spCells its rs lw suf)) (hd : (Cu.chars t).drop n = lw ++ suf) (hbl : n + lw.length ≤ 1048576) => mpass_any M mb K n (newP rs) its rs (Cu.chars t) lw suf _ _ l al cl base [] (.slice none 0 0) (.int .i64 j) W' W' ⟨0, none, rfl, World.ownsRow_nil _ _ _ _, j, sts, s, rfl, hrun.below hb, hgood, hlen, hj1, hjs, hmet, FrmR.refl _ _ _⟩ (macOk hok.rules) (hz.below hb hz.2) h3 (by have := hb.size; omega) (runOk hok.rules hok.letr) hro hd hbl hK (by simp))
  have HX := hide hblk
  have HWIN := hide hwin
  clear hblk hbook hok hrun hgood hjs hmet hT hz hwin hY
  go_enter Tryz.func33, Tryz.ntmps33
  go_wp2_with fail
  refine (unhide HSP).mono ?_
  rintro e w1 ⟨al, cl, i, f, lw, rfl, hti, hfi, hch, hall, ho1, hb1⟩
  have hlw : lw.length ≤ W.size := by
    have h1 := chars_len W
    have h2 := congrArg List.length hch
    rw [List.length_append] at h2
    omega
  have hin : Hid (ShRel its rs lw (Cu.charsGo W.data.toList f i) a al cl w (.int .i64 0) w1) := hide ⟨0, lw, Nat.zero_le _, rfl, (shTo_zero a lw).symm, ho1, hb1⟩
  have HCH := hide hch
  have HALL := hide hall
  clear ho1 hb1 hch hall HSP
  go_wp2
  go_loopw [19] (fun v wr => ShRel its rs lw (Cu.charsGo W.data.toList f i) a al cl w v wr) (fun v _ => lw.length + 1 - (intOf v).toNat)
  case atStart =>
    go_light
    exact unhide hin
  case round =>
    obtain ⟨k, L, hk, rfl, hL, ho, hb⟩ := hrel
    have hLl : L.length = lw.length := by rw [hL, shTo_len]
    have xr3 : wr.cell? ⟨X, 3, none⟩ = some (.int .i64 a) := (unhide HX |>.below hb hXl).cell 3
    have xr1 : wr.cell? ⟨X, 1, none⟩ = some (.pointer (some ⟨M, 0, none⟩)) := (unhide HX |>.below hb hXl).cell 1
    have xr2 : wr.cell? ⟨X, 2, none⟩ = some (.int .i64 j) := (unhide HX |>.below hb hXl).cell 2
    have hsw := hb.size
    by_cases hkl : k < lw.length
    · obtain ⟨g, x, rfl, hx, hgl, c0, c1, c2⟩ := sp_cells ho k (by omega)
      have hgf : wr.frozen? ⟨g, k * 3, none⟩ = false := ho.frozenAt (k * 3)
      have hge : w.heap.size ≤ g := (ho.lt g rfl).1
      have hxs : x.1 ≤ 1048576 := by
        have h1 : lw[k]? = some x := shTo_get (by rw [← hL]; exact hx)
        have := unhide HALL x (List.mem_of_getElem? h1)
        omega
      have hnext := hide (sh_next hL hx ho hb)
      have hXg : X ≠ g := by omega
      have hgX : g ≠ X := by omega
      clear ho hx hL hb c1 c2
      go_wp2_with fail
      go_region
      all_goals
        go_wp2
        go_roundw
        case rel => first | exact unhide hnext 1 | exact unhide hnext _ | ((repeat apply Exists.intro); exact ⟨unhide hnext _, rfl⟩)
        case measure => simp [intOf]; omega
    · obtain rfl : k = lw.length := by omega
      have hLL : L = lw.map (Cu.shift a) := by rw [hL, shTo_all]
      have hd : (Cu.chars t).drop n = lw.map (Cu.shift a) ++ (Cu.charsGo W.data.toList f i).map (Cu.shift a) := by rw [← unhide HWIN, ← unhide HCH, List.map_append]
      have hro : ∀ W', Below wr.heap.size wr W' → W'.ownsRow w.heap.size 141 3 (.slice al (lw.map (Cu.shift a)).length cl) (lw.map (Cu.shift a)).length (spCells its rs (lw.map (Cu.shift a)) ((Cu.charsGo W.data.toList f i).map (Cu.shift a))) := fun W' hW => own_below (by rw [hLL] at ho; rw [← spCells_behind]; exact ho) hW
      have hml : (lw.map (Cu.shift a)).length = lw.length := List.length_map _
      have HCM : Hid (∀ W', Below wr.heap.size wr W' → Calls Tryz.prog 57 #[.pointer (some ⟨M, 0, none⟩), .int .i64 j, .slice al lw.length cl, .slice none 0 0] W' fun e w2 => ∃ (ao : Option Addr) (cap j2 : Nat), e = .returned (.tuple #[.int .i64 j2, .slice ao (Cu.cutsFrom l (Cu.chars t) n lw.length).length cap]) ∧ Blk w2 X (strCells B M j a r) 75 ∧ X < w2.heap.size ∧
          (w2.setCell ⟨X, 2, none⟩ (.int .i64 j2)).ownsRow w.heap.size 3 1 (.slice ao (Cu.cutsFrom l (Cu.chars t) n lw.length).length cap) (Cu.cutsFrom l (Cu.chars t) n lw.length).length (intCells (Cu.cutsFrom l (Cu.chars t) n lw.length)) ∧ SAt X B M mb K (n + lw.length) nm its rs (Cu.chars t) w a r j2 (w2.setCell ⟨X, 2, none⟩ (.int .i64 j2))) := hide (by
        intro W' hW
        have h1 := unhide HPASS W' (below_two hW hb) _ _ al cl _ (hro W' hW) hd (by rw [hml]; omega)
        rw [hml] at h1
        refine h1.mono ?_
        rintro e w2 ⟨v, x, rfl, hall⟩
        rw [List.nil_append] at hall
        obtain ⟨ao, cap, j2, rfl, rfl, h2⟩ := unhide HMID W' w2 lw.length _ v x (below_two hW hb) hall
        exact ⟨ao, cap, j2, rfl, h2⟩)
      have HRES : Hid (∀ (ao : Option Addr) (cap j2 : Nat) (w' : World), w'.ownsRow w.heap.size 3 1 (.slice ao (Cu.cutsFrom l (Cu.chars t) n lw.length).length cap) (Cu.cutsFrom l (Cu.chars t) n lw.length).length (intCells (Cu.cutsFrom l (Cu.chars t) n lw.length)) → SAt X B M mb K (n + lw.length) nm its rs (Cu.chars t) w (a + tp) r j2 w' → SRes X B M mb K n a tp nm its rs l r W (Cu.chars t) w (.returned (.slice ao (Cu.cutsFrom l (Cu.chars t) n lw.length).length cap)) w') := hide (fun ao cap j2 w' h1 h2 => ⟨ao, cap, j2, i, f, lw, unhide HCH, hti, hfi, unhide HALL, rfl, h1, h2⟩)
      generalize Cu.cutsFrom l (Cu.chars t) n lw.length = out at *
      clear ho hL hb hLL hd hro HPASS HMID
      go_upto_region 8 with fail
      go_cut [9] (fun v wc => ∃ (ao : Option Addr) (cap j2 : Nat), v = .slice ao out.length cap ∧ wc.ownsRow w.heap.size 3 1 (.slice ao out.length cap) out.length (intCells out) ∧ SAt X B M mb K (n + lw.length) nm its rs (Cu.chars t) w a r j2 wc)
      case first =>
        go_region_with (go_at_call 57; refine (unhide HCM _ ((Below.refl _ _).drew)).mono ?_; rintro e w2 ⟨ao, cap, j2, rfl, hbx, hxl, hoo, hsat⟩; have y2 : w2.cell? ⟨X, 2, none⟩ = some (.int .i64 j) := hbx.cell 2; have y2f : w2.frozen? ⟨X, 2, none⟩ = false := hbx.free 2; have HOO := hide (And.intro hoo hsat); clear hbx hoo hsat)
        all_goals
          go_wp2_with fail
          go_meet
          case rel => exact ⟨ao, cap, j2, rfl, unhide HOO⟩
      case rest =>
        obtain ⟨ao, cap, j2, rfl, hoo, hsat⟩ := hcut
        have z3 : wc.cell? ⟨X, 3, none⟩ = some (.int .i64 a) := hsat.blk.cell 3
        have z3f : wc.frozen? ⟨X, 3, none⟩ = false := hsat.blk.free 3
        have hXc := hsat.blk.lt
        have hfin := hide (unhide HRES ao cap j2 (wc.setCell ⟨X, 3, none⟩ (.int .i64 ((a + tp : Nat) : Int))) (hsat.own hoo _ _) hsat.setAt)
        rw [show ((a + tp : Nat) : Int) = (a : Int) + (tp : Int) by omega] at hfin
        clear hoo hsat
        go_wp2
        go_ret
        exact unhide hfin
end Go.Proofs.YtbppbejigedioabGreatDoor
