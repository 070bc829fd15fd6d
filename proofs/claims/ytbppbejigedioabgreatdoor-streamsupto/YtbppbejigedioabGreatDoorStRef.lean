/- The document's streams: settled, Open, Feed, End. -/
import Derived.Test.YtbppbejigedioabGreatDoorPlainS
import Derived.Test.YtbppbejigedioabGreatDoorCutY
namespace Go.Proofs.YtbppbejigedioabGreatDoor
open Go.RowKit

namespace Cu
theorem while_take {l : List Nat} {p : Nat → Bool} {m : Nat} (h1 : ∀ x ∈ l.take m, p x = true) (h2 : ∀ x, l[m]? = some x → p x = false) : l.takeWhile p = l.take m := by
  induction l generalizing m with
  | nil => simp
  | cons y l ih =>
    cases m with
    | zero =>
      have := h2 y rfl
      simp [this]
    | succ m =>
      have hy := h1 y (by simp)
      rw [List.takeWhile_cons, hy, if_pos rfl, List.take_succ_cons, ih (m := m) (fun x hx => h1 x (by rw [List.take_succ_cons]; exact List.mem_cons_of_mem _ hx)) (fun x hx => h2 x (by simpa using hx))]
theorem feed_pred (l : List Ln) (t : List UInt8) (n : Nat) (hn : n ≤ (told l t).length) :
    ((cutsR l (t.take (sEnd t))).drop n).takeWhile (fun x => decide (2 ≤ (sChars t).length ∧ x ≤ lastBut (sChars t))) = feedP l t n := by
  rw [← feed_while l t n hn]
  by_cases h : 2 ≤ (sChars t).length
  · rw [if_pos h]
    congr 1
    funext x
    simp [h]
  · rw [if_neg h]
    have e : (fun x => decide (2 ≤ (sChars t).length ∧ x ≤ lastBut (sChars t))) = fun _ => false := by funext x; simp [h]
    rw [e]
    cases (cutsR l (t.take (sEnd t))).drop n <;> rfl
theorem told_le {l : List Ln} (hl : ∀ x ∈ l, x.right.length ≤ 2) (t u : List UInt8) : (told l t).length ≤ (told l (t ++ u)).length := by
  obtain ⟨r, hr⟩ := told_more hl t u
  rw [hr, List.length_append]
  omega
end Cu

set_option maxRecDepth 100000 in
set_option maxHeartbeats 1000000 in
theorem settled_any (t : ByteArray) (w : World) (ht : t.size ≤ 1048576) :
    Calls Tryz.prog 35 #[.string t] w fun e w' => e = .returned (.string (t.extract 0 (Cu.sEnd t.data.toList))) ∧ Below w.heap.size w w' := by
  go_enter Tryz.func35, Tryz.ntmps35
  go_wp2
  go_loopw [3] (fun v wr => ∃ i f : Nat, i ≤ t.size ∧ t.size ≤ i + f ∧ v = .int .i64 i ∧ Below w.heap.size w wr ∧ Cu.stEnd t.data.toList f i = Cu.sEnd t.data.toList) (fun v _ => 1048578 - (intOf v).toNat)
  case atStart =>
    go_light
    exact ⟨0, t.size, Nat.zero_le _, by omega, rfl, Below.refl _ _, by unfold Cu.sEnd; rw [len_toList]⟩
  case round =>
    obtain ⟨i, f, hi, hf, rfl, hb, hst⟩ := hrel
    by_cases hlt : i < t.size
    · obtain ⟨f, rfl⟩ : ∃ k, f = k + 1 := ⟨f - 1, by omega⟩
      rw [Cu.stEnd, if_pos (by rw [len_toList]; exact hlt)] at hst
      have hw := well_any t i wr (by omega) (by omega) (by omega)
      rw [Int.toNat_natCast] at hw
      have hw4 := Cu.well_le t.data.toList i
      have hn := Cu.chN_pos t.data.toList i
      rw [len_toList] at hn
      have hn3 := hn.2.2 hlt
      have hn1 := hn.1
      have hhw : Cu.halfway t.data.toList i = decide (0 < (Cu.well t.data.toList i).2 ∧ (Cu.well t.data.toList i).1 < (Cu.well t.data.toList i).2 ∧ i + (Cu.well t.data.toList i).1 = t.size) := by unfold Cu.halfway; rw [len_toList]
      have HB := hide hb
      have HCH := hide (fun W => charAt_any t i W (by omega) hlt)
      generalize Cu.well t.data.toList i = kn at *
      obtain ⟨k, n⟩ := kn
      simp only at hw hw4 hhw
      have HW := hide hw
      clear hw hb
      by_cases h0 : 0 < n
      · have h0i : (0 : Int) < (n : Int) := by omega
        by_cases h1 : k < n
        · have h1i : (k : Int) < (n : Int) := by omega
          by_cases h2 : i + k = t.size
          · have h2i : (((i : Int) + (k : Int)) == (t.size : Int)) = true := by simp; omega
            have hfin : Hid (Cu.sEnd t.data.toList = i) := hide (by
              rw [← hst, if_pos (by rw [hhw]; exact decide_eq_true ⟨h0, h1, h2⟩)])
            clear hst hhw h2
            go_wp2_with fail
            refine (unhide HW).mono ?_
            rintro e w' ⟨rfl, rfl⟩
            go_wp2
            go_ret
            exact ⟨by rw [unhide hfin]; rfl, unhide HB⟩
          · have h2i : (((i : Int) + (k : Int)) == (t.size : Int)) = false := by rw [beq_eq_false_iff_ne]; omega
            have hfin : Hid (Cu.stEnd t.data.toList f (i + Cu.chN t.data.toList i) = Cu.sEnd t.data.toList) := hide (by
              rw [← hst, if_neg (by rw [hhw]; simp only [decide_eq_true_eq]; intro h; exact h2 h.2.2)])
            clear hst hhw h2
            go_wp2_with fail
            refine (unhide HW).mono ?_
            rintro e w' ⟨rfl, rfl⟩
            go_wp2_with fail
            refine (unhide HCH _).mono ?_
            rintro e w2 ⟨rfl, hb2⟩
            have hrel2 : Hid (∀ o, ∃ j g : Nat, j ≤ t.size ∧ t.size ≤ j + g ∧ Value.int .i64 ((i : Int) + ((Cu.chN t.data.toList i : Nat) : Int)) = .int .i64 j ∧ Below w.heap.size w (w2.alloc o) ∧ Cu.stEnd t.data.toList g j = Cu.sEnd t.data.toList) := hide (fun o => ⟨i + Cu.chN t.data.toList i, f, hn3, by omega, by go_num, by have hbb := below_two hb2 (unhide HB); exact hbb.alloc hbb.size _, unhide hfin⟩)
            clear hb2
            go_wp2
            go_roundw
            case rel => first | exact unhide hrel2 _ | ((repeat apply Exists.intro); exact ⟨unhide hrel2 _, rfl⟩)
            case measure => simp [intOf]; omega
        · have h1i : ¬ (k : Int) < (n : Int) := by omega
          have hfin : Hid (Cu.stEnd t.data.toList f (i + Cu.chN t.data.toList i) = Cu.sEnd t.data.toList) := hide (by
            rw [← hst, if_neg (by rw [hhw]; simp only [decide_eq_true_eq]; intro h; exact h1 h.2.1)])
          clear hst hhw
          go_wp2_with fail
          refine (unhide HW).mono ?_
          rintro e w' ⟨rfl, rfl⟩
          go_wp2_with fail
          refine (unhide HCH _).mono ?_
          rintro e w2 ⟨rfl, hb2⟩
          have hrel2 : Hid (∀ o, ∃ j g : Nat, j ≤ t.size ∧ t.size ≤ j + g ∧ Value.int .i64 ((i : Int) + ((Cu.chN t.data.toList i : Nat) : Int)) = .int .i64 j ∧ Below w.heap.size w (w2.alloc o) ∧ Cu.stEnd t.data.toList g j = Cu.sEnd t.data.toList) := hide (fun o => ⟨i + Cu.chN t.data.toList i, f, hn3, by omega, by go_num, by have hbb := below_two hb2 (unhide HB); exact hbb.alloc hbb.size _, unhide hfin⟩)
          clear hb2
          go_wp2
          go_roundw
          case rel => first | exact unhide hrel2 _ | ((repeat apply Exists.intro); exact ⟨unhide hrel2 _, rfl⟩)
          case measure => simp [intOf]; omega
      · have h0i : ¬ (0 : Int) < (n : Int) := by omega
        have hfin : Hid (Cu.stEnd t.data.toList f (i + Cu.chN t.data.toList i) = Cu.sEnd t.data.toList) := hide (by
          rw [← hst, if_neg (by rw [hhw]; simp only [decide_eq_true_eq]; intro h; exact h0 h.1)])
        clear hst hhw
        go_wp2_with fail
        refine (unhide HW).mono ?_
        rintro e w' ⟨rfl, rfl⟩
        go_wp2_with fail
        refine (unhide HCH _).mono ?_
        rintro e w2 ⟨rfl, hb2⟩
        have hrel2 : Hid (∀ o, ∃ j g : Nat, j ≤ t.size ∧ t.size ≤ j + g ∧ Value.int .i64 ((i : Int) + ((Cu.chN t.data.toList i : Nat) : Int)) = .int .i64 j ∧ Below w.heap.size w (w2.alloc o) ∧ Cu.stEnd t.data.toList g j = Cu.sEnd t.data.toList) := hide (fun o => ⟨i + Cu.chN t.data.toList i, f, hn3, by omega, by go_num, by have hbb := below_two hb2 (unhide HB); exact hbb.alloc hbb.size _, unhide hfin⟩)
        clear hb2
        go_wp2
        go_roundw
        case rel => first | exact unhide hrel2 _ | ((repeat apply Exists.intro); exact ⟨unhide hrel2 _, rfl⟩)
        case measure => simp [intOf]; omega
    · have hfin : Hid (Cu.sEnd t.data.toList = t.size) := hide (by
        have h1 := Cu.stEnd_le t.data.toList f i (by rw [len_toList]; exact hi)
        rw [len_toList] at h1
        omega)
      clear hst
      go_wp2
      go_ret
      exact ⟨by rw [unhide hfin, ByteArray.extract_zero_size]; rfl, hb⟩

theorem LinesOwn.lower {w : World} {base base' : Nat} {l : List (Cu.Ln × Refs)} (h : LinesOwn w base l) (hb : base' ≤ base) : LinesOwn w base' l := fun x hx => ⟨own_base (h x hx).1 hb, own_base (h x hx).2.1 hb, own_base (h x hx).2.2 hb⟩
theorem own_keptS {w W : World} {S base size n : Nat} {e t : TypeId} {v : Value} {xs cs : List Value} (hB : Blk w S cs t) (hg : w.grownBy W (some S)) (ho : w.ownsRow base e size v n xs) (he : t ≠ e) : W.ownsRow base e size v n xs :=
  ho.kept hg (Or.inr (fun h => hB.ne_row ho he h.symm))
theorem LinesOwn.keptS {w W : World} {S base : Nat} {l : List (Cu.Ln × Refs)} {cs : List Value} {t : TypeId} (h : LinesOwn w base l) (hB : Blk w S cs t) (hg : w.grownBy W (some S)) (h1 : t ≠ 207) (h2 : t ≠ 229) : LinesOwn W base l := fun x hx =>
  ⟨own_keptS hB hg (h x hx).1 h1, own_keptS hB hg (h x hx).2.1 h2, own_keptS hB hg (h x hx).2.2 h2⟩
theorem grownS (w : World) (S j : Nat) (u : Value) : w.grownBy (w.setCell ⟨S, j, none⟩ u) (some S) :=
  ⟨rfl, rfl, rfl, by simp [World.setCell], fun k _ hn => Below.heap_setCell _ _ _ _ (fun e => hn (by rw [e]))⟩
theorem grown_tr {a b c : World} {row : Option Nat} (h : a.grownBy b row) (k : b.grownBy c row) : a.grownBy c row :=
  ⟨k.os.trans h.os, k.tape.trans h.tape, k.output.trans h.output, Nat.le_trans h.size k.size, fun j hj hn => (k.block j (Nat.lt_of_lt_of_le hj h.size) hn).trans (h.block j hj hn)⟩
theorem app_list (T b : ByteArray) : (T ++ b).data.toList = T.data.toList ++ b.data.toList := by simp
theorem ext_list (t : ByteArray) (n : Nat) : (t.extract 0 n).data.toList = t.data.toList.take n := by rw [extract_list]; simp

/-- The blocks of a row lie below hi. -/
def InRow (v : Value) (hi : Nat) : Prop := ∀ k, v.ownBlock = some k → k < hi
def RHi (S hi : Nat) (L : List (Cu.Ln × Refs)) (a : Option Addr) (cap : Nat) : Prop :=
  S < hi ∧ InRow (.slice a L.length cap) hi ∧ ∀ y ∈ L, InRow (.slice y.2.aI y.1.items.length y.2.cI) hi ∧ InRow (.slice y.2.aL y.1.left.length y.2.cL) hi ∧ InRow (.slice y.2.aR y.1.right.length y.2.cR) hi
theorem own_same {w w' : World} {base size n : Nat} {e : TypeId} {v : Value} {xs : List Value} (h : w.ownsRow base e size v n xs) (hk : ∀ k, v.ownBlock = some k → w'.heap[k]? = w.heap[k]?) : w'.ownsRow base e size v n xs := by
  refine ⟨h.1, ?_⟩
  rcases h.2 with hn | ⟨g, cap, cur, rfl, hb, hg, r⟩
  · exact .inl hn
  · exact .inr ⟨g, cap, cur, rfl, hb, by rw [hk g rfl]; exact hg, r⟩
/-- The document's stream in block S, all of it from lo on and below hi: its lines, the text T that has come. -/
def RS (w : World) (lo hi S : Nat) (lns : List Cu.Ln) (T : ByteArray) : Prop :=
  ∃ (L : List (Cu.Ln × Refs)) (a : Option Addr) (cap : Nat), L.map Prod.fst = lns ∧ Blk w S [.slice a L.length cap, .string T, .int .i64 (Cu.told lns T.data.toList).length] 86 ∧
    w.ownsRow lo 162 6 (.slice a L.length cap) L.length (linesCells L) ∧ LinesOwn w lo L ∧ L.length ≤ 12 ∧ (∀ y ∈ L, y.1.items.length ≤ 200) ∧ (∀ y ∈ L, y.1.left.length ≤ 4 ∧ y.1.right.length ≤ 4) ∧ (∀ x ∈ lns, x.right.length ≤ 2) ∧ lo ≤ S ∧ RHi S hi L a cap
theorem RS.lt {w : World} {lo hi S : Nat} {lns : List Cu.Ln} {T : ByteArray} (h : RS w lo hi S lns T) : S < w.heap.size := by
  obtain ⟨L, a, cap, _, hB, _⟩ := h; exact hB.lt
theorem RS.at_ {w : World} {lo hi S : Nat} {lns : List Cu.Ln} {T : ByteArray} (h : RS w lo hi S lns T) : lo ≤ S ∧ S < hi := by
  obtain ⟨L, a, cap, _, _, _, _, _, _, _, _, h1, h2, _⟩ := h; exact ⟨h1, h2⟩
theorem RS.r2 {w : World} {lo hi S : Nat} {lns : List Cu.Ln} {T : ByteArray} (h : RS w lo hi S lns T) : ∀ x ∈ lns, x.right.length ≤ 2 := by
  obtain ⟨L, a, cap, _, _, _, _, _, _, _, h, _⟩ := h; exact h
theorem RS.same {w w' : World} {lo hi S : Nat} {lns : List Cu.Ln} {T : ByteArray} (h : RS w lo hi S lns T) (hb : ∀ k, lo ≤ k → k < hi → w'.heap[k]? = w.heap[k]?) : RS w' lo hi S lns T := by
  obtain ⟨L, a, cap, h1, h2, h3, h4, h5, h6, h7, h8, h9, h10⟩ := h
  refine ⟨L, a, cap, h1, ?_, own_same h3 (fun k hk => hb k (h3.lt k hk).1 (h10.2.1 k hk)), fun y hy => ?_, h5, h6, h7, h8, h9, h10⟩
  · unfold Blk at h2 ⊢
    rw [hb S h9 h10.1]
    exact h2
  · have i1 := h10.2.2 y hy
    have i2 := h4 y hy
    exact ⟨own_same i2.1 (fun k hk => hb k (i2.1.lt k hk).1 (i1.1 k hk)), own_same i2.2.1 (fun k hk => hb k (i2.2.1.lt k hk).1 (i1.2.1 k hk)), own_same i2.2.2 (fun k hk => hb k (i2.2.2.lt k hk).1 (i1.2.2 k hk))⟩
def OpenRes (f : ByteArray) (w : World) (e : Ending) (w' : World) : Prop :=
  ((Cu.check f.data.toList).1 ≠ 0 ∧ e = .returned (.tuple #[.pointer none, .int .i64 (Cu.check f.data.toList).1, .int .i64 (Cu.check f.data.toList).2]) ∧ Below w.heap.size w w') ∨
  ((Cu.check f.data.toList).1 = 0 ∧ ∃ S, e = .returned (.tuple #[.pointer (some ⟨S, 0, none⟩), .int .i64 0, .int .i64 0]) ∧ w.heap.size ≤ S ∧ RS w' w.heap.size w'.heap.size S (Cu.readGo f.data.toList 12 0 []).2.2 ⟨#[]⟩ ∧ Below w.heap.size w w')

set_option maxRecDepth 100000 in
set_option maxHeartbeats 1000000 in
theorem refOpen_any (f : ByteArray) (w : World) (hf : f.size ≤ 9223372036854775807) :
    Calls Tryz.prog 24 #[.string f] w fun e w' => OpenRes f w e w' := by
  go_enter Tryz.func24, Tryz.ntmps24
  go_wp2_with fail
  refine (refCheck_any f _ hf).mono ?_
  rintro e w1 ⟨rfl, hb1⟩
  have HB1 := hide hb1
  clear hb1
  by_cases h0 : (Cu.check f.data.toList).1 = 0
  · obtain ⟨hsz, hok⟩ := check_ok h0
    have hd : (((Cu.check f.data.toList).1 : Int) != 0) = false := by rw [h0]; rfl
    have HOK := hide hok
    have H0 := hide h0
    have HF := hide (Cu.readGo_fine f.data.toList 12 0 [] (fun x hx => by simp at hx))
    have HR2 := hide (Cu.readGo_right f.data.toList 12 0 [] (fun x hx => by simp at hx))
    clear h0 hok
    go_wp2_with fail
    refine (read_any f _ hsz).mono ?_
    rintro e w2 (⟨p, hg, rfl, hb2⟩ | ⟨p, cap, l, a, hg, rfl, ho, hlo, hb2⟩)
    · exfalso
      have h := unhide HOK
      rw [hg] at h
      cases h
    · have hF := unhide HF
      have hR2 := unhide HR2
      rw [hg] at hF
      have hl12 : l.length ≤ 12 := by have := hF.2; simpa using this
      have HI : Hid (∀ y ∈ l, y.1.items.length ≤ 200) := hide (fun y hy => by
        have h1 := (hF.1 y.1 (List.mem_map.2 ⟨y, hy, rfl⟩)).1
        rw [len_toList] at h1
        omega)
      have HLR : Hid (∀ y ∈ l, y.1.left.length ≤ 4 ∧ y.1.right.length ≤ 4) := hide (fun y hy => by
        have h1 := hF.1 y.1 (List.mem_map.2 ⟨y, hy, rfl⟩)
        exact ⟨h1.2.1, h1.2.2.1⟩)
      have HL : Hid ((Cu.readGo f.data.toList 12 0 []).2.2 = l.map Prod.fst) := hide (by rw [hg])
      have hs1 := (unhide HB1).size
      have hs2 := hb2.size
      have hfin : Hid (OpenRes f w (.returned (.tuple #[.pointer (some ⟨w2.heap.size, 0, none⟩), .int .i64 0, .int .i64 0])) (w2.alloc (.cells #[.slice a l.length cap, .string ⟨#[]⟩, .int .i64 0] 86))) := hide (by
        have hbb := below_two hb2 (unhide HB1)
        refine Or.inr ⟨unhide H0, w2.heap.size, rfl, by omega, ?_, hbb.alloc hbb.size _⟩
        rw [unhide HL]
        have hal : Below w2.heap.size w2 (w2.alloc (.cells #[.slice a l.length cap, .string ⟨#[]⟩, .int .i64 0] 86)) := (Below.refl _ _).alloc (Nat.le_refl _) _
        refine ⟨l, a, cap, rfl, Blk.new w2 _ _, own_base (own_below ho hal) (by omega), ?_, hl12, unhide HI, unhide HLR, by rw [← unhide HL]; exact hR2, by omega, by simp, ?_, ?_⟩
        · exact (hlo.below hal).lower hs1
        · exact fun k hk => ((own_below ho hal).lt k hk).2
        · exact fun y hy => ⟨fun k hk => ((own_below (hlo y hy).1 hal).lt k hk).2, fun k hk => ((own_below (hlo y hy).2.1 hal).lt k hk).2, fun k hk => ((own_below (hlo y hy).2.2 hal).lt k hk).2⟩)
      clear hg ho hlo hb2 hF hR2 HOK HF HR2
      go_wp2
      go_ret3
      exact unhide hfin
  · have hd : (((Cu.check f.data.toList).1 : Int) != 0) = true := by rw [bne_iff_ne]; omega
    have hfin : Hid (OpenRes f w (.returned (.tuple #[.pointer none, .int .i64 (Cu.check f.data.toList).1, .int .i64 (Cu.check f.data.toList).2])) w1) := hide (Or.inl ⟨h0, rfl, unhide HB1⟩)
    clear h0
    go_wp2
    go_ret3
    exact unhide hfin

/-- What a call of a stream answers and leaves. -/
def StRes (out : List Nat) (base hi S : Nat) (lns : List Cu.Ln) (T : ByteArray) (w : World) (e : Ending) (w' : World) : Prop :=
  ∃ (a : Option Addr) (cap : Nat), e = .returned (.slice a out.length cap) ∧ w'.ownsRow w.heap.size 3 1 (.slice a out.length cap) out.length (intCells out) ∧ RS w' base hi S lns T ∧ w.grownBy w' (some S)
/-- The rounds of Feed and End: of the list c from place n0 on. -/
def OutRel (c : List Nat) (n0 : Nat) (p : Nat → Bool) (w : World) (v iv : Value) (wr : World) : Prop :=
  ∃ (i cap : Nat) (a : Option Addr) (ol : List Nat), n0 ≤ i ∧ i ≤ c.length ∧ ol = (c.drop n0).take (i - n0) ∧ ol.length ≤ 1048578 ∧ iv = .int .i64 i ∧ v = .slice a ol.length cap ∧ wr.ownsRow w.heap.size 3 1 (.slice a ol.length cap) ol.length (intCells ol) ∧ Below w.heap.size w wr ∧ ∀ x ∈ ol, p x = true
theorem out_next {c ol : List Nat} {n0 i x cap cap' : Nat} {a a' : Option Addr} {p : Nat → Bool} {w wr W w2 : World} (h0 : n0 ≤ i) (hol : ol = (c.drop n0).take (i - n0)) (hcl : c.length ≤ 1048578) (hx : c[i]? = some x) (hp : p x = true) (hall : ∀ x ∈ ol, p x = true) (hb : Below w.heap.size w wr) (hW : Below wr.heap.size wr W)
    (hO : wr.ownsRow w.heap.size 3 1 (.slice a ol.length cap) ol.length (intCells ol))
    (ho : w2.ownsRow w.heap.size 3 1 (.slice a' (ol.length + 1) cap') (ol.length + 1) (intCells ol ++ [.int .i64 x])) (hg : W.grownBy w2 (Value.slice a ol.length cap).ownBlock) :
    OutRel c n0 p w (.slice a' (ol.length + 1) cap') (.int .i64 ((i : Int) + 1)) w2 := by
  have hi : i < c.length := (List.getElem?_eq_some_iff.1 hx).1
  have hxD : (c.drop n0)[i - n0]? = some x := by rw [List.getElem?_drop, show n0 + (i - n0) = i by omega]; exact hx
  have e1 : (c.drop n0).take (i + 1 - n0) = ol ++ [x] := by rw [show i + 1 - n0 = i - n0 + 1 by omega, List.take_add_one, hxD, hol]; rfl
  have hlen : (ol ++ [x]).length = ol.length + 1 := by simp
  refine ⟨i + 1, cap', a', ol ++ [x], by omega, by omega, e1.symm, ?_, by go_num, by rw [hlen], ?_, ?_, ?_⟩
  · rw [← e1, List.length_take, List.length_drop]; omega
  · rw [hlen, intCells_snoc]; exact ho
  · exact (hb.trans (hW.mono hb.size)).grown hg (by have := hW.size; have := hb.size; omega) (fun k hk => (hO.lt k hk).1)
  · intro y hy
    rcases List.mem_append.1 hy with h | h
    · exact hall y h
    · simp at h; subst h; exact hp

set_option maxRecDepth 100000 in
set_option maxHeartbeats 2000000 in
theorem refFeed_any (S base hi : Nat) (lns : List Cu.Ln) (T b : ByteArray) (w : World) (hR : RS w base hi S lns T) (hsz : T.size + b.size ≤ 1048576) :
    Calls Tryz.prog 17 #[.pointer (some ⟨S, 0, none⟩), .string b] w fun e w' => StRes (Cu.feedP lns (T ++ b).data.toList (Cu.told lns T.data.toList).length) base hi S lns (T ++ b) w e w' := by
  obtain ⟨i0, ki, kz0, kz1, kz2⟩ := info_parts Tryz.info3
  obtain ⟨L, a, cap, hL, hB, ho, hlo, hl12, hI, hF, hr2, hlo9, hhi⟩ := hR
  have hle : (Cu.told lns T.data.toList).length ≤ (Cu.told lns (T ++ b).data.toList).length := by rw [app_list]; exact Cu.told_le hr2 _ _
  have hfp := Cu.feed_pred lns (T ++ b).data.toList _ hle
  have hszT : (T ++ b).size = T.size + b.size := by simp
  have hse := Cu.stEnd_le (T ++ b).data.toList (T ++ b).data.toList.length 0 (Nat.zero_le _)
  rw [len_toList] at hse
  have hcut9 : ¬ 9223372036854775807 < T.size + b.size := by omega
  have hcs0 := Cu.chars_settled (T ++ b).data.toList
  have hclen : (Cu.sChars (T ++ b).data.toList).length ≤ 1048576 := by
    have h9 := chars_len ((T ++ b).extract 0 (Cu.sEnd (T ++ b).data.toList))
    rw [ext_list, hcs0] at h9
    have h10 : ((T ++ b).extract 0 (Cu.sEnd (T ++ b).data.toList)).size ≤ 1048576 := by simp; unfold Cu.sEnd; rw [← app_list, len_toList]; omega
    omega
  have hcl4 : (Cu.cutsR lns ((T ++ b).data.toList.take (Cu.sEnd (T ++ b).data.toList))).length ≤ 1048578 := by
    unfold Cu.cutsR
    rw [hcs0, List.length_append]
    have := Cu.cutsTo_len lns (Cu.sChars (T ++ b).data.toList) (Cu.sChars (T ++ b).data.toList).length
    split
    · rw [List.length_singleton]; omega
    · rw [List.length_nil]; omega
  have hn0c : (Cu.told lns T.data.toList).length ≤ (Cu.cutsR lns ((T ++ b).data.toList.take (Cu.sEnd (T ++ b).data.toList))).length := by
    have h7 : (Cu.told lns (T ++ b).data.toList).length ≤ (Cu.cutsR lns ((T ++ b).data.toList.take (Cu.sEnd (T ++ b).data.toList))).length := by
      unfold Cu.told Cu.cutsR
      rw [hcs0, List.length_append]
      obtain ⟨q, hq⟩ := Cu.cutsTo_mono lns (Cu.sChars (T ++ b).data.toList) (n := (Cu.sChars (T ++ b).data.toList).length - 1) (m := (Cu.sChars (T ++ b).data.toList).length) (by omega)
      rw [hq, List.length_append]
      omega
    omega
  have hlast : Hid (Cu.lastBut (Cu.sChars (T ++ b).data.toList) = ((Cu.sChars (T ++ b).data.toList).getD ((Cu.sChars (T ++ b).data.toList).length - 2) (0, 0, 0)).1) := hide rfl
  have hS1 : w.cell? ⟨S, 1, none⟩ = some (.string T) := hB.cell 1
  have hS1f : w.frozen? ⟨S, 1, none⟩ = false := hB.free 1
  have hSl := hB.lt
  have hB1 := hB.setSame 1 (.string (T ++ b))
  have hg1 := grownS w S 1 (.string (T ++ b))
  have ho1 := own_keptS hB hg1 ho (by decide)
  have hlo1 := hlo.keptS hB hg1 (by decide) (by decide)
  have HSET := hide (settled_any (T ++ b) (w.setCell ⟨S, 1, none⟩ (.string (T ++ b))) (by omega))
  have HB1 := hide hB1
  have HG1 := hide hg1
  have HO1 := hide ho1
  have HLO1 := hide hlo1
  have HL := hide hL
  have HI := hide hI
  have HF := hide hF
  have HR2 := hide hr2
  have HHI := hide hhi
  have HFP := hide hfp
  have hsw1 : (w.setCell ⟨S, 1, none⟩ (.string (T ++ b))).heap.size = w.heap.size := by simp [World.setCell]
  clear hB ho hlo hB1 hg1 ho1 hlo1 hL hI hF hr2 hfp hhi
  have hts : ((T ++ b).extract 0 (Cu.sEnd (T ++ b).data.toList)).size ≤ 1048576 := by simp; unfold Cu.sEnd; rw [← app_list, len_toList]; omega
  have htl : ((T ++ b).extract 0 (Cu.sEnd (T ++ b).data.toList)).data.toList = (T ++ b).data.toList.take (Cu.sEnd (T ++ b).data.toList) := ext_list _ _
  have HCH := hide (fun W => chars_any ((T ++ b).extract 0 (Cu.sEnd (T ++ b).data.toList)) W hts)
  unfold CharsRes at HCH
  rw [htl, hcs0] at HCH
  have HCU := hide (fun W (hW : Below (w.setCell ⟨S, 1, none⟩ (.string (T ++ b))).heap.size (w.setCell ⟨S, 1, none⟩ (.string (T ++ b))) W) => cuts_any L a cap base ((T ++ b).extract 0 (Cu.sEnd (T ++ b).data.toList)) W (own_below (unhide HO1) hW) ((unhide HLO1).below hW) hl12 (unhide HI) (unhide HF) hts)
  rw [htl, unhide HL] at HCU
  clear htl hcs0 hse
  generalize hn0d : (Cu.told lns T.data.toList).length = n0 at *
  generalize (T ++ b).extract 0 (Cu.sEnd (T ++ b).data.toList) = ts at *
  generalize Cu.cutsR lns ((T ++ b).data.toList.take (Cu.sEnd (T ++ b).data.toList)) = c at *
  generalize hcsd : Cu.sChars (T ++ b).data.toList = cs at *
  generalize hlb : Cu.lastBut cs = lb at *
  go_enter Tryz.func17, Tryz.ntmps17
  go_wp2_with fail
  refine (unhide HSET).mono ?_
  rintro e w2 ⟨rfl, hb2⟩
  generalize hW1 : w.setCell ⟨S, 1, none⟩ (.string (T ++ b)) = w1 at *
  have hSl1 : S < w1.heap.size := by omega
  have hs2 := hb2.size
  have HB2 := hide hb2
  clear hb2
  go_wp2_with fail
  refine (unhide HCH w2).mono ?_
  rintro e w3 ⟨ac, capc, rfl, hoc, hb3⟩
  have hb13 := below_two hb3 (unhide HB2)
  have hS0 : w3.cell? ⟨S, 0, none⟩ = some (.slice a L.length cap) := ((unhide HB1).below hb13 hSl1).cell 0
  have HB3 := hide hb13
  have HOC := hide hoc
  clear hoc hb3 hb13
  go_wp2_with fail
  refine (unhide HCU w3 (unhide HB3)).mono ?_
  rintro e w4 ⟨ad, capd, rfl, hod, hb4⟩
  have hb14 := below_two hb4 (unhide HB3)
  have hB4 := (unhide HB1).below hb14 hSl1
  have hS2 : w4.cell? ⟨S, 2, none⟩ = some (.int .i64 n0) := hB4.cell 2
  have HB4 := hide hB4
  have HBL4 := hide hb14
  have HOC4 := hide (own_below (unhide HOC) hb4)
  have HOD := hide hod
  have hSl4 := hB4.lt
  clear hod hb4 hb14 hB4
  go_wp2
  go_loopw [8, 9] (fun v i wr => OutRel c n0 (fun x => decide (2 ≤ cs.length ∧ x ≤ lb)) w4 v i wr) (fun _ i _ => 1048580 - (intOf i).toNat)
  case atStart =>
    go_light
    exact ⟨n0, 0, none, [], Nat.le_refl _, hn0c, by simp, by simp, rfl, rfl, World.ownsRow_nil _ _ _ _, Below.refl _ _, fun x hx => by simp at hx⟩
  case round =>
    obtain ⟨i, capo, ao, ol, h0i, hic, hol, holl, rfl, rfl, hoo, hb, hall⟩ := hrel
    have HOL := hide hol
    have HOO := hide hoo
    have HBR := hide hb
    have HALL := hide hall
    have hbs := hb.size
    have hend : Hid ((∀ x, c[i]? = some x → decide (2 ≤ cs.length ∧ x ≤ lb) = false) → ∀ W, Below wr.heap.size wr W → StRes (Cu.feedP lns (T ++ b).data.toList n0) base hi S lns (T ++ b) w (.returned (.slice ao ol.length capo)) ((W.setCell ⟨S, 2, none⟩ (.int .i64 ((n0 : Int) + (ol.length : Int)))))) := hide (fun hstop W hW => by
      have hbW := below_two hW hb
      have hw := Cu.while_take (l := c.drop n0) (m := i - n0) (p := fun x => decide (2 ≤ cs.length ∧ x ≤ lb)) (by rw [← unhide HOL]; exact unhide HALL) (fun x hx => hstop x (by rw [List.getElem?_drop, show n0 + (i - n0) = i by omega] at hx; exact hx))
      have hout : Cu.feedP lns (T ++ b).data.toList n0 = ol := by rw [← unhide HFP, hw, unhide HOL]
      have hBr := (unhide HB4).below hbW hSl4
      have hgr := grownS W S 2 (.int .i64 ((n0 : Int) + (ol.length : Int)))
      have hnum : (Cu.told lns (T ++ b).data.toList).length = n0 + ol.length := by
        rw [← hout]
        unfold Cu.feedP
        rw [List.length_drop]
        omega
      rw [hout]
      have hbw : Below w1.heap.size w1 W := below_two hbW (unhide HBL4)
      refine ⟨ao, capo, rfl, own_base (own_keptS hBr hgr (own_below hoo hW) (by decide)) (by have := (unhide HBL4).size; omega), ⟨L, a, cap, unhide HL, ?_, own_keptS hBr hgr (own_below (unhide HO1) hbw) (by decide), ((unhide HLO1).below hbw).keptS hBr hgr (by decide) (by decide), hl12, unhide HI, unhide HF, unhide HR2, hlo9, unhide HHI⟩, grown_tr (grown_tr (unhide HG1) (grown_of_below hbw _)) hgr⟩
      rw [hnum]
      have := hBr.setSame 2 (.int .i64 ((n0 : Int) + (ol.length : Int)))
      simpa using this)
    have hSr : wr.cell? ⟨S, 2, none⟩ = some (.int .i64 n0) := by rw [(bcell hb).1 S _ hSl4]; exact hS2
    have hSrf : wr.frozen? ⟨S, 2, none⟩ = false := ((unhide HB4).below hb hSl4).free 2
    clear hol
    by_cases hlt : i < c.length
    · obtain ⟨gd, x, hgd, hx, cd⟩ := int_cell (own_below (unhide HOD) hb) i hlt
      have hlti : (i : Int) < (c.length : Int) := by omega
      by_cases h2 : 2 ≤ cs.length
      · obtain ⟨k, hk⟩ : ∃ k, cs.length = k + 2 := ⟨cs.length - 2, by omega⟩
        obtain ⟨gc, y, hgc, hy, hgl, cc0, cc1, cc2⟩ := chr_cells (own_below (unhide HOC4) hb) k (by omega)
        have hyl : y.1 = lb := by
          rw [unhide hlast, hk, show k + 2 - 2 = k by omega, List.getD_eq_getElem?_getD, hy]
          rfl
        rw [hyl] at cc0
        subst hgd hgc
        have h2i : (2 : Int) ≤ (cs.length : Int) := by omega
        have hki : (cs.length : Int) - 2 = (k : Int) := by omega
        have hkl : k < cs.length := by omega
        have hkli : (k : Int) < (cs.length : Int) := by omega
        by_cases hxl : x ≤ lb
        · have hxlI : (x : Int) ≤ (lb : Int) := by omega
          have hcap : (ol.length + 1) * 8 ≤ 140737488355328 := by omega
          have hmax : ol.length + 1 ≤ maxLen := by unfold maxLen; omega
          have hdone := hide (fun (a' : Option Addr) (cap' : Nat) (W w2 : World) => out_next (n0 := n0) (a := ao) (cap := capo) (a' := a') (cap' := cap') (W := W) (w2 := w2) h0i (unhide HOL) hcl4 hx (decide_eq_true (show 2 ≤ cs.length ∧ x ≤ lb from ⟨h2, hxl⟩)) (unhide HALL) (unhide HBR))
          clear hend hall hoo hb hx hyl hy hk cc1 cc2 hlast
          go_wp2
          go_quiet (fail)
          go_wp2_with (at_builtin; refine wpList_append_own _ rfl (.tmp 61) (.tmp 66) 30 rfl w4.heap.size 3 i0 (.int .i64 0) 1 8 Tryz.underlying30 ki kz0 kz1 kz2 rfl (by decide) (.slice ao ol.length capo) ol.length (intCells ol) rfl (own_below (unhide HOO) (((Below.refl _ _).alloc (Nat.le_refl _) _).trans (below_drewN (Below.refl _ _) nq))) ⟨wr.heap.size, 0, none⟩ 1 1 [.int .i64 x] rfl rfl (news_new _ _ rfl _ _) (one1 _) hmax hcap (by simp; omega) ?_; intro v' w5 hown' hgrow _; refine Hid.out ?_)
          refine hide ?_
          obtain ⟨a', cap', hv'⟩ := own_form hown'
          subst hv'
          have hrel2 := hide (unhide hdone a' cap' _ w5 (((Below.refl _ _).alloc (Nat.le_refl _) _).trans (below_drewN (Below.refl _ _) nq)) (unhide HOO) hown' hgrow)
          clear hown' hgrow
          go_wp2
          go_roundw
          case rel => first | exact unhide hrel2 | ((repeat apply Exists.intro); exact ⟨unhide hrel2, rfl⟩)
          case measure => simp [intOf]; omega
        · have hxli : decide (x ≤ lb) = false := decide_eq_false hxl
          have hxlI : decide ((x : Int) ≤ (lb : Int)) = false := decide_eq_false (by omega)
          have hfin := hide (unhide hend (fun y hy => by
            rw [hx] at hy
            simp only [Option.some.injEq] at hy
            subst hy
            exact decide_eq_false (fun h => hxl h.2)))
          clear hend hall hoo hb hx hyl hy hk cc1 cc2 hxl hlast
          go_wp2
          go_quiet (fail)
          go_wp2
          go_ret
          exact unhide hfin _ (below_drewN (Below.refl _ _) _)
      · have h2i : decide ((2 : Int) ≤ (cs.length : Int)) = false := decide_eq_false (by omega)
        have hfin := hide (unhide hend (fun y hy => decide_eq_false (fun h => h2 h.1)))
        subst hgd
        clear hend hall hoo hb hx hlast
        go_wp2
        go_quiet (fail)
        go_wp2
        go_ret
        exact unhide hfin _ (below_drewN (Below.refl _ _) _)
    · have hlti : decide ((i : Int) < (c.length : Int)) = false := decide_eq_false (by omega)
      have hltn : decide (i < c.length) = false := decide_eq_false hlt
      have hfin := hide (unhide hend (fun y hy => by
        have := (List.getElem?_eq_some_iff.1 hy).1
        omega))
      clear hend hall hoo hb hlast
      go_wp2
      go_quiet (fail)
      go_wp2
      go_ret
      exact unhide hfin _ (below_drewN (Below.refl _ _) _)

set_option maxRecDepth 100000 in
set_option maxHeartbeats 2000000 in
theorem refEnd_any (S base hi : Nat) (lns : List Cu.Ln) (T : ByteArray) (w : World) (hR : RS w base hi S lns T) (hsz : T.size ≤ 1048576) :
    Calls Tryz.prog 21 #[.pointer (some ⟨S, 0, none⟩)] w fun e w' => StRes (Cu.endP lns T.data.toList (Cu.told lns T.data.toList).length) base hi S lns ⟨#[]⟩ w e w' := by
  obtain ⟨i0, ki, kz0, kz1, kz2⟩ := info_parts Tryz.info3
  obtain ⟨L, a, cap, hL, hB, ho, hlo, hl12, hI, hF, hr2, hlo9, hhi⟩ := hR
  have hS0 : w.cell? ⟨S, 0, none⟩ = some (.slice a L.length cap) := hB.cell 0
  have hS1 : w.cell? ⟨S, 1, none⟩ = some (.string T) := hB.cell 1
  have hSl := hB.lt
  have HCU := hide (fun W (hW : Below w.heap.size w W) => cuts_any L a cap base T W (own_below ho hW) (hlo.below hW) hl12 hI hF hsz)
  rw [hL] at HCU
  have hn0c : (Cu.told lns T.data.toList).length ≤ (Cu.cutsR lns T.data.toList).length := by
    obtain ⟨r, hr⟩ := Cu.told_all hr2 T.data.toList []
    rw [List.append_nil] at hr
    rw [hr, List.length_append]
    omega
  have hcl : (Cu.cutsR lns T.data.toList).length ≤ 1048578 := by
    unfold Cu.cutsR
    rw [List.length_append]
    have h1 := Cu.cutsTo_len lns (Cu.chars T.data.toList) (Cu.chars T.data.toList).length
    have h2 := chars_len T
    split
    · rw [List.length_singleton]; omega
    · rw [List.length_nil]; omega
  have HB0 := hide hB
  have HO := hide ho
  have HLO := hide hlo
  have HL := hide hL
  have HI := hide hI
  have HF := hide hF
  have HR2 := hide hr2
  have HHI := hide hhi
  have hep : Hid (Cu.endP lns T.data.toList (Cu.told lns T.data.toList).length = (Cu.cutsR lns T.data.toList).drop (Cu.told lns T.data.toList).length) := hide rfl
  clear hB ho hlo hL hI hF hr2 hhi
  generalize hn0d : (Cu.told lns T.data.toList).length = n0 at *
  generalize Cu.cutsR lns T.data.toList = c at *
  go_enter Tryz.func21, Tryz.ntmps21
  go_upto_region 1 with fail
  go_cut [3] (fun v wc => ∃ (ad : Option Addr) (capd : Nat), v = .slice ad c.length capd ∧ wc.ownsRow w.heap.size 3 1 (.slice ad c.length capd) c.length (intCells c) ∧ Below w.heap.size w wc)
  case first =>
    go_region_with (go_at_call 37; refine (unhide HCU _ ((Below.refl _ _).drew)).mono ?_; rintro e w4 ⟨ad, capd, rfl, hod, hb4⟩)
    all_goals
      go_wp2_with fail
      go_meet
      case rel => exact ⟨ad, capd, rfl, hod, below_two hb4 ((Below.refl _ _).drew)⟩
  case rest =>
    obtain ⟨ad, capd, rfl, hod, hb4⟩ := hcut
    have hB4 := (unhide HB0).below hb4 hSl
    have hS2 : wc.cell? ⟨S, 2, none⟩ = some (.int .i64 n0) := hB4.cell 2
    have HB4 := hide hB4
    have HBL4 := hide hb4
    have HOD := hide hod
    have hSl4 := hB4.lt
    have hs4 := hb4.size
    clear hod hb4 hB4
    go_wp2
    go_loopw [4, 5] (fun v i wr => OutRel c n0 (fun _ => true) wc v i wr) (fun _ i _ => 1048580 - (intOf i).toNat)
    case atStart =>
      go_light
      exact ⟨n0, 0, none, [], Nat.le_refl _, hn0c, by simp, by simp, rfl, rfl, World.ownsRow_nil _ _ _ _, Below.refl _ _, fun x hx => by simp at hx⟩
    case round =>
      obtain ⟨i, capo, ao, ol, h0i, hic, hol, holl, rfl, rfl, hoo, hb, hall⟩ := hrel
      have HOL := hide hol
      have HOO := hide hoo
      have HBR := hide hb
      have HALL := hide hall
      have hbs := hb.size
      clear hol
      by_cases hlt : i < c.length
      · obtain ⟨gd, x, hgd, hx, cd⟩ := int_cell (own_below (unhide HOD) hb) i hlt
        subst hgd
        have hcap : (ol.length + 1) * 8 ≤ 140737488355328 := by omega
        have hmax : ol.length + 1 ≤ maxLen := by unfold maxLen; omega
        have hdone := hide (fun (a' : Option Addr) (cap' : Nat) (W w2 : World) => out_next (n0 := n0) (p := fun _ => true) (a := ao) (cap := capo) (a' := a') (cap' := cap') (W := W) (w2 := w2) h0i (unhide HOL) hcl hx rfl (unhide HALL) (unhide HBR))
        clear hall hoo hb hx
        go_wp2_with (at_builtin; refine wpList_append_own _ rfl (.tmp 25) (.tmp 30) 30 rfl wc.heap.size 3 i0 (.int .i64 0) 1 8 Tryz.underlying30 ki kz0 kz1 kz2 rfl (by decide) (.slice ao ol.length capo) ol.length (intCells ol) rfl ((unhide HOO).alloc _) ⟨wr.heap.size, 0, none⟩ 1 1 [.int .i64 x] rfl rfl (news_new _ _ rfl _ _) (one1 _) hmax hcap (by simp; omega) ?_; intro v' w5 hown' hgrow _; refine Hid.out ?_)
        refine hide ?_
        obtain ⟨a', cap', hv'⟩ := own_form hown'
        subst hv'
        have hrel2 := hide (unhide hdone a' cap' _ w5 ((Below.refl _ _).alloc (Nat.le_refl _) _) (unhide HOO) hown' hgrow)
        clear hown' hgrow
        go_wp2
        go_roundw
        case rel => first | exact unhide hrel2 | ((repeat apply Exists.intro); exact ⟨unhide hrel2, rfl⟩)
        case measure => simp [intOf]; omega
      · have hBr := (unhide HB4).below hb hSl4
        have hSr1f : wr.frozen? ⟨S, 1, none⟩ = false := hBr.free 1
        have hSr2f : wr.frozen? ⟨S, 2, none⟩ = false := hBr.free 2
        have hSr1 : wr.cell? ⟨S, 1, none⟩ = some (.string T) := hBr.cell 1
        have hSr2 : wr.cell? ⟨S, 2, none⟩ = some (.int .i64 n0) := by rw [(bcell hb).1 S _ hSl4]; exact hS2
        have hfin : Hid (StRes (Cu.endP lns T.data.toList n0) base hi S lns ⟨#[]⟩ w (.returned (.slice ao ol.length capo)) ((wr.setCell ⟨S, 1, none⟩ (.string ⟨#[]⟩)).setCell ⟨S, 2, none⟩ (.int .i64 0))) := hide (by
          have e9 : c.drop n0 = ol := by rw [unhide HOL, List.take_of_length_le (by rw [List.length_drop]; omega)]
          rw [unhide hep, e9]
          have hg1 := grownS wr S 1 (.string ⟨#[]⟩)
          have hB1 := hBr.setSame 1 (.string ⟨#[]⟩)
          have hg2 := grownS (wr.setCell ⟨S, 1, none⟩ (.string ⟨#[]⟩)) S 2 (.int .i64 0)
          have hB2 := hB1.setSame 2 (.int .i64 0)
          have hg12 := grown_tr hg1 hg2
          have hbw : Below w.heap.size w wr := below_two hb (unhide HBL4)
          exact ⟨ao, capo, rfl, own_base (own_keptS hBr hg12 hoo (by decide)) hs4, ⟨L, a, cap, unhide HL, hB2, own_keptS hBr hg12 (own_below (unhide HO) hbw) (by decide), ((unhide HLO).below hbw).keptS hBr hg12 (by decide) (by decide), hl12, unhide HI, unhide HF, unhide HR2, hlo9, unhide HHI⟩, grown_tr (grown_of_below hbw _) hg12⟩)
        clear hall hoo hb hBr
        go_wp2
        go_ret
        exact unhide hfin
end Go.Proofs.YtbppbejigedioabGreatDoor
