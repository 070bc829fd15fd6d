/- Walks: the reference's class. -/
import Derived.Test.YtbppbejigedioabGreatDoorRefA
import Derived.Test.YtbppbejigedioabGreatDoorBlocks
import Derived.Test.YtbppbejigedioabGreatDoorPlainA
namespace Go.Proofs.YtbppbejigedioabGreatDoor
open Go.RowKit

theorem itemChar_no (s : ByteArray) (i : Int) (w : World) (hs : s.size ≤ 200) (h0 : 0 ≤ i) (h1 : i ≤ s.size) (h : Cu.itemOk s.data.toList i.toNat = false) :
    Calls Tryz.prog 106 #[.string s, .int .i64 i] w fun e w' => e = .returned (.tuple #[.agg #[.int .i64 0, .int .i64 0, .int .i64 0], .int .i64 (Cu.itemEnd s.data.toList i.toNat), .bool false]) ∧ Below w.heap.size w w' := by
  refine (itemChar_any s i w (by omega) h0 h1).mono ?_
  rintro e w' ⟨rfl, hb⟩
  exact ⟨by rw [itemRes_no h rfl], hb⟩
theorem itemChar_ok (s : ByteArray) (i : Int) (w : World) (hs : s.size ≤ 200) (h0 : 0 ≤ i) (h1 : i ≤ s.size) (h : Cu.itemOk s.data.toList i.toNat = true) :
    Calls Tryz.prog 106 #[.string s, .int .i64 i] w fun e w' => e = .returned (.tuple #[.agg #[.int .i64 (i.toNat : Nat), .int .i64 (Cu.itemN s.data.toList i.toNat), .int .i64 (Cu.itemCode s.data.toList i.toNat)], .int .i64 (Cu.itemEnd s.data.toList i.toNat), .bool true]) ∧ Below w.heap.size w w' := by
  refine (itemChar_any s i w (by omega) h0 h1).mono ?_
  rintro e w' ⟨rfl, hb⟩
  exact ⟨by unfold itemRes Cu.itemAt; rw [h]; rfl, hb⟩

/-- An item's three cells. -/
def itemCells : List Cu.Item → List Value
  | [] => []
  | x :: r => [.int .i64 x.1, .int .i64 x.2.1, .int .i64 x.2.2] ++ itemCells r

theorem Tryz.info207 : (Tryz.prog.info? 207).map (fun i => (i.zero, i.size, i.bytes)) = some (some (.agg #[.int .i64 0, .int .i64 0, .int .i64 0]), 3, 24) := by kernel_rfl

/-- What holds at the head of class's loop. -/
def ClassRel (s : ByteArray) (i : Nat) (w : World) (x : Value) (wr : World) : Prop :=
  ∃ (j f cap : Nat) (l : List Cu.Item) (a : Option Addr), i + 2 ≤ j ∧ j ≤ s.size ∧ x = .int .i64 j ∧ l.length ≤ j ∧ s.size < f + j ∧
    Blk wr w.heap.size [.int .u8 0, .slice none 0 0, .int .u8 0, .slice none 0 0, .slice none 0 0, .int .i64 0] 162 ∧
    Blk wr (w.heap.size + 1) [.int .u8 (Cu.byt s.data.toList i), .slice a l.length cap, .int .u8 0, .slice none 0 0, .slice none 0 0, .int .i64 i] 162 ∧
    wr.ownsRow (w.heap.size + 2) 207 3 (.slice a l.length cap) l.length (itemCells l) ∧ Below w.heap.size w wr ∧ w.heap.size + 2 ≤ wr.heap.size ∧
    Cu.classGo s.data.toList f j l = Cu.classGo s.data.toList (s.size + 1) (i + 2) []

theorem itemCells_snoc (l : List Cu.Item) (x : Cu.Item) : itemCells (l ++ [x]) = itemCells l ++ [.int .i64 x.1, .int .i64 x.2.1, .int .i64 x.2.2] := by
  induction l with
  | nil => rfl
  | cons y l ih => simp [itemCells, ih]

/-- Behind the append: the old blocks. -/
theorem class_grow {w w1 w2 W : World} {a : Option Addr} {n cap : Nat} {xs cs0 cs1 : List Value} {t e : TypeId} (hW : Below w1.heap.size w1 W) (ho : w1.ownsRow (w.heap.size + 2) e 3 (.slice a n cap) n xs)
    (hB0 : Blk w1 w.heap.size cs0 t) (hB1 : Blk w1 (w.heap.size + 1) cs1 t) (hbel : Below w.heap.size w w1) (hg : W.grownBy w2 (Value.slice a n cap).ownBlock) :
    Blk w2 w.heap.size cs0 t ∧ Blk w2 (w.heap.size + 1) cs1 t ∧ Below w.heap.size w w2 ∧ w.heap.size + 2 ≤ w2.heap.size := by
  have h0 := hB0.lt
  have h1 := hB1.lt
  have hs := hW.size
  refine ⟨(hB0.below hW h0).grown hg (row_ne_low' ho (by omega)), (hB1.below hW h1).grown hg (row_ne_low' ho (by omega)), ?_, ?_⟩
  · exact (hbel.trans (hW.mono (by omega))).grown hg (by omega) (fun k hk => by have := (ho.lt k hk).1; omega)
  · have := hg.size; omega

theorem class_step {s : ByteArray} {i j' g cap cap' : Nat} {l : List Cu.Item} {x : Cu.Item} {a a' : Option Addr} {w w2 : World} (h1 : i + 2 ≤ j') (h2 : j' ≤ s.size) (h3 : l.length + 1 ≤ j') (h4 : s.size < g + j')
    (hB0 : Blk w2 w.heap.size [.int .u8 0, .slice none 0 0, .int .u8 0, .slice none 0 0, .slice none 0 0, .int .i64 0] 162)
    (hB1 : Blk w2 (w.heap.size + 1) [.int .u8 (Cu.byt s.data.toList i), .slice a l.length cap, .int .u8 0, .slice none 0 0, .slice none 0 0, .int .i64 i] 162)
    (ho : w2.ownsRow (w.heap.size + 2) 207 3 (.slice a' (l.length + 1) cap') (l.length + 1) (itemCells l ++ [.int .i64 x.1, .int .i64 x.2.1, .int .i64 x.2.2]))
    (hbel : Below w.heap.size w w2) (hsz : w.heap.size + 2 ≤ w2.heap.size)
    (hgo : Cu.classGo s.data.toList g j' (l ++ [x]) = Cu.classGo s.data.toList (s.size + 1) (i + 2) []) :
    ClassRel s i w (.int .i64 j') (w2.setCell ⟨w.heap.size + 1, 1, none⟩ (.slice a' (l.length + 1) cap')) := by
  have hlen : (l ++ [x]).length = l.length + 1 := by simp
  refine ⟨j', g, cap', l ++ [x], a', h1, h2, rfl, by omega, h4, hB0.setOther _ _ (by simp), ?_, ?_, hbel.setCell (by simp) _, by simpa [World.setCell] using hsz, hgo⟩
  · rw [hlen]; exact hB1.setSame 1 _
  · rw [hlen, itemCells_snoc]; exact ownsRow_setCell_below ho (by simp) _

/-- What class hands back. -/
def ClassRes (s : ByteArray) (i : Nat) (w : World) (e : Ending) (w' : World) : Prop :=
  ∃ (a : Option Addr) (cap : Nat) (b : Bool) (p : Nat) (l : List Cu.Item), Cu.classGo s.data.toList (s.size + 1) (i + 2) [] = (b, p, l) ∧
    e = .returned (.tuple #[.agg #[.int .u8 (Cu.byt s.data.toList i), .slice a l.length cap, .int .u8 0, .slice none 0 0, .slice none 0 0, .int .i64 i], .int .i64 p, .bool b]) ∧
    w'.ownsRow w.heap.size 207 3 (.slice a l.length cap) l.length (itemCells l) ∧ Below w.heap.size w w'

set_option maxRecDepth 100000 in
set_option maxHeartbeats 2000000 in
theorem class_any (s : ByteArray) (i : Nat) (w : World) (hs : s.size ≤ 200) (h1 : i + 2 ≤ s.size) :
    Calls Tryz.prog 71 #[.string s, .int .i64 i] w fun e w' => ClassRes s i w e w' := by
  have hb := byt_lt s.data.toList i
  have hi : i < s.size := by omega
  have hbe := byt_eq s i hi
  obtain ⟨i0, ki, kz0, kz1, kz2⟩ := info_parts Tryz.info207
  go_enter Tryz.func71, Tryz.ntmps71
  go_wp2
  go_loopw [1] (fun x wr => ClassRel s i w x wr) (fun x _ => s.size + 1 - (intOf x).toNat)
  case atStart =>
    go_light
    exact ⟨i + 2, s.size + 1, 0, [], none, Nat.le_refl _, h1, by go_num, Nat.zero_le _, by omega, (Blk.new w _ _).alloc _, Blk.new' _ _ (by simp) _ _, World.ownsRow_nil _ _ _ _, ((Below.refl _ _).alloc (Nat.le_refl _) _).alloc (by simp) _, by simp, rfl⟩
  case round =>
    obtain ⟨j, f, cap, l, a, hj0, hj, rfl, hl, hf, hB0, hB1, hown, hbel, hsz, hgo⟩ := hrel
    obtain ⟨g, rfl⟩ : ∃ g, f = g + 1 := ⟨f - 1, by omega⟩
    have HG := hide hgo
    have HO := hide hown
    clear hgo hbe hb hi hown
    obtain ⟨c0, c1, c2, c3, c4, c5, c6⟩ := hB1.six
    obtain ⟨y0, y1, y2, y3, y4, y5, y6⟩ := hB0.six
    have hB1lt := hB1.lt
    by_cases hdone : l ≠ [] ∧ Cu.more s.data.toList j = false
    · have hr : Hid (Cu.classGo s.data.toList (s.size + 1) (i + 2) [] = (true, j, l)) := hide (by rw [← unhide HG, Cu.classGo_done hdone])
      have hlen : ((l.length : Int) == 0) = false := by
        rw [beq_eq_false_iff_ne]; intro h; exact hdone.1 (List.length_eq_zero_iff.1 (by omega))
      have hm := hdone.2
      unfold Cu.more at hm
      rw [len_toList, Bool.and_eq_false_iff] at hm
      have hm2 : ¬ j < s.size ∨ (j < s.size ∧ Cu.byt s.data.toList j = 59) := by
        rcases hm with h | h
        · left; simpa using h
        · by_cases h2 : j < s.size
          · right; exact ⟨h2, by simpa using h⟩
          · left; exact h2
      clear hm hdone
      rcases hm2 with h2 | ⟨h2, h3⟩
      · go_wp2
        exact bodyPost_ret (v := .tuple #[.agg #[.int .u8 (Cu.byt s.data.toList i), .slice a l.length cap, .int .u8 0, .slice none 0 0, .slice none 0 0, .int .i64 i], .int .i64 j, .bool true]) (by simp [results, Tryz.results71, go_sem, *]) rfl ⟨a, cap, true, j, l, unhide hr, rfl, own_base (own_set6 (unhide HO) (by omega) _ _ _ _ _ _) (by omega), below_set6 hbel (Nat.le_refl _) _ _ _ _ _ _⟩
      · have hbe := byt_eq s j h2
        have hb := byt_lt s.data.toList j
        have h4 : ((Cu.byt s.data.toList j : Int) != 59) = false := by rw [h3]; rfl
        clear h3
        go_wp2
        exact bodyPost_ret (v := .tuple #[.agg #[.int .u8 (Cu.byt s.data.toList i), .slice a l.length cap, .int .u8 0, .slice none 0 0, .slice none 0 0, .int .i64 i], .int .i64 j, .bool true]) (by simp [results, Tryz.results71, go_sem, *]) rfl ⟨a, cap, true, j, l, unhide hr, rfl, own_base (own_set6 (unhide HO) (by omega) _ _ _ _ _ _) (by omega), below_set6 hbel (Nat.le_refl _) _ _ _ _ _ _⟩
    · have hent : ((l.length : Int) == 0) = true ∨ (((l.length : Int) == 0) = false ∧ j < s.size ∧ ((Cu.byt s.data.toList j : Int) != 59) = true) := by
        by_cases hl0 : l = []
        · left; rw [hl0]; rfl
        · right
          have hm : Cu.more s.data.toList j = true := by
            cases h : Cu.more s.data.toList j with
            | true => rfl
            | false => exact absurd ⟨hl0, h⟩ hdone
          unfold Cu.more at hm
          rw [len_toList] at hm
          simp only [Bool.and_eq_true, decide_eq_true_eq, Bool.not_eq_true', beq_eq_false_iff_ne, ne_eq] at hm
          refine ⟨?_, hm.1, ?_⟩
          · rw [beq_eq_false_iff_ne]; intro h; exact hl0 (List.length_eq_zero_iff.1 (by omega))
          · rw [bne_iff_ne]; intro h; exact hm.2 (by omega)
      have hie := Cu.itemEnd_le s.data.toList j (by rw [len_toList]; exact hj)
      rw [len_toList] at hie
      cases hok : Cu.itemOk s.data.toList j with
      | false =>
        have hr : Hid (Cu.classGo s.data.toList (s.size + 1) (i + 2) [] = (false, Cu.itemEnd s.data.toList j, l)) := hide (by rw [← unhide HG, Cu.classGo_bad hdone hok])
        have HK := hide hok
        clear hdone hok
        rcases hent with hlen | ⟨hlen, hjs, h4⟩
        all_goals try (have hbe := byt_eq s j hjs)
        all_goals try (have hb := byt_lt s.data.toList j)
        all_goals
          go_wp2_with fail
          refine (itemChar_no s _ _ hs (by omega) (by omega) (by rw [Int.toNat_natCast]; exact unhide HK)).mono ?_
          rintro e w1 ⟨rfl, hb1⟩
          rw [Int.toNat_natCast]
          have hB0' := hB0.below hb1 (by omega)
          have hB1' := hB1.below hb1 (by omega)
          obtain ⟨e0, e1, e2, e3, e4, e5, e6⟩ := hB1'.six
          obtain ⟨z0, z1, z2, z3, z4, z5, z6⟩ := hB0'.six
          have hz1 : w.heap.size + 1 < w1.heap.size := hB1'.lt
          have hz0 : w.heap.size < w1.heap.size := hB0'.lt
          have hO1 := hide (own_below (unhide HO) hb1)
          have hL1 := hide (hbel.trans (hb1.mono (by omega)))
          clear hB0' hB1' c0 c1 c2 c3 c4 c5 c6 y0 y1 y2 y3 y4 y5 y6
          go_wp2
          exact bodyPost_ret (v := .tuple #[.agg #[.int .u8 (Cu.byt s.data.toList i), .slice a l.length cap, .int .u8 0, .slice none 0 0, .slice none 0 0, .int .i64 i], .int .i64 (Cu.itemEnd s.data.toList j), .bool false]) (by simp [results, Tryz.results71, go_sem, *]) rfl ⟨a, cap, false, _, l, unhide hr, rfl, own_base ((own_set6 (unhide hO1) (by omega) _ _ _ _ _ _).alloc _) (by omega), (below_set6 (unhide hL1) (Nat.le_refl _) _ _ _ _ _ _).alloc (by rw [size_set6]; omega) _⟩
      | true =>
        have hlt := Cu.itemOk_lt hok
        have HK := hide hok
        have hcl := Cu.code_lt s.data.toList j (Cu.well s.data.toList j).2 (Cu.well_le s.data.toList j).1
        cases hda : Cu.dash s.data.toList (Cu.itemEnd s.data.toList j) with
        | false =>
          have hr : Hid (Cu.classGo s.data.toList g (Cu.itemEnd s.data.toList j) (l ++ [(Cu.itemCode s.data.toList j, Cu.itemCode s.data.toList j, j)]) = Cu.classGo s.data.toList (s.size + 1) (i + 2) []) := hide (by rw [← unhide HG, Cu.classGo_one hdone hok hda])
          have hd2 : ¬ Cu.itemEnd s.data.toList j < s.size ∨ (Cu.itemEnd s.data.toList j < s.size ∧ ((Cu.byt s.data.toList (Cu.itemEnd s.data.toList j) : Int) == 45) = false) := by
            unfold Cu.dash at hda
            rw [len_toList, Bool.and_eq_false_iff] at hda
            rcases hda with h | h
            · left; simpa using h
            · by_cases h2 : Cu.itemEnd s.data.toList j < s.size
              · right; refine ⟨h2, ?_⟩; rw [beq_eq_false_iff_ne] at h ⊢; omega
              · left; exact h2
          clear hdone hok hda
          rcases hent with hlen | ⟨hlen, hjs, h4⟩
          all_goals try (have hbe := byt_eq s j hjs)
          all_goals try (have hb := byt_lt s.data.toList j)
          all_goals rcases hd2 with hd3 | ⟨hd3, hd4⟩
          all_goals try (have hbe3 := byt_eq s (Cu.itemEnd s.data.toList j) hd3)
          all_goals try (have hb3 := byt_lt s.data.toList (Cu.itemEnd s.data.toList j))
          all_goals
            go_wp2_with fail
            refine (itemChar_ok s _ _ hs (by omega) (by omega) (by rw [Int.toNat_natCast]; exact unhide HK)).mono ?_
            rintro e w1 ⟨rfl, hb1⟩
            rw [Int.toNat_natCast]
            have hB0' := hB0.below hb1 (by omega)
            have hB1' := hB1.below hb1 (by omega)
            obtain ⟨e0, e1, e2, e3, e4, e5, e6⟩ := hB1'.six
            have hz1 : w.heap.size + 1 < w1.heap.size := hB1'.lt
            have hz0 : w.heap.size < w1.heap.size := hB0'.lt
            have hO1 := hide (own_below (unhide HO) hb1)
            have hL1 := hide (hbel.trans (hb1.mono (by omega)))
            clear c0 c1 c2 c3 c4 c5 c6 y0 y1 y2 y3 y4 y5 y6
            have hcap : (l.length + 1) * 24 ≤ 140737488355328 := by omega
            have hmax : l.length + 1 ≤ maxLen := by unfold maxLen; omega
            go_wp2_with (at_builtin; refine wpList_append_own _ rfl (.tmp 82) (.tmp 84) 159 rfl (w.heap.size + 2) 207 i0 (.agg #[.int .i64 0, .int .i64 0, .int .i64 0]) 3 24 Tryz.underlying159 ki kz0 kz1 kz2 rfl (by decide) (.slice a l.length cap) l.length (itemCells l) rfl ((((unhide hO1).alloc _).alloc _).alloc _) ⟨w1.heap.size + 2, 0, none⟩ 1 1 [.int .i64 (Cu.itemCode s.data.toList j), .int .i64 (Cu.itemCode s.data.toList j), .int .i64 j] rfl rfl (news_new _ _ (by simp) _ _) (one3 _ _ _) hmax hcap (by simp; omega) ?_; intro v' w2 hown' hgrow _; refine Hid.out ?_)
            refine hide ?_
            obtain ⟨a', cap', hv'⟩ := own_form hown'
            subst hv'
            obtain ⟨hk0, hk1, hk2, hk3⟩ := class_grow ((((Below.refl _ _).alloc (Nat.le_refl _) _).alloc (by simp) _).alloc (by simp; omega) _) (unhide hO1) hB0' hB1' (unhide hL1) hgrow
            have hstep := hide (class_step (x := (Cu.itemCode s.data.toList j, Cu.itemCode s.data.toList j, j)) (g := g) (by omega) hie.2 (by omega) (by omega) hk0 hk1 hown' hk2 hk3 (unhide hr))
            obtain ⟨e0, e1, e2, e3, e4, e5, e6⟩ := hk1.six
            clear hown' hgrow
            go_wp2
            go_roundw
            case rel => exact unhide hstep
            case measure => simp [intOf]; omega
        | true =>
          have hd2 : Cu.itemEnd s.data.toList j < s.size ∧ ((Cu.byt s.data.toList (Cu.itemEnd s.data.toList j) : Int) == 45) = true := by
            have hda' := hda
            unfold Cu.dash at hda'
            rw [len_toList] at hda'
            simp only [Bool.and_eq_true, decide_eq_true_eq, beq_iff_eq] at hda' ⊢
            exact ⟨hda'.1, by omega⟩
          obtain ⟨hd3, hd4⟩ := hd2
          have hbe3 := byt_eq s (Cu.itemEnd s.data.toList j) hd3
          have hb3 := byt_lt s.data.toList (Cu.itemEnd s.data.toList j)
          have hte : ((Cu.itemEnd s.data.toList j : Int) + 1).toNat = Cu.itemEnd s.data.toList j + 1 := by omega
          have HT := hide hte
          clear hte
          cases hok2 : Cu.itemOk s.data.toList (Cu.itemEnd s.data.toList j + 1) with
          | false =>
            have hr : Hid (Cu.classGo s.data.toList (s.size + 1) (i + 2) [] = (false, Cu.itemEnd s.data.toList (Cu.itemEnd s.data.toList j + 1), l)) := hide (by rw [← unhide HG, Cu.classGo_bad2 hdone hok hda hok2])
            have HK2 := hide hok2
            clear hdone hok hda hok2
            rcases hent with hlen | ⟨hlen, hjs, h4⟩
            all_goals try (have hbe := byt_eq s j hjs)
            all_goals try (have hb := byt_lt s.data.toList j)
            all_goals
              go_wp2_with fail
              refine (itemChar_ok s _ _ hs (by omega) (by omega) (by rw [Int.toNat_natCast]; exact unhide HK)).mono ?_
              rintro e w1 ⟨rfl, hb1⟩
              rw [Int.toNat_natCast]
              have hB0' := hB0.below hb1 (by omega)
              have hB1' := hB1.below hb1 (by omega)
              have hz1 : w.heap.size + 1 < w1.heap.size := hB1'.lt
              have hz0 : w.heap.size < w1.heap.size := hB0'.lt
              have hO1 := hide (own_below (unhide HO) hb1)
              have hL1 := hide (hbel.trans (hb1.mono (by omega)))
              clear c0 c1 c2 c3 c4 c5 c6 y0 y1 y2 y3 y4 y5 y6
              go_wp2_with fail
              refine (itemChar_no s _ _ hs (by omega) (by omega) (by rw [unhide HT]; exact unhide HK2)).mono ?_
              rintro e w2 ⟨rfl, hb2⟩
              rw [unhide HT]
              have hB0'' := ((hB0'.alloc _).alloc _).below hb2 (by simp; omega)
              have hB1'' := ((hB1'.alloc _).alloc _).below hb2 (by simp; omega)
              obtain ⟨e0, e1, e2, e3, e4, e5, e6⟩ := hB1''.six
              obtain ⟨z0, z1, z2, z3, z4, z5, z6⟩ := hB0''.six
              have hz1' : w.heap.size + 1 < w2.heap.size := hB1''.lt
              have hz0' : w.heap.size < w2.heap.size := hB0''.lt
              have hO2 := hide (own_below (((unhide hO1).alloc _).alloc _) hb2)
              have hL2 := hide ((((unhide hL1).alloc (by omega) _).alloc (by simp; omega) _).trans (hb2.mono (by simp; omega)))
              clear hB0' hB1' hB0'' hB1'' hz1 hz0
              go_wp2
              exact bodyPost_ret (v := .tuple #[.agg #[.int .u8 (Cu.byt s.data.toList i), .slice a l.length cap, .int .u8 0, .slice none 0 0, .slice none 0 0, .int .i64 i], .int .i64 (Cu.itemEnd s.data.toList (Cu.itemEnd s.data.toList j + 1)), .bool false]) (by simp [results, Tryz.results71, go_sem, *]) rfl ⟨a, cap, false, _, l, unhide hr, rfl, own_base ((own_set6 (unhide hO2) (by omega) _ _ _ _ _ _).alloc _) (by omega), (below_set6 (unhide hL2) (Nat.le_refl _) _ _ _ _ _ _).alloc (by rw [size_set6]; omega) _⟩
          | true =>
            have hie2 := Cu.itemEnd_le s.data.toList (Cu.itemEnd s.data.toList j + 1) (by rw [len_toList]; exact hd3)
            rw [len_toList] at hie2
            have hlt2 := Cu.itemOk_lt hok2
            have hr : Hid (Cu.classGo s.data.toList g (Cu.itemEnd s.data.toList (Cu.itemEnd s.data.toList j + 1)) (l ++ [(Cu.itemCode s.data.toList j, Cu.itemCode s.data.toList (Cu.itemEnd s.data.toList j + 1), j)]) = Cu.classGo s.data.toList (s.size + 1) (i + 2) []) := hide (by rw [← unhide HG, Cu.classGo_two hdone hok hda hok2])
            have HK2 := hide hok2
            have hcap : (l.length + 1) * 24 ≤ 140737488355328 := by omega
            have hmax : l.length + 1 ≤ maxLen := by unfold maxLen; omega
            clear hdone hok hda hok2
            rcases hent with hlen | ⟨hlen, hjs, h4⟩
            all_goals try (have hbe := byt_eq s j hjs)
            all_goals try (have hb := byt_lt s.data.toList j)
            all_goals
              go_wp2_with fail
              refine (itemChar_ok s _ _ hs (by omega) (by omega) (by rw [Int.toNat_natCast]; exact unhide HK)).mono ?_
              rintro e w1 ⟨rfl, hb1⟩
              rw [Int.toNat_natCast]
              have hB0' := hB0.below hb1 (by omega)
              have hB1' := hB1.below hb1 (by omega)
              have hz1 : w.heap.size + 1 < w1.heap.size := hB1'.lt
              have hz0 : w.heap.size < w1.heap.size := hB0'.lt
              have hO1 := hide (own_below (unhide HO) hb1)
              have hL1 := hide (hbel.trans (hb1.mono (by omega)))
              clear c0 c1 c2 c3 c4 c5 c6 y0 y1 y2 y3 y4 y5 y6
              go_wp2_with fail
              refine (itemChar_ok s _ _ hs (by omega) (by omega) (by rw [unhide HT]; exact unhide HK2)).mono ?_
              rintro e w2 ⟨rfl, hb2⟩
              rw [unhide HT]
              have hB0'' := ((hB0'.alloc _).alloc _).below hb2 (by simp; omega)
              have hB1'' := ((hB1'.alloc _).alloc _).below hb2 (by simp; omega)
              have hIT := (Blk.new' (w1.alloc (.cells #[.int .i64 j, .int .i64 (Cu.itemN s.data.toList j), .int .i64 (Cu.itemCode s.data.toList j)] 91)) (w1.heap.size + 1) (by simp) [.int .i64 (Cu.itemCode s.data.toList j), .int .i64 (Cu.itemCode s.data.toList j), .int .i64 j] 207).below hb2 (by simp)
              obtain ⟨e0, e1, e2, e3, e4, e5, e6⟩ := hB1''.six
              obtain ⟨x0, x1, x2, x3⟩ := hIT.three
              have hz1' : w.heap.size + 1 < w2.heap.size := hB1''.lt
              have hz0' : w.heap.size < w2.heap.size := hB0''.lt
              have hzI : w1.heap.size + 1 < w2.heap.size := hIT.lt
              have hO2 := hide (own_set_ne (own_below (((unhide hO1).alloc _).alloc _) hb2) ⟨w1.heap.size + 1, 1, none⟩ (.int .i64 (Cu.itemCode s.data.toList (Cu.itemEnd s.data.toList j + 1))) (fun h => by have := ((unhide hO1).lt (w1.heap.size + 1) h.symm).2; omega))
              have hL2 := hide (((((unhide hL1).alloc (by omega) _).alloc (by simp; omega) _).trans (hb2.mono (by simp; omega))).setCell (p := ⟨w1.heap.size + 1, 1, none⟩) (by simp; omega) (.int .i64 (Cu.itemCode s.data.toList (Cu.itemEnd s.data.toList j + 1))))
              have hB0s := hide (hB0''.setOther ⟨w1.heap.size + 1, 1, none⟩ (.int .i64 (Cu.itemCode s.data.toList (Cu.itemEnd s.data.toList j + 1))) (by simp; omega))
              have hB1s := hide (hB1''.setOther ⟨w1.heap.size + 1, 1, none⟩ (.int .i64 (Cu.itemCode s.data.toList (Cu.itemEnd s.data.toList j + 1))) (by simp; omega))
              have hITs : Blk (w2.setCell ⟨w1.heap.size + 1, 1, none⟩ (.int .i64 (Cu.itemCode s.data.toList (Cu.itemEnd s.data.toList j + 1)))) (w1.heap.size + 1) [.int .i64 (Cu.itemCode s.data.toList j), .int .i64 (Cu.itemCode s.data.toList (Cu.itemEnd s.data.toList j + 1)), .int .i64 j] 207 := hIT.setSame 1 _
              obtain ⟨p0, p1, p2, p3, p4, p5, p6⟩ := (unhide hB1s).six
              obtain ⟨q0, q1, q2, q3⟩ := hITs.three
              clear hB0' hB1' hB0'' hB1'' hz1 hz0 hIT hITs
              go_wp2_with (at_builtin; refine wpList_append_own _ rfl (.tmp 82) (.tmp 84) 159 rfl (w.heap.size + 2) 207 i0 (.agg #[.int .i64 0, .int .i64 0, .int .i64 0]) 3 24 Tryz.underlying159 ki kz0 kz1 kz2 rfl (by decide) (.slice a l.length cap) l.length (itemCells l) rfl (((unhide hO2).alloc _).alloc _) ⟨w2.heap.size + 1, 0, none⟩ 1 1 [.int .i64 (Cu.itemCode s.data.toList j), .int .i64 (Cu.itemCode s.data.toList (Cu.itemEnd s.data.toList j + 1)), .int .i64 j] rfl rfl (news_new _ _ (by simp) _ _) (one3 _ _ _) hmax hcap (by simp; omega) ?_; intro v' w3 hown' hgrow _; refine Hid.out ?_)
              refine hide ?_
              obtain ⟨a', cap', hv'⟩ := own_form hown'
              subst hv'
              obtain ⟨hk0, hk1, hk2, hk3⟩ := class_grow (((Below.refl _ _).alloc (Nat.le_refl _) _).alloc (by simp) _) (unhide hO2) (unhide hB0s) (unhide hB1s) (unhide hL2) hgrow
              have hstep := hide (class_step (x := (Cu.itemCode s.data.toList j, Cu.itemCode s.data.toList (Cu.itemEnd s.data.toList j + 1), j)) (g := g) (by omega) hie2.2 (by omega) (by omega) hk0 hk1 hown' hk2 hk3 (unhide hr))
              obtain ⟨e0, e1, e2, e3, e4, e5, e6⟩ := hk1.six
              clear hown' hgrow
              go_wp2
              go_roundw
              case rel => exact unhide hstep
              case measure => simp [intOf]; omega
end Go.Proofs.YtbppbejigedioabGreatDoor
