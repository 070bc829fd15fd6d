/- Walks: the program's reader: lineEnds, take, fault, sign, atom. -/
import Derived.Test.YtbppbejigedioabGreatDoorRows
import Derived.Test.YtbppbejigedioabGreatDoorRefA
import Derived.Test.YtbppbejigedioabGreatDoorBlocks
import Derived.Test.YtbppbejigedioabGreatDoorPlainB
import Derived.Test.YtbppbejigedioabGreatDoorShelf
import Derived.BigQuiet
import Derived.Deep.QuietTactic
import Derived.Deep.DeepCutAuto
import Derived.Deep.CutBlock
namespace Go.Proofs.YtbppbejigedioabGreatDoor
open Go.RowKit

/-- The reader: its text and its place. -/
abbrev RdBlk (w : World) (R : Nat) (s : ByteArray) (i : Nat) : Prop := Blk w R [.string s, .int .i64 i] 168
theorem Blk.two {w : World} {b : Nat} {c0 c1 : Value} {t : TypeId} (h : Blk w b [c0, c1] t) : w.cell? ⟨b, 0, none⟩ = some c0 ∧ w.cell? ⟨b, 1, none⟩ = some c1 ∧ (∀ j, w.frozen? ⟨b, j, none⟩ = false) :=
  ⟨h.cell 0, h.cell 1, h.free⟩
/-- A step of the reader: its place is j; nothing else that was there has turned. -/
structure Rd (w w' : World) (R : Nat) (s : ByteArray) (j : Nat) : Prop where
  grown : w.grownBy w' (some R)
  blk : RdBlk w' R s j
theorem grown_drewN (w : World) (q : Nat) (row : Option Nat) : w.grownBy (w.drewN q) row := ⟨rfl, rfl, rfl, Nat.le_refl _, fun _ _ _ => rfl⟩
theorem grown_trans {a b c : World} {row : Option Nat} (h : a.grownBy b row) (k : b.grownBy c row) : a.grownBy c row :=
  ⟨k.os.trans h.os, k.tape.trans h.tape, k.output.trans h.output, Nat.le_trans h.size k.size, fun i hi hn => (k.block i (Nat.lt_of_lt_of_le hi h.size) hn).trans (h.block i hi hn)⟩
theorem grown_setCell {a w : World} {R j : Nat} (h : a.grownBy w (some R)) (u : Value) : a.grownBy (w.setCell ⟨R, j, none⟩ u) (some R) :=
  ⟨h.os, h.tape, h.output, by simpa [World.setCell] using h.size, fun k hk hn => by
    rw [Below.heap_setCell _ _ _ _ (fun e => hn (by rw [e]))]; exact h.block k hk hn⟩
theorem grown_below {a w w' : World} {row : Option Nat} (h : a.grownBy w row) (hb : Below w.heap.size w w') : a.grownBy w' row := grown_trans h (grown_of_below hb row)

set_option maxRecDepth 100000 in
set_option maxHeartbeats 400000 in
theorem lineEnds_any (s : ByteArray) (i R : Nat) (w : World) (_hs : s.size ≤ 200) (hi : i ≤ s.size) (hR : RdBlk w R s i) :
    Calls Tryz.prog 73 #[.pointer (some ⟨R, 0, none⟩)] w fun e w' => e = .returned (.bool (!Cu.more s.data.toList i)) ∧ ∃ q, w' = w.drewN q := by
  obtain ⟨c0, c1, -⟩ := hR.two
  by_cases h1 : i < s.size
  · have hm : Hid (Cu.more s.data.toList i = !((Cu.byt s.data.toList i : Int) == 59)) := hide (by
      unfold Cu.more; rw [len_toList]; simp only [h1, decide_true, Bool.true_and]; congr 1; rw [Bool.eq_iff_iff, beq_iff_eq, beq_iff_eq]; omega)
    have h2 : ((i : Int) == (s.size : Int)) = false := by rw [beq_eq_false_iff_ne]; omega
    have hb := byt_lt s.data.toList i
    have hbe := byt_eq s i h1
    have h3 : (i : Int) < (s.size : Int) := by omega
    go_enter Tryz.func73, Tryz.ntmps73
    go_wp2
    go_quiet (fail)
    go_wp2
    go_ret
    exact ⟨ret_bool (by rw [unhide hm]; simp), nq, rfl⟩
  · have hm : Hid (Cu.more s.data.toList i = false) := hide (by unfold Cu.more; rw [len_toList]; simp [h1])
    have h2 : ((i : Int) == (s.size : Int)) = true := by rw [beq_iff_eq]; omega
    go_enter Tryz.func73, Tryz.ntmps73
    go_wp2
    go_quiet (fail)
    go_wp2
    go_ret
    exact ⟨ret_bool (by rw [unhide hm]; rfl), nq, rfl⟩

theorem toUInt8_byte (s : List UInt8) (i : Nat) : ((Cu.byt s i : Nat) : Int).toNat.toUInt8 = s.getD i 0 := by
  unfold Cu.byt; simp

set_option maxRecDepth 100000 in
set_option maxHeartbeats 400000 in
theorem take_any (s am : ByteArray) (i R : Nat) (w : World) (hs : s.size ≤ 200) (hi : i ≤ s.size) (hR : RdBlk w R s i) :
    Calls Tryz.prog 109 #[.pointer (some ⟨R, 0, none⟩), .string am] w fun e w' => e = .returned (.int .i64 (Cu.tk s.data.toList am.data.toList i)) ∧ Rd w w' R s (Cu.tkEnd s.data.toList am.data.toList i) := by
  obtain ⟨c0, c1, c2⟩ := hR.two
  by_cases h1 : i < s.size
  · have hm : Hid (Cu.tk s.data.toList am.data.toList i = Lib.indexByte am.data.toList (s.data.toList.getD i 0)) := hide (by unfold Cu.tk; rw [if_pos (by rw [len_toList]; exact h1)])
    have h2 : ((i : Int) == (s.size : Int)) = false := by rw [beq_eq_false_iff_ne]; omega
    have hb := byt_lt s.data.toList i
    have hbe := byt_eq s i h1
    have h3 : (i : Int) < (s.size : Int) := by omega
    have hix := Cu.indexByte_ge am.data.toList (s.data.toList.getD i 0)
    have hcon : Hid (∀ wx : World, Calls Tryz.prog 142 #[.string am, .int .u8 (Cu.byt s.data.toList i)] wx fun e w' => e = .returned (.int .i64 (Lib.indexByte am.data.toList (s.data.toList.getD i 0))) ∧ w' = wx) := hide (fun wx => by
      have h := Tryz.strings_IndexByte am (Cu.byt s.data.toList i) wx
      rw [toUInt8_byte] at h; exact h)
    generalize Lib.indexByte am.data.toList (s.data.toList.getD i 0) = ix at *
    by_cases h4 : 0 ≤ ix
    · have he : Hid (Cu.tkEnd s.data.toList am.data.toList i = i + 1) := hide (by unfold Cu.tkEnd; rw [unhide hm, if_pos h4])
      go_enter Tryz.func109, Tryz.ntmps109
      go_wp2
      go_quiet (fail)
      go_wp2
      go_quiet ((go_at_call 142; exact (unhide hcon _).mono (fun _ _ h => ⟨h.1, _, h.2⟩)))
      go_wp2
      go_ret
      refine ⟨ret_int (by rw [unhide hm]), ?_⟩
      exact ⟨grown_setCell (grown_drewN _ _ _) _, by rw [unhide he]; show Blk _ R [.string s, .int .i64 ((i + 1 : Nat) : Int)] _; rw [show ((i + 1 : Nat) : Int) = (i : Int) + 1 from by omega]; exact (hR.drewN _).setSame 1 _⟩
    · have he : Hid (Cu.tkEnd s.data.toList am.data.toList i = i) := hide (by unfold Cu.tkEnd; rw [unhide hm, if_neg h4])
      go_enter Tryz.func109, Tryz.ntmps109
      go_wp2
      go_quiet (fail)
      go_wp2
      go_quiet ((go_at_call 142; exact (unhide hcon _).mono (fun _ _ h => ⟨h.1, _, h.2⟩)))
      go_wp2
      go_ret
      refine ⟨ret_int (by rw [unhide hm]), ?_⟩
      exact ⟨grown_drewN _ _ _, by rw [unhide he]; exact hR.drewN _⟩
  · have hm : Hid (Cu.tk s.data.toList am.data.toList i = -1) := hide (by unfold Cu.tk; rw [if_neg (by rw [len_toList]; exact h1)])
    have he : Hid (Cu.tkEnd s.data.toList am.data.toList i = i) := hide (by unfold Cu.tkEnd; rw [unhide hm, if_neg (by omega)])
    have h2 : ((i : Int) == (s.size : Int)) = true := by rw [beq_iff_eq]; omega
    go_enter Tryz.func109, Tryz.ntmps109
    go_wp2
    go_quiet (fail)
    go_wp2
    go_ret
    exact ⟨ret_int (unhide hm).symm, grown_drewN _ _ _, by rw [unhide he]; exact hR.drewN _⟩
theorem Rd.alloc {w w' : World} {R : Nat} {s : ByteArray} {j : Nat} (h : Rd w w' R s j) (o : Obj) : Rd w (w'.alloc o) R s j := ⟨grown_trans h.grown (World.grownBy_alloc _ _ _), h.blk.alloc o⟩
theorem Rd.drewN {w w' : World} {R : Nat} {s : ByteArray} {j : Nat} (h : Rd w w' R s j) (q : Nat) : Rd w (w'.drewN q) R s j := ⟨grown_trans h.grown (grown_drewN _ _ _), h.blk.drewN q⟩
theorem Rd.of_alloc {w w' : World} {R : Nat} {s : ByteArray} {j : Nat} {o : Obj} (h : Rd (w.alloc o) w' R s j) (_hR : R < w.heap.size) : Rd w w' R s j := ⟨grown_trans (World.grownBy_alloc _ _ _) h.grown, h.blk⟩
theorem Rd.trans {a b c : World} {R : Nat} {s : ByteArray} {i j : Nat} (h : Rd a b R s i) (k : Rd b c R s j) : Rd a c R s j := ⟨grown_trans h.grown k.grown, k.blk⟩
theorem Rd.setNew {w w' : World} {R : Nat} {s : ByteArray} {j : Nat} (h : Rd w w' R s j) {a : Addr} (hnew : w.heap.size ≤ a.block) (hne : a.block ≠ R) (u : Value) : Rd w (w'.setCell a u) R s j :=
  ⟨⟨h.grown.os, h.grown.tape, h.grown.output, by simpa [World.setCell] using h.grown.size, fun k hk hn => by
    rw [Below.heap_setCell _ _ _ _ (by omega)]; exact h.grown.block k hk hn⟩, h.blk.setOther a u hne⟩
/-- A block that is not the reader's stays. -/
theorem Rd.other {w w' : World} {R : Nat} {s : ByteArray} {j : Nat} (h : Rd w w' R s j) {b : Nat} {cs : List Value} {t : TypeId} (hb : Blk w b cs t) (hne : b ≠ R) : Blk w' b cs t := hb.grown h.grown (by simpa using hne)

/-- The error of a text that is no file. -/
def faultV (i : Nat) : Value := .iface 99 (.agg #[.int .i64 2, .int .i64 i])

set_option maxRecDepth 100000 in
set_option maxHeartbeats 400000 in
theorem fault_any (s : ByteArray) (i R : Nat) (w : World) (hR : RdBlk w R s i) :
    Calls Tryz.prog 75 #[.pointer (some ⟨R, 0, none⟩)] w fun e w' => e = .returned (faultV i) ∧ w = w' := by
  obtain ⟨c0, c1, -⟩ := hR.two
  go_enter Tryz.func75, Tryz.ntmps75
  go_wp2
  go_ret
  exact ⟨rfl, rfl⟩

/-- The bytes of a sign. -/
def signB : ByteArray := ⟨#[65, 66, 67, 68, 69, 70, 71, 72, 73, 74, 75, 76, 77, 78, 79, 80, 81, 82, 83, 84, 85, 86, 87, 88, 89, 90, 95, 46]⟩
def howB : ByteArray := ⟨#[42, 43, 63]⟩

set_option maxRecDepth 100000 in
set_option maxHeartbeats 400000 in
theorem sign_any (s : ByteArray) (i R : Nat) (w : World) (hs : s.size ≤ 200) (hi : i ≤ s.size) (hR : RdBlk w R s i) :
    Calls Tryz.prog 161 #[.pointer (some ⟨R, 0, none⟩)] w fun e w' =>
      e = .returned (.tuple #[.agg #[.int .i64 (Cu.tk s.data.toList signB.data.toList i), .int .i64 i], .bool (decide (0 ≤ Cu.tk s.data.toList signB.data.toList i))]) ∧ Rd w w' R s (Cu.tkEnd s.data.toList signB.data.toList i) := by
  obtain ⟨c0, c1, c2⟩ := hR.two
  have hlt := hR.lt
  have hne : R ≠ w.heap.size := by omega
  go_enter Tryz.func161, Tryz.ntmps161
  go_wp2_with fail
  refine (take_any s signB i R _ hs hi (hR.alloc _)).mono ?_
  rintro e w1 ⟨rfl, hrd⟩
  have hX := hrd.other (Blk.new w [.int .i64 0, .int .i64 0] 193) (by omega)
  obtain ⟨x0, x1, x2⟩ := hX.two
  have hXlt := hX.lt
  have HR := hide (hrd.of_alloc hlt)
  clear hrd
  go_wp2
  exact bodyPost_ret (v := .tuple #[.agg #[.int .i64 (Cu.tk s.data.toList signB.data.toList i), .int .i64 i], .bool (decide (0 ≤ Cu.tk s.data.toList signB.data.toList i))]) (by simp [results, Tryz.results161, go_sem, *]) rfl ⟨rfl, ((unhide HR).setNew (by simp) (by simp; omega) _).setNew (by simp) (by simp; omega) _⟩

/-- A sign, as a node; and with what stands behind it. -/
def signV (k : Int) (i : Nat) : Value := .iface 193 (.agg #[.int .i64 k, .int .i64 i])
def atomV (h : Int) (k : Int) (i : Nat) : Value :=
  if h = 0 then .iface 196 (.agg #[signV k i]) else if h = 1 then .iface 197 (.agg #[signV k i]) else if h = 2 then .iface 198 (.agg #[signV k i]) else signV k i

set_option maxRecDepth 100000 in
set_option maxHeartbeats 400000 in
theorem atom_any (s : ByteArray) (i R p : Nat) (k : Int) (w : World) (hs : s.size ≤ 200) (hi : i ≤ s.size) (hR : RdBlk w R s i) :
    Calls Tryz.prog 162 #[.pointer (some ⟨R, 0, none⟩), .agg #[.int .i64 k, .int .i64 p]] w fun e w' =>
      e = .returned (atomV (Cu.tk s.data.toList howB.data.toList i) k p) ∧ Rd w w' R s (Cu.tkEnd s.data.toList howB.data.toList i) := by
  obtain ⟨c0, c1, c2⟩ := hR.two
  have hlt := hR.lt
  have hne : R ≠ w.heap.size := by omega
  have hge := Cu.tk_ge s.data.toList howB.data.toList i
  go_enter Tryz.func162, Tryz.ntmps162
  go_wp2_with fail
  refine (take_any s howB i R _ hs hi (hR.alloc _)).mono ?_
  rintro e w1 ⟨rfl, hrd⟩
  have hX := hrd.other (Blk.new w [.int .i64 k, .int .i64 p] 193) (by omega)
  obtain ⟨x0, x1, x2⟩ := hX.two
  have HR := hide (hrd.of_alloc hlt)
  clear hrd c0 c1 c2
  generalize hh : Cu.tk s.data.toList howB.data.toList i = h at *
  have HH := hide hh
  clear hh
  go_wp2
  all_goals go_ret
  all_goals go_light
  all_goals refine ⟨congrArg Ending.returned ?_, unhide HR⟩
  all_goals
    rw [unhide HH]
    simp_all [atomV, signV]
end Go.Proofs.YtbppbejigedioabGreatDoor
/- Walks: the program's left, right and rule. -/
namespace Go.Proofs.YtbppbejigedioabGreatDoor
open Go.RowKit

theorem signB_toList : signB.data.toList = Cu.signL := rfl
theorem howB_toList : howB.data.toList = Cu.howL := rfl
def midB : ByteArray := ⟨#[33, 124]⟩
theorem midB_toList : midB.data.toList = Cu.midL := rfl

/-- The left side of a rule, as the program's tree. -/
def nodeV (a : Cu.Atom) : Value := atomV (Cu.hk a.2.1) (Cu.sk a.1) a.2.2
def leftV (l : List Cu.Atom) : Value := l.foldl (fun acc a => .iface 200 (.agg #[acc, nodeV a])) (.iface 303 (.agg #[]))
theorem leftV_snoc (l : List Cu.Atom) (a : Cu.Atom) : leftV (l ++ [a]) = .iface 200 (.agg #[leftV l, nodeV a]) := by
  unfold leftV; rw [List.foldl_append]; rfl

theorem leftV_iface (l : List Cu.Atom) : ∃ t v, leftV l = .iface t v := by
  rcases List.eq_nil_or_concat l with rfl | ⟨l', a, rfl⟩
  · exact ⟨_, _, rfl⟩
  · rw [List.concat_eq_append, leftV_snoc]; exact ⟨_, _, rfl⟩
theorem atomV_iface (h k : Int) (i : Nat) : ∃ t v, atomV h k i = .iface t v := by
  unfold atomV signV
  repeat' split
  all_goals exact ⟨_, _, rfl⟩

set_option maxRecDepth 100000 in
set_option maxHeartbeats 1000000 in
theorem left_any (s : ByteArray) (i R : Nat) (w : World) (hs : s.size ≤ 200) (hi : i ≤ s.size) (hR : RdBlk w R s i) :
    Calls Tryz.prog 144 #[.pointer (some ⟨R, 0, none⟩)] w fun e w' =>
      e = .returned (leftV (Cu.leftGo s.data.toList 4 i []).2) ∧ Rd w w' R s (Cu.leftGo s.data.toList 4 i []).1 := by
  have hRlt := hR.lt
  go_enter Tryz.func144, Tryz.ntmps144
  go_wp2
  go_loopw [3, 8] (fun v x wr => ∃ (j k n : Nat) (l : List Cu.Atom), j ≤ s.size ∧ k + n = 4 ∧ x = .int .i64 n ∧ v = leftV l ∧ Rd w wr R s j ∧ Cu.leftGo s.data.toList k j l = Cu.leftGo s.data.toList 4 i []) (fun _ x _ => 5 - (intOf x).toNat)
  case atStart =>
    go_light
    exact ⟨i, 4, 0, [], hi, rfl, rfl, rfl, ⟨grown_drewN w 0 _, hR⟩, rfl⟩
  case round =>
    obtain ⟨j, k, n, l, hj, hk, rfl, rfl, hrd, hgo⟩ := hrel
    have HG := hide hgo
    clear hgo hR
    have hwr : R < wr.heap.size := hrd.blk.lt
    obtain ⟨tl, vl, hvl⟩ := leftV_iface l
    have HVL := hide hvl
    by_cases hn : n < 4
    · obtain ⟨m, rfl⟩ : ∃ m, k = m + 1 := ⟨k - 1, by omega⟩
      go_wp2_with fail
      refine (sign_any s j R _ hs hj hrd.blk).mono ?_
      rintro e w1 ⟨rfl, hr1⟩
      rw [signB_toList] at hr1 ⊢
      have hr1' := hide (hrd.trans hr1)
      have hR1 := hr1.blk.lt
      cases hsg : Cu.sgn s.data.toList j with
      | false =>
        have hd : decide (0 ≤ Cu.tk s.data.toList Cu.signL j) = false := by rw [← Cu.sgn_tk]; exact hsg
        have hfin : Hid (Cu.leftGo s.data.toList 4 i [] = (j, l)) := hide (by rw [← unhide HG, Cu.leftGo_stop hsg])
        have hend := hide (Cu.tk_no (s := s.data.toList) (am := Cu.signL) (i := j) (by simpa using hd))
        clear hsg hr1
        go_wp2
        go_ret
        exact ⟨congrArg Ending.returned (by rw [unhide hfin]; exact (unhide HVL).symm), by rw [unhide hfin]; have h := (unhide hr1').alloc (.cells #[.int .i64 (Cu.tk s.data.toList Cu.signL j), .int .i64 j] 193); rw [unhide hend] at h; exact h⟩
      | true =>
        have hd : decide (0 ≤ Cu.tk s.data.toList Cu.signL j) = true := by rw [← Cu.sgn_tk]; exact hsg
        obtain ⟨e1, e2⟩ := Cu.tk_sk hsg
        have E1 := hide e1
        have E2 := hide e2
        clear e1 e2
        have hjl := (Cu.sgn_true hsg).1
        rw [len_toList] at hjl
        go_wp2_with fail
        refine (atom_any s (Cu.tkEnd s.data.toList Cu.signL j) R j (Cu.tk s.data.toList Cu.signL j) _ hs (by rw [unhide E2]; omega) (hr1.blk.alloc _)).mono ?_
        rintro e w2 ⟨rfl, hr2⟩
        rw [howB_toList] at hr2 ⊢
        have hr2' := hide ((unhide hr1').trans ((Rd.of_alloc hr2) hR1))
        obtain ⟨ta, va, hva⟩ := atomV_iface (Cu.tk s.data.toList Cu.howL (Cu.tkEnd s.data.toList Cu.signL j)) (Cu.tk s.data.toList Cu.signL j) j
        have HVA := hide hva
        cases hhw : Cu.how s.data.toList (j + 1) with
        | true =>
          obtain ⟨f1, f2⟩ := Cu.tk_hk hhw
          have hjl2 := (Cu.how_true hhw).1
          rw [len_toList] at hjl2
          have hstep : Hid (∃ (j' k n' : Nat) (l' : List Cu.Atom), j' ≤ s.size ∧ k + n' = 4 ∧ Value.int .i64 ((n : Int) + 1) = .int .i64 n' ∧ Value.iface 200 (.agg #[.iface tl vl, .iface ta va]) = leftV l' ∧ Rd w w2 R s j' ∧ Cu.leftGo s.data.toList k j' l' = Cu.leftGo s.data.toList 4 i []) := hide
            ⟨j + 2, m, n + 1, l ++ [(Cu.byt s.data.toList j, Cu.byt s.data.toList (j + 1), j)], by omega, by omega, by go_num, by rw [leftV_snoc, ← unhide HVL, ← unhide HVA, unhide E1, unhide E2, f1]; rfl, by have h := unhide hr2'; rw [unhide E2, f2] at h; exact h, by rw [← unhide HG, Cu.leftGo_how hsg hhw]⟩
          clear hsg hhw f1 f2 hr1 hr2 hd
          go_wp2
          go_roundw
          case rel => first | exact unhide hstep | ((repeat apply Exists.intro); exact ⟨unhide hstep, rfl⟩)
          case measure => simp [intOf]; omega
        | false =>
          obtain ⟨f1, f2⟩ := Cu.tk_hk_no hhw
          have hstep : Hid (∃ (j' k n' : Nat) (l' : List Cu.Atom), j' ≤ s.size ∧ k + n' = 4 ∧ Value.int .i64 ((n : Int) + 1) = .int .i64 n' ∧ Value.iface 200 (.agg #[.iface tl vl, .iface ta va]) = leftV l' ∧ Rd w w2 R s j' ∧ Cu.leftGo s.data.toList k j' l' = Cu.leftGo s.data.toList 4 i []) := hide
            ⟨j + 1, m, n + 1, l ++ [(Cu.byt s.data.toList j, 32, j)], by omega, by omega, by go_num, by rw [leftV_snoc, ← unhide HVL, ← unhide HVA, unhide E1, unhide E2, f1]; rfl, by have h := unhide hr2'; rw [unhide E2, f2] at h; exact h, by rw [← unhide HG, Cu.leftGo_bare hsg hhw]⟩
          clear hsg hhw f1 f2 hr1 hr2 hd
          go_wp2
          go_roundw
          case rel => first | exact unhide hstep | ((repeat apply Exists.intro); exact ⟨unhide hstep, rfl⟩)
          case measure => simp [intOf]; omega
    · have hfin : Hid (Cu.leftGo s.data.toList 4 i [] = (j, l)) := hide (by rw [← unhide HG, show k = 0 by omega]; rfl)
      go_wp2
      go_ret
      exact ⟨congrArg Ending.returned (by rw [unhide hfin]; first | rfl | exact (unhide HVL).symm), by rw [unhide hfin]; exact hrd⟩
def signCells : List Cu.Atom → List Value
  | [] => []
  | x :: r => [.int .i64 (Cu.sk x.1), .int .i64 x.2.2] ++ signCells r
theorem signCells_snoc (l : List Cu.Atom) (x : Cu.Atom) : signCells (l ++ [x]) = signCells l ++ [.int .i64 (Cu.sk x.1), .int .i64 x.2.2] := by
  induction l with
  | nil => rfl
  | cons y l ih => simp [signCells, ih]
theorem Tryz.info193 : (Tryz.prog.info? 193).map (fun i => (i.zero, i.size, i.bytes)) = some (some (.agg #[.int .i64 0, .int .i64 0]), 2, 16) := by kernel_rfl
theorem one2 {k0 k1 : IntKind} (a b : Int) : ∀ u ∈ [Value.int k0 a, Value.int k1 b], u.oneCell' = true := by
  intro u hu
  simp at hu
  rcases hu with rfl | rfl <;> rfl
/-- A row of the call's own stays while the reader goes on. -/
theorem Rd.own {w w' : World} {R j : Nat} {s : ByteArray} (h : Rd w w' R s j) {base : Nat} {e : TypeId} {size n : Nat} {v : Value} {xs : List Value} (ho : w.ownsRow base e size v n xs) (hR : R < base) : w'.ownsRow base e size v n xs := by
  refine ho.kept h.grown ?_
  cases hv : v.ownBlock with
  | none => left; rfl
  | some b => right; intro e1; have := (ho.lt b hv).1; simp at e1; omega
/-- An append to a row of the call's own leaves the reader. -/
theorem Rd.grow {w W w2 : World} {R j : Nat} {s : ByteArray} {row : Option Nat} (h : Rd w W R s j) (hg : W.grownBy w2 row) (hrow : ∀ b, row = some b → w.heap.size ≤ b) (hR : R < w.heap.size) : Rd w w2 R s j :=
  ⟨⟨hg.os.trans h.grown.os, hg.tape.trans h.grown.tape, hg.output.trans h.grown.output, Nat.le_trans h.grown.size hg.size, fun k hk hn => (hg.block k (Nat.lt_of_lt_of_le hk h.grown.size) (fun e => by have := hrow k e.symm; omega)).trans (h.grown.block k hk hn)⟩,
    h.blk.grown hg (fun e => by have := hrow R e.symm; omega)⟩

def RightRel (s : ByteArray) (i R : Nat) (w : World) (v x : Value) (wr : World) : Prop :=
  ∃ (j k cap : Nat) (l : List Cu.Atom) (a : Option Addr), j ≤ s.size ∧ k + l.length = 2 ∧ x = .int .i64 l.length ∧ v = .slice a l.length cap ∧ wr.ownsRow w.heap.size 193 2 (.slice a l.length cap) l.length (signCells l) ∧ Rd w wr R s j ∧
    Cu.rightGo s.data.toList k j l = Cu.rightGo s.data.toList 2 i []

set_option maxRecDepth 100000 in
set_option maxHeartbeats 1000000 in
theorem right_any (s : ByteArray) (i R : Nat) (w : World) (hs : s.size ≤ 200) (hi : i ≤ s.size) (hR : RdBlk w R s i) :
    Calls Tryz.prog 145 #[.pointer (some ⟨R, 0, none⟩)] w fun e w' =>
      ∃ (a : Option Addr) (cap : Nat), e = .returned (.slice a (Cu.rightGo s.data.toList 2 i []).2.length cap) ∧ w'.ownsRow w.heap.size 193 2 (.slice a (Cu.rightGo s.data.toList 2 i []).2.length cap) (Cu.rightGo s.data.toList 2 i []).2.length (signCells (Cu.rightGo s.data.toList 2 i []).2) ∧ Rd w w' R s (Cu.rightGo s.data.toList 2 i []).1 := by
  have hRlt := hR.lt
  obtain ⟨i0, ki, kz0, kz1, kz2⟩ := info_parts Tryz.info193
  go_enter Tryz.func145, Tryz.ntmps145
  go_wp2
  go_loopw [3, 6] (fun v x wr => RightRel s i R w v x wr) (fun _ x _ => 5 - (intOf x).toNat)
  case atStart =>
    go_light
    exact ⟨i, 2, 0, [], none, hi, rfl, rfl, rfl, World.ownsRow_nil _ _ _ _, ⟨grown_drewN w 0 _, hR⟩, rfl⟩
  case round =>
    obtain ⟨j, k, cap, l, a, hj, hk, rfl, rfl, hown, hrd, hgo⟩ := hrel
    have HG := hide hgo
    have HO := hide hown
    clear hgo hR hown
    have hwr : R < wr.heap.size := hrd.blk.lt
    have hwsz := hrd.grown.size
    by_cases hn : l.length < 2
    · obtain ⟨m, rfl⟩ : ∃ m, k = m + 1 := ⟨k - 1, by omega⟩
      have hcap : (l.length + 1) * 16 ≤ 140737488355328 := by omega
      have hmax : l.length + 1 ≤ maxLen := by unfold maxLen; omega
      go_wp2_with fail
      refine (sign_any s j R _ hs hj hrd.blk).mono ?_
      rintro e w1 ⟨rfl, hr1⟩
      rw [signB_toList] at hr1 ⊢
      have hr1' := hide (hrd.trans hr1)
      have hR1 := hr1.blk.lt
      have hsz1 := hr1.grown.size
      have hO1 := hide (hr1.own (unhide HO) hRlt)
      cases hsg : Cu.sgn s.data.toList j with
      | false =>
        have hd : decide (0 ≤ Cu.tk s.data.toList Cu.signL j) = false := by rw [← Cu.sgn_tk]; exact hsg
        have hfin : Hid (Cu.rightGo s.data.toList 2 i [] = (j, l)) := hide (by rw [← unhide HG, Cu.rightGo_stop hsg])
        have hend := hide (Cu.tk_no (s := s.data.toList) (am := Cu.signL) (i := j) (by simpa using hd))
        clear hsg hr1
        go_wp2
        go_ret
        refine ⟨a, cap, ?_⟩
        rw [unhide hfin]
        exact ⟨rfl, (unhide hO1).alloc _, by have h := (unhide hr1').alloc (.cells #[.int .i64 (Cu.tk s.data.toList Cu.signL j), .int .i64 j] 193); rw [unhide hend] at h; exact h⟩
      | true =>
        have hd : decide (0 ≤ Cu.tk s.data.toList Cu.signL j) = true := by rw [← Cu.sgn_tk]; exact hsg
        obtain ⟨e1, e2⟩ := Cu.tk_sk hsg
        have E1 := hide e1
        have E2 := hide e2
        have hjl := (Cu.sgn_true hsg).1
        rw [len_toList] at hjl
        have hnext := hide (Cu.rightGo_go (k := m) (l := l) hsg)
        clear e1 e2 hsg
        go_wp2_with (at_builtin; refine wpList_append_own _ rfl (.tmp 15) (.tmp 17) 124 rfl w.heap.size 193 i0 (.agg #[.int .i64 0, .int .i64 0]) 2 16 Tryz.underlying124 ki kz0 kz1 kz2 rfl (by decide) (.slice a l.length cap) l.length (signCells l) rfl (((unhide hO1).alloc _).alloc _) ⟨w1.heap.size + 1, 0, none⟩ 1 1 [.int .i64 (Cu.tk s.data.toList Cu.signL j), .int .i64 j] rfl rfl (news_new _ _ (by simp) _ _) (one2 _ _) hmax hcap (by simp; omega) ?_; intro v' w2 hown' hgrow _; refine Hid.out ?_)
        refine hide ?_
        obtain ⟨a', cap', hv'⟩ := own_form hown'
        subst hv'
        have hr2 := (((unhide hr1').alloc _).alloc _).grow hgrow (fun b hb => ((unhide hO1).lt b hb).1) hRlt
        have hlen : (l ++ [(Cu.byt s.data.toList j, 32, j)]).length = l.length + 1 := by simp
        have hstep : Hid (RightRel s i R w (.slice a' (l.length + 1) cap') (.int .i64 ((l.length : Int) + 1)) w2) := hide
          ⟨j + 1, m, cap', l ++ [(Cu.byt s.data.toList j, 32, j)], a', by omega, by rw [hlen]; omega, by rw [hlen]; go_num, by rw [hlen], by rw [hlen, signCells_snoc]; rw [unhide E1] at hown'; exact hown', by rw [unhide E2] at hr2; exact hr2, by rw [← unhide HG, unhide hnext]⟩
        clear hown' hgrow hr2 hlen hr1 hd
        go_wp2
        go_roundw
        case rel => first | exact unhide hstep | ((repeat apply Exists.intro); exact ⟨unhide hstep, rfl⟩)
        case measure => simp [intOf]; omega
    · have hfin : Hid (Cu.rightGo s.data.toList 2 i [] = (j, l)) := hide (by rw [← unhide HG, show k = 0 by omega]; rfl)
      go_wp2
      go_ret
      refine ⟨a, cap, ?_⟩
      rw [unhide hfin]
      exact ⟨rfl, unhide HO, hrd⟩

/-- What the program's rule hands back. -/
def PRuleRes (s : ByteArray) (i R : Nat) (w : World) (e : Ending) (w' : World) : Prop :=
  (∃ p op l, Cu.ruleAt s.data.toList i = (false, p, op, l, []) ∧ e = .returned (.tuple #[.nilIface, faultV p]) ∧ Rd w w' R s p) ∨
  (∃ (p op : Nat) (l r : List Cu.Atom) (a : Option Addr) (cap : Nat), Cu.ruleAt s.data.toList i = (true, p, op, l, r) ∧
    e = .returned (.tuple #[.iface 126 (.agg #[leftV l, .bool (op == 124), .slice a r.length cap]), .nilIface]) ∧
    w'.ownsRow w.heap.size 193 2 (.slice a r.length cap) r.length (signCells r) ∧ Rd w w' R s p)

set_option maxRecDepth 100000 in
set_option maxHeartbeats 1000000 in
theorem prule_any (s : ByteArray) (i R : Nat) (w : World) (hs : s.size ≤ 200) (hi : i ≤ s.size) (hR : RdBlk w R s i) :
    Calls Tryz.prog 111 #[.pointer (some ⟨R, 0, none⟩)] w fun e w' => PRuleRes s i R w e w' := by
  have hRlt := hR.lt
  have hle := Cu.leftGo_le s.data.toList 4 i [] (by rw [len_toList]; exact hi)
  rw [len_toList] at hle
  have HN := hide (Cu.ruleAt_no (s := s.data.toList) (i := i))
  have HY := hide (Cu.ruleAt_yes (s := s.data.toList) (i := i))
  go_enter Tryz.func111, Tryz.ntmps111
  go_wp2_with fail
  refine (left_any s i R _ hs hi hR).mono ?_
  rintro e w1 ⟨rfl, hr1⟩
  generalize Cu.leftGo s.data.toList 4 i [] = lg at *
  obtain ⟨j, l⟩ := lg
  simp only at hle HN HY hr1
  refine Hid.out ?_
  simp only
  refine hide ?_
  have hR1 := hr1.blk.lt
  obtain ⟨tl, vl, hvl⟩ := leftV_iface l
  have HVL := hide hvl
  go_wp2_with fail
  refine (take_any s midB j R _ hs hle.2 hr1.blk).mono ?_
  rintro e w2 ⟨rfl, hr2⟩
  rw [midB_toList] at hr2 ⊢
  have hr2' := hide (hr1.trans hr2)
  have hR2 := hr2.blk.lt
  have hw2 := (unhide hr2').grown.size
  cases hmd : Cu.mid s.data.toList j with
  | false =>
    have hd : ¬ 0 ≤ Cu.tk s.data.toList Cu.midL j := by have h := Cu.mid_tk s.data.toList j; rw [hmd] at h; simpa using h.symm
    have hend := Cu.tk_no hd
    have hfin : Hid (Cu.ruleAt s.data.toList i = (false, j, 0, l, [])) := hide ((unhide HN) hmd)
    rw [hend] at hr2 hr2'
    go_wp2_with fail
    refine (fault_any s j R _ hr2.blk).mono ?_
    rintro e w3 ⟨rfl, rfl⟩
    go_wp2
    go_ret2
    exact Or.inl ⟨j, 0, l, unhide hfin, rfl, unhide hr2'⟩
  | true =>
    have hd : 0 ≤ Cu.tk s.data.toList Cu.midL j := by have h := Cu.mid_tk s.data.toList j; rw [hmd] at h; simpa using h.symm
    have hend : Cu.tkEnd s.data.toList Cu.midL j = j + 1 := by unfold Cu.tkEnd; rw [if_pos hd]
    have hjl := ((Cu.tk_ge s.data.toList Cu.midL j).2 hd).1
    have hbar : Hid ((Cu.tk s.data.toList Cu.midL j == 1) = (Cu.byt s.data.toList j == 124)) := hide (by
      rw [Cu.tk_at hjl]
      have h2 := hmd
      unfold Cu.mid at h2
      rw [Bool.and_eq_true] at h2
      exact Cu.mid_bar ⟨Cu.byt s.data.toList j, Cu.byt_lt' _ _⟩ h2.2)
    have hfin := hide ((unhide HY) hmd)
    rw [len_toList] at hjl
    rw [hend] at hr2 hr2'
    clear hend hmd
    go_wp2_with fail
    refine (right_any s (j + 1) R _ hs (by omega) hr2.blk).mono ?_
    rintro e w3 ⟨aR, cR, rfl, hoR, hr3⟩
    have hr3' := hide ((unhide hr2').trans hr3)
    have HOR := hide (own_base hoR hw2)
    clear hoR hr3 hr2
    go_wp2
    go_ret2
    refine Or.inr ⟨_, _, l, _, aR, cR, unhide hfin, ?_, unhide HOR, unhide hr3'⟩
    rw [← unhide hbar, unhide HVL]
    rfl
end Go.Proofs.YtbppbejigedioabGreatDoor
