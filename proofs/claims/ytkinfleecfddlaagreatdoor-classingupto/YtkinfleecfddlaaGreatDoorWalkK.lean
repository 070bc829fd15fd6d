/- Walks: the program's reader: lineEnds, take, fault, sign, atom. -/
import Derived.Test.YtkinfleecfddlaaGreatDoorRows
import Derived.Test.YtkinfleecfddlaaGreatDoorWalkA
import Derived.Test.YtkinfleecfddlaaGreatDoorBlocks
import Derived.Test.YtkinfleecfddlaaGreatDoorPlainB
import Derived.Test.YtkinfleecfddlaaGreatDoorShelf
import Derived.BigQuiet
import Derived.Deep.QuietTactic
import Derived.Deep.DeepCutAuto
import Derived.Deep.CutBlock
namespace Go.Proofs.YtkinfleecfddlaaGreatDoor
open Go.RowKit

/-- The reader: its text and its place. -/
abbrev RdBlk (w : World) (R : Nat) (s : ByteArray) (i : Nat) : Prop := Blk w R [.string s, .int .i64 i] 135
theorem Blk.two {w : World} {b : Nat} {c0 c1 : Value} {t : TypeId} (h : Blk w b [c0, c1] t) : w.cell? ⟨b, 0, none⟩ = some c0 ∧ w.cell? ⟨b, 1, none⟩ = some c1 ∧ (∀ j, w.frozen? ⟨b, j, none⟩ = false) :=
  ⟨h.cell 0, h.cell 1, h.free⟩
/-- A step of the reader: its place is j; nothing else that was there has turned. -/
structure Rd (w w' : World) (R : Nat) (s : ByteArray) (j : Nat) : Prop where
  grown : w.grownBy w' (some R)
  blk : RdBlk w' R s j
theorem grown_drewN (w : World) (q : Nat) (row : Option Nat) : w.grownBy (w.drewN q) row := ⟨rfl, rfl, rfl, Nat.le_refl _, fun _ _ _ => rfl⟩
theorem grown_trans {a b c : World} {row : Option Nat} (h : a.grownBy b row) (k : b.grownBy c row) : a.grownBy c row :=
  ⟨k.os.trans h.os, k.tape.trans h.tape, k.output.trans h.output, Nat.le_trans h.size k.size, fun i hi hn => (k.block i (Nat.lt_of_lt_of_le hi h.size) hn).trans (h.block i hi hn)⟩
theorem grown_setCell {a w : World} {R j : Nat} (h : a.grownBy w (some R)) (u : Value) : a.grownBy (w.setCell ⟨R, j, none⟩ u) (some R) :=
  ⟨h.os, h.tape, h.output, by simpa [World.setCell] using h.size, fun k hk hn => by
    rw [Below.heap_setCell _ _ _ _ (fun e => hn (by rw [e]))]; exact h.block k hk hn⟩
theorem grown_below {a w w' : World} {row : Option Nat} (h : a.grownBy w row) (hb : Below w.heap.size w w') : a.grownBy w' row := grown_trans h (grown_of_below hb row)

set_option maxRecDepth 100000 in
set_option maxHeartbeats 400000 in
theorem lineEnds_any (s : ByteArray) (i R : Nat) (w : World) (_hs : s.size ≤ 200) (hi : i ≤ s.size) (hR : RdBlk w R s i) :
    Calls Tryz.prog 57 #[.pointer (some ⟨R, 0, none⟩)] w fun e w' => e = .returned (.bool (!Cu.more s.data.toList i)) ∧ ∃ q, w' = w.drewN q := by
  obtain ⟨c0, c1, -⟩ := hR.two
  by_cases h1 : i < s.size
  · have hm : Hid (Cu.more s.data.toList i = !((Cu.byt s.data.toList i : Int) == 59)) := hide (by
      unfold Cu.more; rw [len_toList]; simp only [h1, decide_true, Bool.true_and]; congr 1; rw [Bool.eq_iff_iff, beq_iff_eq, beq_iff_eq]; omega)
    have h2 : ((i : Int) == (s.size : Int)) = false := by rw [beq_eq_false_iff_ne]; omega
    have hb := byt_lt s.data.toList i
    have hbe := byt_eq s i h1
    have h3 : (i : Int) < (s.size : Int) := by omega
    go_enter Tryz.func57, Tryz.ntmps57
    go_wp2
    go_quiet (fail)
    go_wp2
    go_ret
    exact ⟨ret_bool (by rw [unhide hm]; simp), nq, rfl⟩
  · have hm : Hid (Cu.more s.data.toList i = false) := hide (by unfold Cu.more; rw [len_toList]; simp [h1])
    have h2 : ((i : Int) == (s.size : Int)) = true := by rw [beq_iff_eq]; omega
    go_enter Tryz.func57, Tryz.ntmps57
    go_wp2
    go_quiet (fail)
    go_wp2
    go_ret
    exact ⟨ret_bool (by rw [unhide hm]; rfl), nq, rfl⟩

theorem toUInt8_byte (s : List UInt8) (i : Nat) : ((Cu.byt s i : Nat) : Int).toNat.toUInt8 = s.getD i 0 := by
  unfold Cu.byt; simp

set_option maxRecDepth 100000 in
set_option maxHeartbeats 400000 in
theorem take_any (s am : ByteArray) (i R : Nat) (w : World) (hs : s.size ≤ 200) (hi : i ≤ s.size) (hR : RdBlk w R s i) :
    Calls Tryz.prog 86 #[.pointer (some ⟨R, 0, none⟩), .string am] w fun e w' => e = .returned (.int .i64 (Cu.tk s.data.toList am.data.toList i)) ∧ Rd w w' R s (Cu.tkEnd s.data.toList am.data.toList i) := by
  obtain ⟨c0, c1, c2⟩ := hR.two
  by_cases h1 : i < s.size
  · have hm : Hid (Cu.tk s.data.toList am.data.toList i = Lib.indexByte am.data.toList (s.data.toList.getD i 0)) := hide (by unfold Cu.tk; rw [if_pos (by rw [len_toList]; exact h1)])
    have h2 : ((i : Int) == (s.size : Int)) = false := by rw [beq_eq_false_iff_ne]; omega
    have hb := byt_lt s.data.toList i
    have hbe := byt_eq s i h1
    have h3 : (i : Int) < (s.size : Int) := by omega
    have hix := Cu.indexByte_ge am.data.toList (s.data.toList.getD i 0)
    have hcon : Hid (∀ wx : World, Calls Tryz.prog 110 #[.string am, .int .u8 (Cu.byt s.data.toList i)] wx fun e w' => e = .returned (.int .i64 (Lib.indexByte am.data.toList (s.data.toList.getD i 0))) ∧ w' = wx) := hide (fun wx => by
      have h := Tryz.strings_IndexByte am (Cu.byt s.data.toList i) wx
      rw [toUInt8_byte] at h; exact h)
    generalize Lib.indexByte am.data.toList (s.data.toList.getD i 0) = ix at *
    by_cases h4 : 0 ≤ ix
    · have he : Hid (Cu.tkEnd s.data.toList am.data.toList i = i + 1) := hide (by unfold Cu.tkEnd; rw [unhide hm, if_pos h4])
      go_enter Tryz.func86, Tryz.ntmps86
      go_wp2
      go_quiet (fail)
      go_wp2
      go_quiet ((go_at_call 110; exact (unhide hcon _).mono (fun _ _ h => ⟨h.1, _, h.2⟩)))
      go_wp2
      go_ret
      refine ⟨ret_int (by rw [unhide hm]), ?_⟩
      exact ⟨grown_setCell (grown_drewN _ _ _) _, by rw [unhide he]; show Blk _ R [.string s, .int .i64 ((i + 1 : Nat) : Int)] _; rw [show ((i + 1 : Nat) : Int) = (i : Int) + 1 from by omega]; exact (hR.drewN _).setSame 1 _⟩
    · have he : Hid (Cu.tkEnd s.data.toList am.data.toList i = i) := hide (by unfold Cu.tkEnd; rw [unhide hm, if_neg h4])
      go_enter Tryz.func86, Tryz.ntmps86
      go_wp2
      go_quiet (fail)
      go_wp2
      go_quiet ((go_at_call 110; exact (unhide hcon _).mono (fun _ _ h => ⟨h.1, _, h.2⟩)))
      go_wp2
      go_ret
      refine ⟨ret_int (by rw [unhide hm]), ?_⟩
      exact ⟨grown_drewN _ _ _, by rw [unhide he]; exact hR.drewN _⟩
  · have hm : Hid (Cu.tk s.data.toList am.data.toList i = -1) := hide (by unfold Cu.tk; rw [if_neg (by rw [len_toList]; exact h1)])
    have he : Hid (Cu.tkEnd s.data.toList am.data.toList i = i) := hide (by unfold Cu.tkEnd; rw [unhide hm, if_neg (by omega)])
    have h2 : ((i : Int) == (s.size : Int)) = true := by rw [beq_iff_eq]; omega
    go_enter Tryz.func86, Tryz.ntmps86
    go_wp2
    go_quiet (fail)
    go_wp2
    go_ret
    exact ⟨ret_int (unhide hm).symm, grown_drewN _ _ _, by rw [unhide he]; exact hR.drewN _⟩
theorem Rd.alloc {w w' : World} {R : Nat} {s : ByteArray} {j : Nat} (h : Rd w w' R s j) (o : Obj) : Rd w (w'.alloc o) R s j := ⟨grown_trans h.grown (World.grownBy_alloc _ _ _), h.blk.alloc o⟩
theorem Rd.drewN {w w' : World} {R : Nat} {s : ByteArray} {j : Nat} (h : Rd w w' R s j) (q : Nat) : Rd w (w'.drewN q) R s j := ⟨grown_trans h.grown (grown_drewN _ _ _), h.blk.drewN q⟩
theorem Rd.of_alloc {w w' : World} {R : Nat} {s : ByteArray} {j : Nat} {o : Obj} (h : Rd (w.alloc o) w' R s j) (_hR : R < w.heap.size) : Rd w w' R s j := ⟨grown_trans (World.grownBy_alloc _ _ _) h.grown, h.blk⟩
theorem Rd.trans {a b c : World} {R : Nat} {s : ByteArray} {i j : Nat} (h : Rd a b R s i) (k : Rd b c R s j) : Rd a c R s j := ⟨grown_trans h.grown k.grown, k.blk⟩
theorem Rd.setNew {w w' : World} {R : Nat} {s : ByteArray} {j : Nat} (h : Rd w w' R s j) {a : Addr} (hnew : w.heap.size ≤ a.block) (hne : a.block ≠ R) (u : Value) : Rd w (w'.setCell a u) R s j :=
  ⟨⟨h.grown.os, h.grown.tape, h.grown.output, by simpa [World.setCell] using h.grown.size, fun k hk hn => by
    rw [Below.heap_setCell _ _ _ _ (by omega)]; exact h.grown.block k hk hn⟩, h.blk.setOther a u hne⟩
/-- A block that is not the reader's stays. -/
theorem Rd.other {w w' : World} {R : Nat} {s : ByteArray} {j : Nat} (h : Rd w w' R s j) {b : Nat} {cs : List Value} {t : TypeId} (hb : Blk w b cs t) (hne : b ≠ R) : Blk w' b cs t := hb.grown h.grown (by simpa using hne)

/-- The error of a text that is no file. -/
def faultV (i : Nat) : Value := .iface 76 (.agg #[.int .i64 2, .int .i64 i])

set_option maxRecDepth 100000 in
set_option maxHeartbeats 400000 in
theorem fault_any (s : ByteArray) (i R : Nat) (w : World) (hR : RdBlk w R s i) :
    Calls Tryz.prog 59 #[.pointer (some ⟨R, 0, none⟩)] w fun e w' => e = .returned (faultV i) ∧ w = w' := by
  obtain ⟨c0, c1, -⟩ := hR.two
  go_enter Tryz.func59, Tryz.ntmps59
  go_wp2
  go_ret
  exact ⟨rfl, rfl⟩

/-- The bytes of a sign. -/
def signB : ByteArray := ⟨#[65, 66, 67, 68, 69, 70, 71, 72, 73, 74, 75, 76, 77, 78, 79, 80, 81, 82, 83, 84, 85, 86, 87, 88, 89, 90, 95, 46]⟩
def howB : ByteArray := ⟨#[42, 43, 63]⟩

set_option maxRecDepth 100000 in
set_option maxHeartbeats 400000 in
theorem sign_any (s : ByteArray) (i R : Nat) (w : World) (hs : s.size ≤ 200) (hi : i ≤ s.size) (hR : RdBlk w R s i) :
    Calls Tryz.prog 122 #[.pointer (some ⟨R, 0, none⟩)] w fun e w' =>
      e = .returned (.tuple #[.agg #[.int .i64 (Cu.tk s.data.toList signB.data.toList i), .int .i64 i], .bool (decide (0 ≤ Cu.tk s.data.toList signB.data.toList i))]) ∧ Rd w w' R s (Cu.tkEnd s.data.toList signB.data.toList i) := by
  obtain ⟨c0, c1, c2⟩ := hR.two
  have hlt := hR.lt
  have hne : R ≠ w.heap.size := by omega
  go_enter Tryz.func122, Tryz.ntmps122
  go_wp2_with fail
  refine (take_any s signB i R _ hs hi (hR.alloc _)).mono ?_
  rintro e w1 ⟨rfl, hrd⟩
  have hX := hrd.other (Blk.new w [.int .i64 0, .int .i64 0] 171) (by omega)
  obtain ⟨x0, x1, x2⟩ := hX.two
  have hXlt := hX.lt
  have HR := hide (hrd.of_alloc hlt)
  clear hrd
  go_wp2
  exact bodyPost_ret (v := .tuple #[.agg #[.int .i64 (Cu.tk s.data.toList signB.data.toList i), .int .i64 i], .bool (decide (0 ≤ Cu.tk s.data.toList signB.data.toList i))]) (by simp [results, Tryz.results122, go_sem, *]) rfl ⟨rfl, ((unhide HR).setNew (by simp) (by simp; omega) _).setNew (by simp) (by simp; omega) _⟩

/-- A sign, as a node; and with what stands behind it. -/
def signV (k : Int) (i : Nat) : Value := .iface 171 (.agg #[.int .i64 k, .int .i64 i])
def atomV (h : Int) (k : Int) (i : Nat) : Value :=
  if h = 0 then .iface 174 (.agg #[signV k i]) else if h = 1 then .iface 175 (.agg #[signV k i]) else if h = 2 then .iface 176 (.agg #[signV k i]) else signV k i

set_option maxRecDepth 100000 in
set_option maxHeartbeats 400000 in
theorem atom_any (s : ByteArray) (i R p : Nat) (k : Int) (w : World) (hs : s.size ≤ 200) (hi : i ≤ s.size) (hR : RdBlk w R s i) :
    Calls Tryz.prog 123 #[.pointer (some ⟨R, 0, none⟩), .agg #[.int .i64 k, .int .i64 p]] w fun e w' =>
      e = .returned (atomV (Cu.tk s.data.toList howB.data.toList i) k p) ∧ Rd w w' R s (Cu.tkEnd s.data.toList howB.data.toList i) := by
  obtain ⟨c0, c1, c2⟩ := hR.two
  have hlt := hR.lt
  have hne : R ≠ w.heap.size := by omega
  have hge := Cu.tk_ge s.data.toList howB.data.toList i
  go_enter Tryz.func123, Tryz.ntmps123
  go_wp2_with fail
  refine (take_any s howB i R _ hs hi (hR.alloc _)).mono ?_
  rintro e w1 ⟨rfl, hrd⟩
  have hX := hrd.other (Blk.new w [.int .i64 k, .int .i64 p] 171) (by omega)
  obtain ⟨x0, x1, x2⟩ := hX.two
  have HR := hide (hrd.of_alloc hlt)
  clear hrd c0 c1 c2
  generalize hh : Cu.tk s.data.toList howB.data.toList i = h at *
  have HH := hide hh
  clear hh
  go_wp2
  all_goals go_ret
  all_goals go_light
  all_goals refine ⟨congrArg Ending.returned ?_, unhide HR⟩
  all_goals
    rw [unhide HH]
    simp_all [atomV, signV]
end Go.Proofs.YtkinfleecfddlaaGreatDoor
