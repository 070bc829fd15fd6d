/- Walks: the program's line. -/
import Derived.Test.YtkinfleecfddlaaGreatDoorWalkR
namespace Go.Proofs.YtkinfleecfddlaaGreatDoor
open Go.RowKit

/-- A line that is not empty, as the program holds it. -/
def plineV (x : Cu.Ln) (a : Option Addr) (c : Nat) : Value :=
  if x.op = 0 then .iface 141 (.agg #[.int .i64 (Cu.sk x.name), .int .i64 x.at_, .slice a x.items.length c]) else .iface 123 (.agg #[leftV x.left, .bool (x.op == 124), .slice a x.right.length c])
def PLnOwn (w : World) (base : Nat) (x : Cu.Ln) (a : Option Addr) (c : Nat) : Prop :=
  if x.op = 0 then w.ownsRow base 85 4 (.slice a x.items.length c) x.items.length (pitemCells (Cu.sk x.name) x.items) else w.ownsRow base 171 2 (.slice a x.right.length c) x.right.length (signCells x.right)

def PLineRes (s : ByteArray) (i R : Nat) (w : World) (e : Ending) (w' : World) : Prop :=
  ((Cu.lineAt s.data.toList i).1 = false ∧ e = .returned (.tuple #[.nilIface, faultV (Cu.lineAt s.data.toList i).2.1]) ∧ Rd w w' R s (Cu.lineAt s.data.toList i).2.1) ∨
  (∃ (a : Option Addr) (c : Nat), (Cu.lineAt s.data.toList i).1 = true ∧ e = .returned (.tuple #[plineV (Cu.lineAt s.data.toList i).2.2 a c, .nilIface]) ∧ PLnOwn w' w.heap.size (Cu.lineAt s.data.toList i).2.2 a c ∧ Rd w w' R s (Cu.lineAt s.data.toList i).2.1)

def eqB : ByteArray := ⟨#[61]⟩
theorem name_tk (s : List UInt8) (i : Nat) : decide (0 ≤ Cu.tk s Cu.nameL i) = (decide (i < s.length) && Cu.isName (Cu.byt s i)) := by
  by_cases h : i < s.length
  · rw [Cu.tk_at h]; simp only [h, decide_true, Bool.true_and]; exact Cu.name_all ⟨Cu.byt s i, Cu.byt_lt' s i⟩
  · rw [Cu.tk_end h]; simp [h]
theorem eq_tk (s : List UInt8) (i : Nat) : decide (0 ≤ Cu.tk s eqB.data.toList i) = (decide (i < s.length) && (Cu.byt s i == 61)) := by
  by_cases h : i < s.length
  · rw [Cu.tk_at h]; simp only [h, decide_true, Bool.true_and]; exact Cu.eq_all ⟨Cu.byt s i, Cu.byt_lt' s i⟩
  · rw [Cu.tk_end h]; simp [h]

theorem nameB_toList : (signB.extract 0 26).data.toList = Cu.nameL := by rw [extract_list]; rfl

theorem pline_class {s : ByteArray} {i R : Nat} {w w1 w' : World} {e : Ending} (hc : Cu.isClass s.data.toList i = true) (hr : Rd w w1 R s (i + 2)) (h : PClassRes s (i + 2) R (Cu.sk (Cu.byt s.data.toList i)) i w1 e w') : PLineRes s i R w e w' := by
  rcases h with ⟨p, l, hg, rfl, hrd⟩ | ⟨p, cap, l, a, hg, rfl, ho, hrd⟩
  · have e1 := Cu.lineAt_class (b := false) (p := p) (l := l) hc (by rw [len_toList]; exact hg)
    left
    rw [e1]
    exact ⟨rfl, rfl, hr.trans hrd⟩
  · have e1 := Cu.lineAt_class (b := true) (p := p) (l := l) hc (by rw [len_toList]; exact hg)
    right
    refine ⟨a, cap, ?_⟩
    rw [e1]
    exact ⟨rfl, rfl, own_base ho hr.grown.size, hr.trans hrd⟩
theorem mid_op {s : List UInt8} {j : Nat} (h : Cu.mid s j = true) : Cu.byt s j ≠ 0 := by
  unfold Cu.mid at h
  intro h0
  rw [h0] at h
  simp at h
theorem ruleAt_op {s : List UInt8} {i p op : Nat} {l r : List Cu.Atom} (h : Cu.ruleAt s i = (true, p, op, l, r)) : op ≠ 0 := by
  cases hm : Cu.mid s (Cu.leftGo s 4 i []).1 with
  | true => rw [Cu.ruleAt_yes hm] at h; simp only [Prod.mk.injEq, true_and] at h; rw [← h.2.1]; exact mid_op hm
  | false => rw [Cu.ruleAt_no hm] at h; simp at h
theorem pline_rule {s : ByteArray} {i R : Nat} {w w1 w' : World} {e : Ending} (hc : Cu.isClass s.data.toList i = false) (hm : Cu.more s.data.toList i = true) (hr : Rd w w1 R s i) (h : PRuleRes s i R w1 e w') : PLineRes s i R w e w' := by
  rcases h with ⟨p, op, l, hg, rfl, hrd⟩ | ⟨p, op, l, r, a, cap, hg, rfl, ho, hrd⟩
  · have e1 := Cu.lineAt_rule hc hm hg
    left
    rw [e1]
    exact ⟨rfl, rfl, hr.trans hrd⟩
  · have e1 := Cu.lineAt_rule hc hm hg
    have hop := ruleAt_op hg
    right
    refine ⟨a, cap, ?_⟩
    rw [e1]
    refine ⟨rfl, ?_, ?_, hr.trans hrd⟩
    · unfold plineV; rw [if_neg hop]
    · unfold PLnOwn; rw [if_neg hop]; exact own_base ho hr.grown.size

set_option maxRecDepth 100000 in
set_option maxHeartbeats 1000000 in
theorem pline_any (s : ByteArray) (i R : Nat) (w : World) (hs : s.size ≤ 200) (hi : i ≤ s.size) (hR : RdBlk w R s i) (hT : Tabs w) (hR2 : 2 < R) (hm : Cu.more s.data.toList i = true) :
    Calls Tryz.prog 58 #[.pointer (some ⟨R, 0, none⟩)] w fun e w' => PLineRes s i R w e w' := by
  have hRlt := hR.lt
  obtain ⟨c0, c1, c2⟩ := hR.two
  go_enter Tryz.func58, Tryz.ntmps58
  have hml := (Cu.more_true hm).1
  rw [len_toList] at hml
  have hnk := name_tk s.data.toList i
  rw [len_toList] at hnk
  simp only [hml, decide_true, Bool.true_and] at hnk
  have HNK := hide hnk
  clear hnk
  go_wp2_with fail
  refine (take_any s (signB.extract 0 26) i R _ hs hi hR).mono ?_
  rintro e w1 ⟨rfl, hr1⟩
  rw [nameB_toList] at hr1 ⊢
  cases hnm : Cu.isName (Cu.byt s.data.toList i) with
  | false =>
    have hd : ¬ 0 ≤ Cu.tk s.data.toList Cu.nameL i := by have h := unhide HNK; rw [hnm] at h; simpa using h
    have hcl : Hid (Cu.isClass s.data.toList i = false) := hide (by unfold Cu.isClass; rw [hnm]; simp)
    rw [Cu.tk_no hd] at hr1
    obtain ⟨d0, d1, d2⟩ := hr1.blk.two
    have hrm := hide (hr1.move i i rfl)
    have HM := hide hm
    clear hnm hm c0 c1 c2
    go_wp2_with fail
    refine (prule_any s i R _ hs hi (unhide hrm).blk).mono ?_
    rintro e w2 hres
    have HP := hide (pline_rule (unhide hcl) (unhide HM) (unhide hrm) hres)
    rcases hres with ⟨p, op, l, hg, rfl, hrd⟩ | ⟨p, op, l, r, a, cap, hg, rfl, ho, hrd⟩
    · clear hg hrd
      go_wp2
      go_ret2
      exact unhide HP
    · clear hg hrd ho
      go_wp2
      go_ret2
      exact unhide HP
  | true =>
    have hd : 0 ≤ Cu.tk s.data.toList Cu.nameL i := by have h := unhide HNK; rw [hnm] at h; simpa using h
    have hend : Cu.tkEnd s.data.toList Cu.nameL i = i + 1 := by unfold Cu.tkEnd; rw [if_pos hd]
    have hsk : Hid (Cu.tk s.data.toList Cu.nameL i = Cu.sk (Cu.byt s.data.toList i)) := hide (by
      rw [Cu.tk_at (by rw [len_toList]; exact hml)]
      exact Cu.name_sign ⟨Cu.byt s.data.toList i, Cu.byt_lt' _ _⟩ hnm)
    rw [hend] at hr1
    have HT1 := hide (hr1.tabs hT hR2)
    have hek := eq_tk s.data.toList (i + 1)
    rw [len_toList] at hek
    have HEK := hide hek
    have HNM := hide hnm
    clear hend hek hnm
    go_wp2_with fail
    refine (take_any s eqB (i + 1) R _ hs (by omega) hr1.blk).mono ?_
    rintro e w2 ⟨rfl, hr2⟩
    cases hcl : Cu.isClass s.data.toList i with
    | true =>
      obtain ⟨g1, g2, g3⟩ := Cu.isClass_true hcl
      rw [len_toList] at g1
      have hd2 : 0 ≤ Cu.tk s.data.toList eqB.data.toList (i + 1) := by have h := unhide HEK; rw [g3] at h; simpa [g1] using h
      have hend : Cu.tkEnd s.data.toList eqB.data.toList (i + 1) = i + 2 := by unfold Cu.tkEnd; rw [if_pos hd2]
      rw [hend] at hr2
      have HC := hide hcl
      have HR2 := hide (hr1.trans hr2)
      have HT2 := hide (hr2.tabs (unhide HT1) hR2)
      clear hcl g2 g3 hend c0 c1 c2
      go_wp2_with fail
      rw [unhide hsk]
      refine (pclass_any s (i + 2) R _ i _ hs (by omega) hr2.blk (unhide HT2) hR2).mono ?_
      rintro e w3 hres
      have HP := hide (pline_class (unhide HC) (unhide HR2) hres)
      rcases hres with ⟨p, l, hg, rfl, hrd⟩ | ⟨p, cap, l, a, hg, rfl, ho, hrd⟩
      · clear hg hrd
        go_wp2
        go_ret2
        exact unhide HP
      · clear hg hrd ho
        go_wp2
        go_ret2
        exact unhide HP
    | false =>
      have hd2 : ¬ 0 ≤ Cu.tk s.data.toList eqB.data.toList (i + 1) := by
        intro h0
        have h := unhide HEK
        have h1 : decide (0 ≤ Cu.tk s.data.toList eqB.data.toList (i + 1)) = true := by simpa using h0
        rw [h1] at h
        have h2 := hcl
        unfold Cu.isClass at h2
        rw [len_toList, unhide HNM] at h2
        simp only [Bool.and_true] at h2
        rw [← h] at h2
        cases h2
      rw [Cu.tk_no hd2] at hr2
      obtain ⟨d0, d1, d2⟩ := hr2.blk.two
      have hrm := hide ((hr1.trans hr2).move i i rfl)
      have HC := hide hcl
      have HM := hide hm
      clear hcl hm c0 c1 c2
      go_wp2_with fail
      refine (prule_any s i R _ hs hi (unhide hrm).blk).mono ?_
      rintro e w3 hres
      have HP := hide (pline_rule (unhide HC) (unhide HM) (unhide hrm) hres)
      rcases hres with ⟨p, op, l, hg, rfl, hrd⟩ | ⟨p, op, l, r, a, cap, hg, rfl, ho, hrd⟩
      · clear hg hrd
        go_wp2
        go_ret2
        exact unhide HP
      · clear hg hrd ho
        go_wp2
        go_ret2
        exact unhide HP
end Go.Proofs.YtkinfleecfddlaaGreatDoor
