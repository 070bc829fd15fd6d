/- The laws' own small functions: cut, good. -/
import Derived.Test.YtbppbejigedioabGreatDoorCutLaw
import Derived.Test.YtbppbejigedioabGreatDoorPlainL
namespace Go.Proofs.YtbppbejigedioabGreatDoor
open Go.RowKit

/-- Is the file well? -/
def isGood (f : List UInt8) : Bool := decide ((Cu.check f).1 = 0)
theorem codeOut_eq (f : List UInt8) : ((((codeOut f).1 : Nat) : Int) == 0) = isGood f := by
  unfold codeOut isGood
  by_cases h : (Cu.check f).1 = 0
  · rw [if_pos h, decide_eq_true h]; rfl
  · rw [if_neg h, decide_eq_false h, beq_eq_false_iff_ne]; omega
/-- A list of cuts as a struct's first cell. -/
def ToldVal (out : List Nat) (ok : Bool) (w : World) (e : Ending) (w' : World) : Prop :=
  ∃ (a : Option Addr) (cap : Nat), e = .returned (.agg #[.slice a out.length cap, .bool ok]) ∧ w'.ownsRow w.heap.size 3 1 (.slice a out.length cap) out.length (intCells out) ∧ Below w.heap.size w w'

/-- Behind the store of an answer's cell. -/
theorem told_ret {W w1 : World} {o : Obj} {e : TypeId} {n k : Nat} {v : Value} {xs : List Value} (ho : w1.ownsRow (W.alloc o).heap.size e k v n xs) (hb : Below (W.alloc o).heap.size (W.alloc o) w1) (x y : Value) :
    ((w1.setCell ⟨W.heap.size, 0, none⟩ x).setCell ⟨W.heap.size, 1, none⟩ y).ownsRow W.heap.size e k v n xs ∧ Below W.heap.size W ((w1.setCell ⟨W.heap.size, 0, none⟩ x).setCell ⟨W.heap.size, 1, none⟩ y) := by
  have h1 : (W.alloc o).heap.size = W.heap.size + 1 := by simp
  refine ⟨own_base (ownsRow_setCell_below (ownsRow_setCell_below ho (by rw [h1]; exact Nat.lt_succ_self _) _) (by rw [h1]; exact Nat.lt_succ_self _) _) (by omega), ?_⟩
  have h2 : Below W.heap.size W w1 := ((Below.refl _ _).alloc (Nat.le_refl _) o).trans (hb.mono (by omega))
  exact (h2.setCell (Nat.le_refl _) _).setCell (Nat.le_refl _) _
/-- Behind a call whose answer was laid into a cell of its own. -/
theorem told_put {w w1 w2 : World} {x y : Value} {t : TypeId} (hw : Below w.heap.size w w1) (hb : Below (w1.alloc (.cells #[x, y] t)).heap.size (w1.alloc (.cells #[x, y] t)) w2) :
    Blk w2 w1.heap.size [x, y] t ∧ Below w1.heap.size w1 w2 ∧ Below w.heap.size w w2 ∧ w.heap.size ≤ (w1.alloc (.cells #[x, y] t)).heap.size := by
  have h0 : (w1.alloc (.cells #[x, y] t)).heap.size = w1.heap.size + 1 := by simp
  have hs := hw.size
  have h1 : Below w1.heap.size w1 w2 := ((Below.refl _ _).alloc (Nat.le_refl _) _).trans (hb.mono (by omega))
  exact ⟨(Blk.new w1 [x, y] t).below hb (by omega), h1, hw.trans (h1.mono hs), by omega⟩
/-- An answer of cut, in a cell of its own. -/
structure Held (w wr : World) (b : Nat) (a : Option Addr) (cap : Nat) (out : List Nat) (ok : Bool) : Prop where
  blk : Blk wr b [.slice a out.length cap, .bool ok] 39
  row : wr.ownsRow w.heap.size 3 1 (.slice a out.length cap) out.length (intCells out)
theorem Held.below {w wr wr' : World} {b : Nat} {a : Option Addr} {cap : Nat} {out : List Nat} {ok : Bool} (h : Held w wr b a cap out ok) (hb : Below wr.heap.size wr wr') : Held w wr' b a cap out ok :=
  ⟨h.blk.below hb h.blk.lt, own_below h.row hb⟩
theorem held_put {w w1 w2 : World} {a : Option Addr} {cap : Nat} {out : List Nat} {ok : Bool} (hw : Below w.heap.size w w1) (hr : w1.ownsRow w.heap.size 3 1 (.slice a out.length cap) out.length (intCells out))
    (hb : Below (w1.alloc (.cells #[.slice a out.length cap, .bool ok] 39)).heap.size (w1.alloc (.cells #[.slice a out.length cap, .bool ok] 39)) w2) :
    Held w w2 w1.heap.size a cap out ok ∧ Below w1.heap.size w1 w2 ∧ Below w.heap.size w w2 ∧ w.heap.size ≤ (w1.alloc (.cells #[.slice a out.length cap, .bool ok] 39)).heap.size := by
  obtain ⟨h1, h2, h3, h4⟩ := told_put hw hb
  exact ⟨⟨h1, own_below hr h2⟩, h2, h3, h4⟩
theorem Held.drewN {w wr : World} {b : Nat} {a : Option Addr} {cap : Nat} {out : List Nat} {ok : Bool} (h : Held w wr b a cap out ok) (n : Nat) : Held w (wr.drewN n) b a cap out ok :=
  ⟨h.blk.drewN n, own_below h.row ⟨rfl, rfl, rfl, Nat.le_refl _, fun _ _ => rfl⟩⟩
theorem below_drawn {B : Nat} {a w : World} (h : Below B a w) (n : Nat) : Below B a (w.drewN n) := h.trans ⟨rfl, rfl, rfl, Nat.le_refl _, fun _ _ => rfl⟩
theorem below_put {w w1 : World} (h : Below w.heap.size w w1) (o : Obj) : Below w.heap.size w (w1.alloc o) := h.alloc h.size o

set_option maxRecDepth 100000 in
set_option maxHeartbeats 400000 in
theorem lcut_any (f t : ByteArray) (w W : World) (hf : f.size ≤ 9223372036854775807) (ht : t.size ≤ 1048576) (hT : Tabs w) (hw3 : 4 < w.heap.size) (hg : ErrT w) (hz : Tz w) (hb : Below w.heap.size w W) :
    Calls Tryz.prog 11 #[.string f, .string t] W fun e w' => ToldVal (cutOut f.data.toList t.data.toList) (isGood f.data.toList) W e w' := by
  have hc := codeOut_eq f.data.toList
  have HP := hide (fun V (hV : Below w.heap.size w V) => (pcut_below f t w V hf ht hT hw3 hg hz hV).mono fun _ _ h => h.val)
  have HBW := hide hb
  clear hg hT hz hb
  generalize cutOut f.data.toList t.data.toList = out at *
  generalize codeOut f.data.toList = cp at *
  obtain ⟨c, p⟩ := cp
  generalize isGood f.data.toList = ok at *
  simp only at hc HP
  go_enter Tryz.func11, Tryz.ntmps11
  go_wp2_with fail
  refine (unhide HP _ ((unhide HBW).alloc (unhide HBW).size _)).mono ?_
  rintro e w1 ⟨a1, c1, rfl, ho1, hb1⟩
  have hB1 : Blk w1 W.heap.size [.slice none 0 0, .bool false] 39 := (Blk.new W _ _).below hb1 (by simp)
  obtain ⟨q0, q1, q2⟩ := hB1.two
  have hfin := hide (told_ret ho1 hb1 (.slice a1 out.length c1) (.bool ok))
  clear ho1 hb1 hB1
  go_wp2_with (go_at_call 13; refine (num_any _ _).mono ?_; rintro e w' ⟨rfl, rfl⟩)
  exact bodyPost_ret (v := .agg #[.slice a1 out.length c1, .bool ok]) (by simp [results, Tryz.results11, go_sem, *]) rfl ⟨a1, c1, rfl, (unhide hfin).1, (unhide hfin).2⟩
theorem lcut_const (f t : ByteArray) (w W : World) (hf : f.size ≤ 9223372036854775807) (ht : t.size ≤ 1048576) (hT : Tabs w) (hw3 : 4 < w.heap.size) (hg : ErrT w) (hz : Tz w) (hb : Below w.heap.size w W) {out : List Nat} (h1 : Cu.check f.data.toList = (0, 0)) (h2 : Cu.cutsR (Cu.readGo f.data.toList 12 0 []).2.2 t.data.toList = out) :
    Calls Tryz.prog 11 #[.string f, .string t] W fun e w' => ToldVal out true W e w' := by
  have h := lcut_any f t w W hf ht hT hw3 hg hz hb
  unfold cutOut isGood at h
  rw [h1, if_pos rfl, h2] at h
  exact h
theorem all_len (t : ByteArray) (ht : t.size ≤ 1048576) : (Cu.allCuts t.data.toList).length ≤ 1048577 := by
  have := chars_len t
  unfold Cu.allCuts
  split <;> simp <;> omega
theorem none_len (t : ByteArray) : (Cu.noCuts t.data.toList).length ≤ 2 := by
  unfold Cu.noCuts
  split <;> simp
set_option maxRecDepth 100000 in
set_option maxHeartbeats 400000 in
theorem good_any (f : ByteArray) (w : World) (hf : f.size ≤ 9223372036854775807) :
    Calls Tryz.prog 12 #[.string f] w fun e w' => e = .returned (.bool (isGood f.data.toList)) ∧ Below w.heap.size w w' := by
  have hd : (((Cu.check f.data.toList).1 : Int) == 0) = isGood f.data.toList := by
    unfold isGood
    by_cases h : (Cu.check f.data.toList).1 = 0
    · rw [decide_eq_true h, h]; rfl
    · rw [decide_eq_false h, beq_eq_false_iff_ne]; omega
  go_enter Tryz.func12, Tryz.ntmps12
  go_wp2_with fail
  refine (refCheck_any f _ hf).mono ?_
  rintro e w1 ⟨rfl, hb⟩
  go_wp2
  go_ret
  exact ⟨rfl, hb⟩
end Go.Proofs.YtbppbejigedioabGreatDoor
