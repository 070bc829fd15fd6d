/- The program's Classes; the law Classing. -/
import Derived.Test.YtbppbejigedioabGreatDoorClsY
import Derived.Test.YtbppbejigedioabGreatDoorBookG
import Derived.Laws.OwnMore
namespace Go.Proofs.YtbppbejigedioabGreatDoor
open Go.RowKit

theorem spCells_get (its : List KItem) (rs : List PLn) (l r : List Cu.Chr) (i j : Nat) (hi : i < l.length) (hj : j < 3) : (spCells its rs l r)[i * 3 + j]? = (chv its rs l[i] (l.drop (i + 1) ++ r))[j]? := by
  induction l generalizing i with
  | nil => simp at hi
  | cons y l ih =>
    cases i with
    | zero => simp only [spCells, Nat.zero_mul, Nat.zero_add]; rw [List.getElem?_append_left (by unfold chv; simp; omega)]; rfl
    | succ i =>
      simp only [spCells]
      rw [List.getElem?_append_right (by unfold chv; simp; omega), show (i + 1) * 3 + j - (chv its rs y (l ++ r)).length = i * 3 + j by unfold chv; simp; omega, ih i (by simpa using hi)]
      rfl
theorem sp_cells {w : World} {base cap : Nat} {its : List KItem} {rs : List PLn} {l r : List Cu.Chr} {a : Option Addr} (ho : w.ownsRow base 141 3 (.slice a l.length cap) l.length (spCells its rs l r)) (i : Nat) (hi : i < l.length) :
    ∃ (g : Nat) (x : Cu.Chr), a = some ⟨g, 0, none⟩ ∧ l[i]? = some x ∧ g < w.heap.size ∧ w.cell? ⟨g, i * 3, none⟩ = some (.int .i64 x.1) ∧ w.cell? ⟨g, i * 3 + 1, none⟩ = some (.int .i64 (symOf its x.2.2)) ∧ w.cell? ⟨g, i * 3 + 2, none⟩ = some (.int .u16 (stN rs (symOf its x.2.2).toNat (symB its (l.drop (i + 1) ++ r)))) := by
  rcases ho.2 with ⟨_, h2⟩ | ⟨g, cap', cur, hv, _, hh, h3, h4, _⟩
  · omega
  · simp only [Value.slice.injEq, true_and] at hv
    obtain ⟨rfl, rfl⟩ := hv
    have hc : ∀ j, j < 3 → w.cell? ⟨g, i * 3 + j, none⟩ = (chv its rs l[i] (l.drop (i + 1) ++ r))[j]? := fun j hj => by
      rw [ho.cellAt (i * 3 + j) (by omega), spCells_get its rs l r i j hi hj]
    exact ⟨g, l[i], rfl, by simp [hi], (Array.getElem?_eq_some_iff.1 hh).1, hc 0 (by omega), hc 1 (by omega), hc 2 (by omega)⟩

/-- The letters so far. -/
def LtRel (its : List KItem) (cs : List Cu.Chr) (w : World) (b : Nat) (v : Value) (wr : World) : Prop :=
  ∃ (n : Nat) (us : List Value), n ≤ cs.length ∧ v = .int .i64 n ∧ Blk wr b us 5 ∧ us.length = cs.length ∧ Below w.heap.size w wr ∧ ∀ k x, k < n → cs[k]? = some x → us[k]? = some (.int .u8 (letter (symOf its x.2.2)))
theorem lt_step {its : List KItem} {cs : List Cu.Chr} {w W : World} {b n : Nat} {x : Cu.Chr} {us : List Value} (hx : cs[n]? = some x) (hB : Blk W b us 5) (hul : us.length = cs.length) (hb : Below w.heap.size w W) (hwb : w.heap.size ≤ b)
    (hk : ∀ k x, k < n → cs[k]? = some x → us[k]? = some (.int .u8 (letter (symOf its x.2.2)))) : LtRel its cs w b (.int .i64 ((n : Int) + 1)) (W.setCell ⟨b, n, none⟩ (.int .u8 (letter (symOf its x.2.2)))) := by
  have hn : n < cs.length := (List.getElem?_eq_some_iff.1 hx).1
  refine ⟨n + 1, us.set n (.int .u8 (letter (symOf its x.2.2))), by omega, by go_num, hB.setSame n _, by simp [hul], hb.setCell hwb _, ?_⟩
  intro k y hk2 hy
  by_cases hkn : k = n
  · subst hkn
    rw [hx] at hy
    simp at hy
    subst hy
    rw [List.getElem?_set_self (by omega)]
  · rw [List.getElem?_set_ne (by omega)]
    exact hk k y (by omega) hy
theorem LtRel.alloc {its : List KItem} {cs : List Cu.Chr} {w wr : World} {b : Nat} {v : Value} (h : LtRel its cs w b v wr) (o : Obj) : LtRel its cs w b v (wr.alloc o) := by
  obtain ⟨n, us, h1, h2, h3, h4, h5, h6⟩ := h
  exact ⟨n, us, h1, h2, h3.alloc o, h4, h5.alloc h5.size o, h6⟩
theorem conv_letters {its : List KItem} {cs : List Cu.Chr} {lns : List Cu.Ln} {w : World} {b : Nat} {us : List Value} (hB : Blk w b us 5) (hk : ∀ k x, k < cs.length → cs[k]? = some x → us[k]? = some (.int .u8 (letter (symOf its x.2.2)))) (hl : ∀ c, letter (symOf its c) = Cu.classOf lns c) :
    Sem.run Tryz.prog (convert 215 9 (.slice (some ⟨b, 0, none⟩) cs.length cs.length)) w = .ok (.string (clsB lns cs)) w := by
  have h := run_convert_bytes_arg (P := Tryz.prog) w 215 5 Tryz.underlying215 Tryz.underlying5 b 0 cs.length cs.length (cs.map fun x => (Cu.classOf lns x.2.2 : Int)) (by simp) (fun i hi => by
    rw [Nat.zero_add, hB.cell i]
    have hx : cs[i]? = some cs[i] := by simp [hi]
    rw [hk i cs[i] hi hx, hl]
    simp [List.getD, hi]) 9 Tryz.underlying9
  have e1 : strOfNums (cs.map fun x => (Cu.classOf lns x.2.2 : Int)) = clsB lns cs := by
    apply ByteArray.ext
    apply Array.toList_inj.1
    unfold clsB clsL strOfNums
    simp
  rw [e1] at h
  exact h
theorem letter_lt (k : Int) : letter k < 256 := by unfold letter; exact Cu.byt_lt' _ _
theorem Tryz.info5 : (Tryz.prog.info? 5).map (fun i => (i.zero, i.size, i.bytes)) = some (some (.int .u8 0), 1, 1) := by kernel_rfl
/-- make of n bytes. -/
theorem make_bytes (W : World) (n : Nat) (hn : n ≤ 1048576) : ∃ us : List Value, us.length = n ∧ Sem.run Tryz.prog (Instr.makeSlice 215 (.int .i64 n) (.int .i64 n)) W = .ok (.slice (some ⟨W.heap.size, 0, none⟩) n n) (W.alloc (.cells us.toArray 5)) := by
  obtain ⟨i0, ki, kz0, kz1, kz2⟩ := info_parts Tryz.info5
  have h := run_make (P := Tryz.prog) W 215 5 i0 (.int .u8 0) Tryz.underlying215 ki kz0 .i64 .i64 n n (by omega) (Int.le_refl _) (by rw [kz2]; omega) (by omega)
  refine ⟨(madeCells (Value.int .u8 0).cells (n * 1)).toList, by simp [size_madeCells], ?_⟩
  rw [kz1] at h
  simpa using h
end Go.Proofs.YtbppbejigedioabGreatDoor
