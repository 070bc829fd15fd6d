/- Scripts as they come in. -/
import Derived.Test.YtbppbejigedioabGreatDoorStOwn
import Derived.Test.YtbppbejigedioabGreatDoorCards
import Derived.WalkKit
import Derived.ProofKit
import Derived.OpenShut
import Derived.ChangeArms
import Derived.DataReads
namespace Go.Proofs.YtbppbejigedioabGreatDoor
open Go.ChangeShapes Go.WideShapes Go.ChangeAt Go.RowKit

/-- A step of a script. -/
structure OpV where
  k : Int
  a : Int
  b : Int
  s : ByteArray
  t : ByteArray
  va : Option Addr
  vl : Nat
  vc : Nat
def OpV.cells (x : OpV) : List Value := [.int .i64 x.k, .int .i64 x.a, .int .i64 x.b, .string x.s, .string x.t, .slice x.va x.vl x.vc]
def OpAt (W : World) (ad : Addr) (x : OpV) : Prop := ∀ j u, x.cells[j]? = some u → W.cell? (ad.add j) = some u
def OpsIn (W : World) (base : Nat) (a : Option Addr) (ops : List OpV) : Prop :=
  ∀ (i : Nat) (x : OpV), ops[i]? = some x → ∃ b off : Nat, a = some ⟨b, off, none⟩ ∧ b < base ∧ ∀ j u, x.cells[j]? = some u → W.cell? ⟨b, off + i * 6 + j, none⟩ = some u
theorem OpsIn.below {w w' : World} {base : Nat} {a : Option Addr} {ops : List OpV} (h : OpsIn w base a ops) (hb : Below base w w') : OpsIn w' base a ops := fun i x hx => by
  obtain ⟨b, off, h1, h2, h3⟩ := h i x hx
  exact ⟨b, off, h1, h2, fun j u hu => by rw [← h3 j u hu]; exact hb.cell h2⟩
theorem OpsIn.texts {w : World} {base : Nat} {a : Option Addr} {ops : List OpV} (h : OpsIn w base a ops) : ScriptIn w base a (ops.map (·.t)) := fun i x hx => by
  rw [List.getElem?_map, Option.map_eq_some_iff] at hx
  obtain ⟨y, hy, rfl⟩ := hx
  obtain ⟨b, off, h1, h2, h3⟩ := h i y hy
  exact ⟨b, off, h1, h2, h3 4 _ rfl⟩
def structOf : Option TypeDesc → Option (List (Nat × Nat))
  | some (.struct fs) => some (fs.toList.map fun f => (f.type, f.offset))
  | _ => none
theorem op_look : structOf (Tryz.prog.underlying 32) = some [(3, 0), (3, 1), (3, 2), (9, 3), (9, 4), (30, 5)] := by kernel_rfl
theorem op_fields : ∃ fs : Array Field, Tryz.prog.underlying 32 = some (.struct fs) ∧ fs.toList.map (fun f => (f.type, f.offset)) = [(3, 0), (3, 1), (3, 2), (9, 3), (9, 4), (30, 5)] := by
  have h := op_look
  generalize Tryz.prog.underlying 32 = u at h
  unfold structOf at h
  split at h
  · exact ⟨_, rfl, by simpa using h⟩
  · cases h
theorem op_cells : Tryz.prog.cellsOf 32 = 6 := by kernel_rfl
theorem ops_under : Tryz.prog.underlying 22 = some (.slice 32) := by kernel_rfl
theorem one_int : Tryz.prog.cellsOf 3 = 1 := by kernel_rfl
theorem one_string : Tryz.prog.cellsOf 9 = 1 := by kernel_rfl
theorem one_slice : Tryz.prog.cellsOf 30 = 1 := by kernel_rfl
theorem op_field {fs : Array Field} (hfs : fs.toList.map (fun f => (f.type, f.offset)) = [(3, 0), (3, 1), (3, 2), (9, 3), (9, 4), (30, 5)]) {j : Nat} {t o : Nat} (h : ([(3, 0), (3, 1), (3, 2), (9, 3), (9, 4), (30, 5)] : List (Nat × Nat))[j]? = some (t, o)) : ∃ f, fs[j]? = some f ∧ f.type = t ∧ f.offset = o := by
  rw [← hfs, List.getElem?_map, Option.map_eq_some_iff] at h
  obtain ⟨f, hf, he⟩ := h
  simp only [Prod.mk.injEq] at he
  exact ⟨f, by simpa using hf, he.1, he.2⟩

set_option maxRecDepth 100000 in
/-- One step, as it reads. -/
theorem open_op {H : Type} {enc : TypeId × Value → H} {W : World} {fuel : Nat} {cs : List Value} {x : DataW H × List MemPlace} (h : DataW.trod enc Tryz.prog W 0 (fun _ => true) true fuel 32 cs = some x) :
    ∃ o : OpV, cs = o.cells ∧ o.t.size + 1 ≤ Rows.uptoBulk x.1 := by
  obtain ⟨fs, hfs0, hfs⟩ := op_fields
  obtain ⟨xs, n, rfl, rfl, hcl, hxl, hf⟩ := DataW.trod_struct hfs0 h
  rw [op_cells] at hcl
  have six : xs.length = 6 := by
    rw [hxl]
    have := congrArg List.length hfs
    simpa using this
  obtain ⟨c0, c1, c2, c3, c4, c5, rfl⟩ : ∃ c0 c1 c2 c3 c4 c5, cs = [c0, c1, c2, c3, c4, c5] := by
    match cs, hcl with
    | [c0, c1, c2, c3, c4, c5], _ => exact ⟨c0, c1, c2, c3, c4, c5, rfl⟩
  obtain ⟨x0, x1, x2, x3, x4, x5, rfl⟩ : ∃ x0 x1 x2 x3 x4 x5, xs = [x0, x1, x2, x3, x4, x5] := by
    match xs, six with
    | [x0, x1, x2, x3, x4, x5], _ => exact ⟨x0, x1, x2, x3, x4, x5, rfl⟩
  have g0 : DataW.trod enc Tryz.prog W 0 (fun _ => true) true n 3 [c0] = some x0 := by
    obtain ⟨f, h1, h2, h3⟩ := op_field hfs (j := 0) rfl
    have h4 := hf 0 f h1
    rw [h2, h3, one_int] at h4
    exact h4
  have g1 : DataW.trod enc Tryz.prog W 0 (fun _ => true) true n 3 [c1] = some x1 := by
    obtain ⟨f, h1, h2, h3⟩ := op_field hfs (j := 1) rfl
    have h4 := hf 1 f h1
    rw [h2, h3, one_int] at h4
    exact h4
  have g2 : DataW.trod enc Tryz.prog W 0 (fun _ => true) true n 3 [c2] = some x2 := by
    obtain ⟨f, h1, h2, h3⟩ := op_field hfs (j := 2) rfl
    have h4 := hf 2 f h1
    rw [h2, h3, one_int] at h4
    exact h4
  have g3 : DataW.trod enc Tryz.prog W 0 (fun _ => true) true n 9 [c3] = some x3 := by
    obtain ⟨f, h1, h2, h3⟩ := op_field hfs (j := 3) rfl
    have h4 := hf 3 f h1
    rw [h2, h3, one_string] at h4
    exact h4
  have g4 : DataW.trod enc Tryz.prog W 0 (fun _ => true) true n 9 [c4] = some x4 := by
    obtain ⟨f, h1, h2, h3⟩ := op_field hfs (j := 4) rfl
    have h4 := hf 4 f h1
    rw [h2, h3, one_string] at h4
    exact h4
  have g5 : DataW.trod enc Tryz.prog W 0 (fun _ => true) true n 30 [c5] = some x5 := by
    obtain ⟨f, h1, h2, h3⟩ := op_field hfs (j := 5) rfl
    have h4 := hf 5 f h1
    rw [h2, h3, one_slice] at h4
    exact h4
  obtain ⟨k, e0, rfl, _⟩ := DataW.trod_int Tryz.underlying3 g0
  obtain ⟨a, e1, rfl, _⟩ := DataW.trod_int Tryz.underlying3 g1
  obtain ⟨b, e2, rfl, _⟩ := DataW.trod_int Tryz.underlying3 g2
  obtain ⟨s, e3, rfl, _⟩ := DataW.trod_string Tryz.underlying9 g3
  obtain ⟨t, e4, rfl, _⟩ := DataW.trod_string Tryz.underlying9 g4
  simp only [List.cons.injEq, and_true] at e0 e1 e2 e3 e4
  subst e0 e1 e2 e3 e4
  have hbulk : t.size + 1 ≤ Rows.uptoBulk (DataW.agg [(.lit (.int .i64 k) : DataW H), .lit (.int .i64 a), .lit (.int .i64 b), .lit (.string s.data.toList), .lit (.string t.data.toList), x5.1]) := by
    simp only [Rows.uptoBulk, Rows.uptoBulkAll]
    rw [len_toList, len_toList]
    omega
  rcases DataW.trod_slice Tryz.underlying30 g5 with ⟨hcs, hx⟩ | ⟨ad, len, cap, elems, rest, n', _, hcs, _⟩
  · simp only [List.cons.injEq, and_true] at hcs
    subst hcs
    exact ⟨⟨k, a, b, s, t, none, 0, 0⟩, rfl, hbulk⟩
  · simp only [List.cons.injEq, and_true] at hcs
    subst hcs
    exact ⟨⟨k, a, b, s, t, some ad, len, cap⟩, rfl, hbulk⟩

/-- The steps, one behind the other. -/
theorem ops_list {H : Type} (Q : Nat → OpV → Prop) : ∀ (elems : List (DataW H × List MemPlace)) (j : Nat), (∀ (i : Nat) (x : DataW H × List MemPlace), elems[i]? = some x → ∃ o : OpV, Q (j + i) o ∧ o.t.size + 1 ≤ Rows.uptoBulk x.1) →
    ∃ ops : List OpV, ops.length = elems.length ∧ (∀ (i : Nat) (o : OpV), ops[i]? = some o → Q (j + i) o) ∧ ops.length + sumS (ops.map (·.t)) ≤ Rows.uptoBulkAll (elems.map (·.1))
  | [], j, _ => ⟨[], rfl, fun i o h => by simp at h, by simp [sumS]⟩
  | x :: elems, j, h => by
    obtain ⟨o, ho, hb⟩ := h 0 x rfl
    obtain ⟨ops, h1, h2, h3⟩ := ops_list Q elems (j + 1) (fun i y hy => by
      obtain ⟨o', h4, h5⟩ := h (i + 1) y (by simpa using hy)
      exact ⟨o', by rw [show j + 1 + i = j + (i + 1) by omega]; exact h4, h5⟩)
    refine ⟨o :: ops, by simp [h1], fun i y hy => ?_, ?_⟩
    · cases i with
      | zero => simp at hy; subst hy; exact ho
      | succ i => rw [show j + (i + 1) = j + 1 + i by omega]; exact h2 i y (by simpa using hy)
    · simp only [List.map_cons, Rows.uptoBulkAll, sumS, List.sum_cons, List.length_cons] at h3 ⊢
      omega
set_option maxRecDepth 100000 in
/-- A script as it came in. -/
theorem open_ops {H : Type} {enc : TypeId × Value → H} {W : World} {base : Nat} {v : Value} {d : DataW H} {ps : List MemPlace} (hv : Value.okWide Tryz.prog W .any base 22 v) (h : DataW.Trod enc Tryz.prog W 0 (fun _ => true) true 22 v d ps) :
    ∃ (a : Option Addr) (ops : List OpV) (cap : Nat), v = .slice a ops.length cap ∧ OpsIn W W.heap.size a ops ∧ ops.length + sumS (ops.map (·.t)) ≤ Rows.uptoBulk d := by
  obtain ⟨a0, len, cap, rfl⟩ := okWide_slice ops_under hv
  obtain ⟨fuel, hf⟩ := h
  rcases DataW.trod_slice ops_under hf with ⟨hcs, hx⟩ | ⟨a, len', cap', elems, rest, n, _, hcs, hx, _, hl, hm, hlen, hel, _⟩
  · simp only [Value.cells, List.cons.injEq, and_true, Value.slice.injEq] at hcs
    obtain ⟨rfl, rfl, rfl⟩ := hcs
    exact ⟨none, [], 0, rfl, fun i x hx => by simp at hx, by simp [sumS]⟩
  · simp only [Value.cells, List.cons.injEq, and_true, Value.slice.injEq] at hcs
    obtain ⟨rfl, rfl, rfl⟩ := hcs
    have hd : d = .slice (elems.map (·.1)) (rest.map (·.1)) := by have := congrArg Prod.fst hx; simpa using this
    rw [op_cells] at hel
    obtain ⟨ops, h1, h2, h3⟩ := ops_list (fun i o => ∀ j u, o.cells[j]? = some u → W.cell? ((a.add (i * 6)).add j) = some u) elems 0 (fun i x hxi => by
      have hil : i < len := by rw [← hlen]; exact (List.getElem?_eq_some_iff.1 hxi).1
      have he := hel i hil
      rw [hxi, Option.bind_eq_some_iff] at he
      obtain ⟨cs, hcs, htr⟩ := he
      obtain ⟨o, rfl, hb⟩ := open_op htr
      obtain ⟨_, hl6, hc6⟩ := World.cells?_some hcs
      refine ⟨o, fun j u hu => ?_, hb⟩
      rw [Nat.zero_add, hc6 j (by have := (List.getElem?_eq_some_iff.1 hu).1; omega)]
      exact hu)
    refine ⟨some a, ops, cap, by rw [h1, hlen], fun i x hxi => ?_, by rw [hd]; simp only [Rows.uptoBulk]; omega⟩
    have hc := h2 i x hxi
    have hi0 : 0 < ops.length := by have := (List.getElem?_eq_some_iff.1 hxi).1; omega
    have hc0 := h2 0 ops[0] (by simp [hi0]) 0 _ rfl
    obtain ⟨b, off, spot⟩ := a
    have hspot : spot = none := by simpa [Addr.add] using World.cell?_spot hc0
    subst hspot
    have hadd : ∀ k : Nat, (⟨b, off, none⟩ : Addr).add k = ⟨b, off + k, none⟩ := fun k => by unfold Addr.add; split <;> simp_all
    have hadd2 : ∀ k j : Nat, (⟨b, off + k, none⟩ : Addr).add j = ⟨b, off + k + j, none⟩ := fun k j => by unfold Addr.add; split <;> simp_all
    refine ⟨b, off, rfl, ?_, fun j u hu => ?_⟩
    · have := World.block_lt_of_cell? W _ hc0
      rw [Nat.zero_add, hadd, hadd2] at this
      exact this
    · have := hc j u hu
      rw [Nat.zero_add, hadd, hadd2] at this
      exact this
end Go.Proofs.YtbppbejigedioabGreatDoor
