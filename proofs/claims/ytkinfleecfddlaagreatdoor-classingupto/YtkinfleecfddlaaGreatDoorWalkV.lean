/- errors.As at a broken: the hit. -/
import Derived.Test.YtkinfleecfddlaaGreatDoorWalkU
namespace Go.Proofs.YtkinfleecfddlaaGreatDoor
open Go.RowKit Go.Extern.Stop Go.Stop Go.Extern

theorem vElem (a p : Addr) (W : World) (ha : W.cell? a = some (.pointer (some p))) :
    (ReflectliteValue.method (ReflectliteValue.valueError "reflectlite.Value.Elem" 0) ReflectliteValue.elem #[.agg #[.pointer (some ⟨5, 89, none⟩), .pointer (some a), .int .u64 150]]).run Tryz.prog W
      = .ok (.agg #[.pointer (some ⟨5, 76, none⟩), .pointer (some p), .int .u64 409]) W := by
  show (Bind.bind (ReflectliteValue.parts (.agg #[.pointer (some ⟨5, 89, none⟩), .pointer (some a), .int .u64 150])) _).run _ _ = _
  simp only [Sem.run_bind, pPtr, Result.andThen]
  simp [ReflectliteValue.elem, loadVar, isAgg, underlying, Tryz.underlying89, ha, Result.andThen, elPtr, mkStr]
theorem pStrA (a : Addr) (w : World) : (ReflectliteValue.parts (.agg #[.pointer (some ⟨5, 76, none⟩), .pointer (some a), .int .u64 409])).run Tryz.prog w = .ok (some (76, a, 409)) w := by kernel_rfl
theorem pStr (a : Addr) (w : World) : (ReflectliteValue.parts (.agg #[.pointer (some ⟨5, 76, none⟩), .pointer (some a), .int .u64 153])).run Tryz.prog w = .ok (some (76, a, 153)) w := by kernel_rfl
theorem dStr (w : World) : (Rtype.directlyAssignable 76 76).run Tryz.prog w = .ok true w := by kernel_rfl
theorem ldStr (b : Nat) (x y : Value) (W : World) (h0 : W.cell? ⟨b, 0, none⟩ = some x) (h1 : W.cell? ⟨b, 1, none⟩ = some y) : (loadVar 76 ⟨b, 0, none⟩).run Tryz.prog W = .ok (.agg #[x, y]) W := by
  go_simp
theorem stStr (b : Nat) (x y : Int) (u v : Value) (W : World) (h0 : W.cell? ⟨b, 0, none⟩ = some u) (h1 : W.cell? ⟨b, 1, none⟩ = some v) (hf : ∀ j, W.frozen? ⟨b, j, none⟩ = false) :
    (storeVar 76 ⟨b, 0, none⟩ (.agg #[.int .i64 x, .int .i64 y])).run Tryz.prog W = .ok () ((W.setCell ⟨b, 0, none⟩ (.int .i64 x)).setCell ⟨b, 1, none⟩ (.int .i64 y)) := by
  go_simp
theorem setStr (ta b : Nat) (x y : Int) (u v : Value) (W : World) (h0 : W.cell? ⟨b, 0, none⟩ = some (.int .i64 x)) (h1 : W.cell? ⟨b, 1, none⟩ = some (.int .i64 y)) (t0 : W.cell? ⟨ta, 0, none⟩ = some u) (t1 : W.cell? ⟨ta, 1, none⟩ = some v) (hf : ∀ j, W.frozen? ⟨ta, j, none⟩ = false) :
    (ReflectliteValue.set #[.agg #[.pointer (some ⟨5, 76, none⟩), .pointer (some ⟨ta, 0, none⟩), .int .u64 409], .agg #[.pointer (some ⟨5, 76, none⟩), .pointer (some ⟨b, 0, none⟩), .int .u64 153]]).run Tryz.prog W
      = .ok (.tuple #[]) ((W.setCell ⟨ta, 0, none⟩ (.int .i64 x)).setCell ⟨ta, 1, none⟩ (.int .i64 y)) := by
  show (Bind.bind (ReflectliteValue.parts (.agg #[.pointer (some ⟨5, 76, none⟩), .pointer (some ⟨ta, 0, none⟩), .int .u64 409])) fun r => Bind.bind (ReflectliteValue.parts (.agg #[.pointer (some ⟨5, 76, none⟩), .pointer (some ⟨b, 0, none⟩), .int .u64 153])) _).run _ _ = _
  simp only [Sem.run_bind, pStrA, pStr, Result.andThen]
  simp [ReflectliteValue.flagAddr, ldStr b _ _ W h0 h1, Result.andThen, dStr, stStr ta x y u v W t0 t1 hf]
end Go.Proofs.YtkinfleecfddlaaGreatDoor
