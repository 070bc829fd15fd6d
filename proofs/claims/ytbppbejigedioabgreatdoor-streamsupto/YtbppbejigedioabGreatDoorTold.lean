/- errors.As at a broken, after the worked example's manner; told. -/
import Derived.Test.YtbppbejigedioabGreatDoorRdA
import Derived.LaidEql
import Derived.Stop.Asserts
import Derived.RowKitTokens
import Derived.BigQuiet
import Derived.Deep.QuietTactic
namespace Go.Proofs.YtbppbejigedioabGreatDoor
open Go.RowKit Go.Extern.Stop Go.Stop Go.Extern

theorem as_nil (t : Value) (w : World) :
    Calls Tryz.prog 49 #[.nilIface, t] w fun e w' => e = .returned (.bool false) ∧ w' = w := by
  go_enter Tryz.func49, Tryz.ntmps49
  go_wp2
  go_ret
  exact ⟨rfl, rfl⟩

theorem vPtr (t : Addr) (w : World) : (ReflectliteValue.unpack (.iface 112 (.pointer (some t)))).run Tryz.prog w
    = .ok (.agg #[.pointer (some ⟨6, 112, none⟩), .pointer (some ⟨w.heap.size, 0, none⟩), .int .u64 150]) (w.alloc (.cells #[.pointer (some t)] 112)) := by kernel_rfl
theorem tPtr (a : Addr) (w : World) : (ReflectliteValue.methodAny (ReflectliteValue.valueError "reflectlite.Value.Type" 0) (fun t _ _ _ => ReflectliteType.toType t) #[.agg #[.pointer (some ⟨6, 112, none⟩), .pointer (some a), .int .u64 150]]).run Tryz.prog w
    = .ok (.iface 246 (.agg #[.pointer (some ⟨6, 112, none⟩)])) w := by kernel_rfl
theorem kPtr (w : World) : ((ReflectliteType.abiMethod fun t => Functor.map (fun a : Nat => Value.int IntKind.u8 (a : Int)) (Rtype.kind t)) #[.pointer (some ⟨6, 112, none⟩)]).run Tryz.prog w = .ok (.int .u8 22) w := by kernel_rfl
theorem kStr (w : World) : ((ReflectliteType.abiMethod fun t => Functor.map (fun a : Nat => Value.int IntKind.u8 (a : Int)) (Rtype.kind t)) #[.pointer (some ⟨6, 99, none⟩)]).run Tryz.prog w = .ok (.int .u8 25) w := by kernel_rfl
theorem pPtr (a : Addr) (w : World) : (ReflectliteValue.parts (.agg #[.pointer (some ⟨6, 112, none⟩), .pointer (some a), .int .u64 150])).run Tryz.prog w = .ok (some (112, a, 150)) w := by kernel_rfl
theorem nPtr (a p : Addr) (W : World) (ha : W.cell? a = some (.pointer (some p))) :
    (ReflectliteValue.method (ReflectliteValue.valueError "reflectlite.Value.IsNil" 0) ReflectliteValue.isNil #[.agg #[.pointer (some ⟨6, 112, none⟩), .pointer (some a), .int .u64 150]]).run Tryz.prog W = .ok (.bool false) W := by
  show (Bind.bind (ReflectliteValue.parts (.agg #[.pointer (some ⟨6, 112, none⟩), .pointer (some a), .int .u64 150])) _).run _ _ = _
  simp only [Sem.run_bind, pPtr, Result.andThen]
  simp [ReflectliteValue.isNil, loadVar, isAgg, underlying, Tryz.underlying112, ha, Result.andThen]
theorem ePtr (w : World) : (ReflectliteType.method ReflectliteType.elem #[.agg #[.pointer (some ⟨6, 112, none⟩)]]).run Tryz.prog w = .ok (.iface 246 (.agg #[.pointer (some ⟨6, 99, none⟩)])) w := by kernel_rfl
theorem iStr (w : World) : (ReflectliteType.relation "Implements" ReflectliteType.implements_ #[.agg #[.pointer (some ⟨6, 99, none⟩)], .iface 246 (.agg #[.pointer (some ⟨6, 58, none⟩)])]).run Tryz.prog w = .ok (.bool true) w := by kernel_rfl
theorem oStr (v : Value) (w : World) : (ReflectliteType.typeOf #[.iface 99 v]).run Tryz.prog w = .ok (.iface 246 (.agg #[.pointer (some ⟨6, 99, none⟩)])) w := by kernel_rfl
theorem aStr (w : World) : (ReflectliteType.relation "AssignableTo" ReflectliteType.assignableTo #[.agg #[.pointer (some ⟨6, 99, none⟩)], .iface 246 (.agg #[.pointer (some ⟨6, 99, none⟩)])]).run Tryz.prog w = .ok (.bool true) w := by kernel_rfl
theorem vStr (x y : Value) (w : World) : (ReflectliteValue.unpack (.iface 99 (.agg #[x, y]))).run Tryz.prog w
    = .ok (.agg #[.pointer (some ⟨6, 99, none⟩), .pointer (some ⟨w.heap.size, 0, none⟩), .int .u64 153]) (w.alloc (.cells #[x, y] 99)) := by kernel_rfl
theorem elPtr (w : World) : (Rtype.elem? 112).run Tryz.prog w = .ok (some 99) w := by kernel_rfl
theorem mkStr (p : Addr) (w : World) : (ReflectliteValue.mk 99 p ReflectliteValue.flagAddr).run Tryz.prog w = .ok (.agg #[.pointer (some ⟨6, 99, none⟩), .pointer (some p), .int .u64 409]) w := by kernel_rfl
end Go.Proofs.YtbppbejigedioabGreatDoor
/- errors.As at a broken: the hit. -/
namespace Go.Proofs.YtbppbejigedioabGreatDoor
open Go.RowKit Go.Extern.Stop Go.Stop Go.Extern

theorem vElem (a p : Addr) (W : World) (ha : W.cell? a = some (.pointer (some p))) :
    (ReflectliteValue.method (ReflectliteValue.valueError "reflectlite.Value.Elem" 0) ReflectliteValue.elem #[.agg #[.pointer (some ⟨6, 112, none⟩), .pointer (some a), .int .u64 150]]).run Tryz.prog W
      = .ok (.agg #[.pointer (some ⟨6, 99, none⟩), .pointer (some p), .int .u64 409]) W := by
  show (Bind.bind (ReflectliteValue.parts (.agg #[.pointer (some ⟨6, 112, none⟩), .pointer (some a), .int .u64 150])) _).run _ _ = _
  simp only [Sem.run_bind, pPtr, Result.andThen]
  simp [ReflectliteValue.elem, loadVar, isAgg, underlying, Tryz.underlying112, ha, Result.andThen, elPtr, mkStr]
theorem pStrA (a : Addr) (w : World) : (ReflectliteValue.parts (.agg #[.pointer (some ⟨6, 99, none⟩), .pointer (some a), .int .u64 409])).run Tryz.prog w = .ok (some (99, a, 409)) w := by kernel_rfl
theorem pStr (a : Addr) (w : World) : (ReflectliteValue.parts (.agg #[.pointer (some ⟨6, 99, none⟩), .pointer (some a), .int .u64 153])).run Tryz.prog w = .ok (some (99, a, 153)) w := by kernel_rfl
theorem dStr (w : World) : (Rtype.directlyAssignable 99 99).run Tryz.prog w = .ok true w := by kernel_rfl
theorem ldStr (b : Nat) (x y : Value) (W : World) (h0 : W.cell? ⟨b, 0, none⟩ = some x) (h1 : W.cell? ⟨b, 1, none⟩ = some y) : (loadVar 99 ⟨b, 0, none⟩).run Tryz.prog W = .ok (.agg #[x, y]) W := by
  go_simp
theorem stStr (b : Nat) (x y : Int) (u v : Value) (W : World) (h0 : W.cell? ⟨b, 0, none⟩ = some u) (h1 : W.cell? ⟨b, 1, none⟩ = some v) (hf : ∀ j, W.frozen? ⟨b, j, none⟩ = false) :
    (storeVar 99 ⟨b, 0, none⟩ (.agg #[.int .i64 x, .int .i64 y])).run Tryz.prog W = .ok () ((W.setCell ⟨b, 0, none⟩ (.int .i64 x)).setCell ⟨b, 1, none⟩ (.int .i64 y)) := by
  go_simp
theorem setStr (ta b : Nat) (x y : Int) (u v : Value) (W : World) (h0 : W.cell? ⟨b, 0, none⟩ = some (.int .i64 x)) (h1 : W.cell? ⟨b, 1, none⟩ = some (.int .i64 y)) (t0 : W.cell? ⟨ta, 0, none⟩ = some u) (t1 : W.cell? ⟨ta, 1, none⟩ = some v) (hf : ∀ j, W.frozen? ⟨ta, j, none⟩ = false) :
    (ReflectliteValue.set #[.agg #[.pointer (some ⟨6, 99, none⟩), .pointer (some ⟨ta, 0, none⟩), .int .u64 409], .agg #[.pointer (some ⟨6, 99, none⟩), .pointer (some ⟨b, 0, none⟩), .int .u64 153]]).run Tryz.prog W
      = .ok (.tuple #[]) ((W.setCell ⟨ta, 0, none⟩ (.int .i64 x)).setCell ⟨ta, 1, none⟩ (.int .i64 y)) := by
  show (Bind.bind (ReflectliteValue.parts (.agg #[.pointer (some ⟨6, 99, none⟩), .pointer (some ⟨ta, 0, none⟩), .int .u64 409])) fun r => Bind.bind (ReflectliteValue.parts (.agg #[.pointer (some ⟨6, 99, none⟩), .pointer (some ⟨b, 0, none⟩), .int .u64 153])) _).run _ _ = _
  simp only [Sem.run_bind, pStrA, pStr, Result.andThen]
  simp [ReflectliteValue.flagAddr, ldStr b _ _ W h0 h1, Result.andThen, dStr, stStr ta x y u v W t0 t1 hf]
end Go.Proofs.YtbppbejigedioabGreatDoor
/- errors.As at a broken: the hit; told. -/
namespace Go.Proofs.YtbppbejigedioabGreatDoor
open Go.RowKit Go.Extern.Stop Go.Stop Go.Extern

theorem mKind (h : Value) (w : World) : (Go.method 460 246 (.agg #[h]) "Kind").run Tryz.prog w = .ok (212, h) w := by kernel_rfl
theorem mElem (h : Value) (w : World) : (Go.method 460 246 (.agg #[h]) "Elem").run Tryz.prog w = .ok (229, .agg #[h]) w := by kernel_rfl
theorem mImpl (h : Value) (w : World) : (Go.method 460 246 (.agg #[h]) "Implements").run Tryz.prog w = .ok (230, .agg #[h]) w := by kernel_rfl
theorem mAssign (h : Value) (w : World) : (Go.method 460 246 (.agg #[h]) "AssignableTo").run Tryz.prog w = .ok (227, .agg #[h]) w := by kernel_rfl

set_option maxRecDepth 100000 in
set_option maxHeartbeats 4000000 in
theorem as_hit (x y : Int) (tb : Nat) (u v : Value) (w : World) (hg : w.cell? ⟨0, 0, none⟩ = some (.iface 246 (.agg #[.pointer (some ⟨6, 58, none⟩)]))) (ht : Blk w tb [u, v] 99) :
    Calls Tryz.prog 49 #[.iface 99 (.agg #[.int .i64 x, .int .i64 y]), .iface 112 (.pointer (some ⟨tb, 0, none⟩))] w fun e w' => e = .returned (.bool true) ∧ Blk w' tb [.int .i64 x, .int .i64 y] 99 ∧ w.grownBy w' (some tb) := by
  have h65 := @run_callFunc_extern Tryz.prog 81 _ (fun args => ReflectliteValue.unpack (args.getD 0 (.tuple #[]))) Tryz.func81 (by kernel_rfl) (by kernel_rfl) (by kernel_rfl) (by kernel_rfl)
  have h66 := @run_callFunc_extern Tryz.prog 82 _ (ReflectliteValue.methodAny (ReflectliteValue.valueError "reflectlite.Value.Type" 0) (fun t _ _ _ => ReflectliteType.toType t)) Tryz.func82 (by kernel_rfl) (by kernel_rfl) (by kernel_rfl) (by kernel_rfl)
  have h67 := @run_callFunc_extern Tryz.prog 83 _ (ReflectliteValue.method (ReflectliteValue.valueError "reflectlite.Value.IsNil" 0) ReflectliteValue.isNil) Tryz.func83 (by kernel_rfl) (by kernel_rfl) (by kernel_rfl) (by kernel_rfl)
  have hK := @run_callFunc_extern Tryz.prog 212 _ (ReflectliteType.abiMethod fun t => do pure (.int .u8 (← Rtype.kind t))) Tryz.func212 (by kernel_rfl) (by kernel_rfl) (by kernel_rfl) (by kernel_rfl)
  have hE := @run_callFunc_extern Tryz.prog 229 _ (ReflectliteType.method ReflectliteType.elem) Tryz.func229 (by kernel_rfl) (by kernel_rfl) (by kernel_rfl) (by kernel_rfl)
  have hI := @run_callFunc_extern Tryz.prog 230 _ (ReflectliteType.relation "Implements" ReflectliteType.implements_) Tryz.func230 (by kernel_rfl) (by kernel_rfl) (by kernel_rfl) (by kernel_rfl)
  have hO := @run_callFunc_extern Tryz.prog 126 _ ReflectliteType.typeOf Tryz.func126 (by kernel_rfl) (by kernel_rfl) (by kernel_rfl) (by kernel_rfl)
  have hA := @run_callFunc_extern Tryz.prog 227 _ (ReflectliteType.relation "AssignableTo" ReflectliteType.assignableTo) Tryz.func227 (by kernel_rfl) (by kernel_rfl) (by kernel_rfl) (by kernel_rfl)
  have hVE := @run_callFunc_extern Tryz.prog 127 _ (ReflectliteValue.method (ReflectliteValue.valueError "reflectlite.Value.Elem" 0) ReflectliteValue.elem) Tryz.func127 (by kernel_rfl) (by kernel_rfl) (by kernel_rfl) (by kernel_rfl)
  have hS := @run_callFunc_extern Tryz.prog 128 _ ReflectliteValue.set Tryz.func128 (by kernel_rfl) (by kernel_rfl) (by kernel_rfl) (by kernel_rfl)
  have f1 := oStr
  have f2 := aStr
  have f3 := vStr
  have f4 := vPtr
  have f5 := tPtr
  have f6 := kPtr
  have f7 := kStr
  have f8 := ePtr
  have f9 := iStr
  have m1 := mKind
  have m2 := mElem
  have m3 := mImpl
  have m4 := mAssign
  have htl := ht.lt
  have h0l : 0 < w.heap.size := by omega
  have hA2 : ((w.alloc (.cells #[.pointer (some ⟨tb, 0, none⟩)] 112)).alloc (.cells #[.pointer (some ⟨6, 112, none⟩), .pointer (some ⟨w.heap.size, 0, none⟩), .int .u64 150] 183)).cell? ⟨w.heap.size, 0, none⟩ = some (.pointer (some ⟨tb, 0, none⟩)) := ((Blk.new w [.pointer (some ⟨tb, 0, none⟩)] 112).alloc _).cell 0
  have hA3 : (((w.alloc (.cells #[.pointer (some ⟨tb, 0, none⟩)] 112)).alloc (.cells #[.pointer (some ⟨6, 112, none⟩), .pointer (some ⟨w.heap.size, 0, none⟩), .int .u64 150] 183)).alloc (.cells #[.pointer (some ⟨6, 112, none⟩), .pointer (some ⟨w.heap.size, 0, none⟩), .int .u64 150] 183)).cell? ⟨w.heap.size, 0, none⟩ = some (.pointer (some ⟨tb, 0, none⟩)) := (((Blk.new w [.pointer (some ⟨tb, 0, none⟩)] 112).alloc _).alloc _).cell 0
  have hn := nPtr ⟨w.heap.size, 0, none⟩ ⟨tb, 0, none⟩ ((w.alloc (.cells #[.pointer (some ⟨tb, 0, none⟩)] 112)).alloc (.cells #[.pointer (some ⟨6, 112, none⟩), .pointer (some ⟨w.heap.size, 0, none⟩), .int .u64 150] 183)) hA2
  have hg2 : ((w.alloc (.cells #[.pointer (some ⟨tb, 0, none⟩)] 112)).alloc (.cells #[.pointer (some ⟨6, 112, none⟩), .pointer (some ⟨w.heap.size, 0, none⟩), .int .u64 150] 183)).cell? ⟨0, 0, none⟩ = some (.iface 246 (.agg #[.pointer (some ⟨6, 58, none⟩)])) := by
    rw [World.cell?_alloc_lt _ _ ⟨0, 0, none⟩ (by simp), World.cell?_alloc_lt _ _ ⟨0, 0, none⟩ h0l]; exact hg
  have el := vElem ⟨w.heap.size, 0, none⟩ ⟨tb, 0, none⟩ (((w.alloc (.cells #[.pointer (some ⟨tb, 0, none⟩)] 112)).alloc (.cells #[.pointer (some ⟨6, 112, none⟩), .pointer (some ⟨w.heap.size, 0, none⟩), .int .u64 150] 183)).alloc (.cells #[.pointer (some ⟨6, 112, none⟩), .pointer (some ⟨w.heap.size, 0, none⟩), .int .u64 150] 183)) hA3
  have hE4 : Blk ((((w.alloc (.cells #[.pointer (some ⟨tb, 0, none⟩)] 112)).alloc (.cells #[.pointer (some ⟨6, 112, none⟩), .pointer (some ⟨w.heap.size, 0, none⟩), .int .u64 150] 183)).alloc (.cells #[.pointer (some ⟨6, 112, none⟩), .pointer (some ⟨w.heap.size, 0, none⟩), .int .u64 150] 183)).alloc (.cells #[.int .i64 x, .int .i64 y] 99)) (w.heap.size + 1 + 1 + 1) [.int .i64 x, .int .i64 y] 99 := Blk.new' _ _ (by simp) _ _
  have hT4 : Blk ((((w.alloc (.cells #[.pointer (some ⟨tb, 0, none⟩)] 112)).alloc (.cells #[.pointer (some ⟨6, 112, none⟩), .pointer (some ⟨w.heap.size, 0, none⟩), .int .u64 150] 183)).alloc (.cells #[.pointer (some ⟨6, 112, none⟩), .pointer (some ⟨w.heap.size, 0, none⟩), .int .u64 150] 183)).alloc (.cells #[.int .i64 x, .int .i64 y] 99)) tb [u, v] 99 := (((ht.alloc _).alloc _).alloc _).alloc _
  have st := setStr tb (w.heap.size + 1 + 1 + 1) x y u v ((((w.alloc (.cells #[.pointer (some ⟨tb, 0, none⟩)] 112)).alloc (.cells #[.pointer (some ⟨6, 112, none⟩), .pointer (some ⟨w.heap.size, 0, none⟩), .int .u64 150] 183)).alloc (.cells #[.pointer (some ⟨6, 112, none⟩), .pointer (some ⟨w.heap.size, 0, none⟩), .int .u64 150] 183)).alloc (.cells #[.int .i64 x, .int .i64 y] 99)) (hE4.cell 0) (hE4.cell 1) (hT4.cell 0) (hT4.cell 1) hT4.free
  have hfin : Hid (Blk ((((((w.alloc (.cells #[.pointer (some ⟨tb, 0, none⟩)] 112)).alloc (.cells #[.pointer (some ⟨6, 112, none⟩), .pointer (some ⟨w.heap.size, 0, none⟩), .int .u64 150] 183)).alloc (.cells #[.pointer (some ⟨6, 112, none⟩), .pointer (some ⟨w.heap.size, 0, none⟩), .int .u64 150] 183)).alloc (.cells #[.int .i64 x, .int .i64 y] 99)).setCell ⟨tb, 0, none⟩ (.int .i64 x)).setCell ⟨tb, 1, none⟩ (.int .i64 y)) tb [.int .i64 x, .int .i64 y] 99 ∧ w.grownBy ((((((w.alloc (.cells #[.pointer (some ⟨tb, 0, none⟩)] 112)).alloc (.cells #[.pointer (some ⟨6, 112, none⟩), .pointer (some ⟨w.heap.size, 0, none⟩), .int .u64 150] 183)).alloc (.cells #[.pointer (some ⟨6, 112, none⟩), .pointer (some ⟨w.heap.size, 0, none⟩), .int .u64 150] 183)).alloc (.cells #[.int .i64 x, .int .i64 y] 99)).setCell ⟨tb, 0, none⟩ (.int .i64 x)).setCell ⟨tb, 1, none⟩ (.int .i64 y)) (some tb)) := hide
    ⟨(hT4.setSame 0 _).setSame 1 _, grown_setCell (grown_setCell (grown_trans (grown_trans (grown_trans (World.grownBy_alloc _ _ _) (World.grownBy_alloc _ _ _)) (World.grownBy_alloc _ _ _)) (World.grownBy_alloc _ _ _)) _) _⟩
  clear hA2 hA3 hE4 hT4 ht
  go_enter Tryz.func49, Tryz.ntmps49
  go_wp2
  refine wp_loop_rounds 1 ?_
  rw [rounds_succ]
  go_wp2
  go_ret
  exact ⟨rfl, (unhide hfin).1, (unhide hfin).2⟩
end Go.Proofs.YtbppbejigedioabGreatDoor
/- told. -/
namespace Go.Proofs.YtbppbejigedioabGreatDoor
open Go.RowKit

set_option maxRecDepth 100000 in
set_option maxHeartbeats 400000 in
theorem told_nil (w : World) :
    Calls Tryz.prog 26 #[.nilIface] w fun e w' => e = .returned (.tuple #[.int .i64 0, .int .i64 0]) ∧ Below w.heap.size w w' := by
  go_enter Tryz.func26, Tryz.ntmps26
  go_wp2_with fail
  refine (as_nil _ _).mono ?_
  rintro e w1 ⟨rfl, hw⟩
  obtain rfl := hw.symm
  go_wp2
  go_ret2
  exact ⟨rfl, (Below.refl _ _).alloc (Nat.le_refl _) _⟩

set_option maxRecDepth 100000 in
set_option maxHeartbeats 400000 in
theorem told_hit (x y : Int) (w : World) (hg : w.cell? ⟨0, 0, none⟩ = some (.iface 246 (.agg #[.pointer (some ⟨6, 58, none⟩)]))) :
    Calls Tryz.prog 26 #[.iface 99 (.agg #[.int .i64 x, .int .i64 y])] w fun e w' => e = .returned (.tuple #[.int .i64 x, .int .i64 y]) ∧ Below w.heap.size w w' := by
  have h0 : 0 < w.heap.size := World.block_lt_of_cell? w ⟨0, 0, none⟩ hg
  go_enter Tryz.func26, Tryz.ntmps26
  go_wp2_with fail
  refine (as_hit x y w.heap.size (.int .i64 0) (.int .i64 0) _ (by rw [World.cell?_alloc_lt _ _ ⟨0, 0, none⟩ h0]; exact hg) (Blk.new w _ _)).mono ?_
  rintro e w1 ⟨rfl, hb, hgr⟩
  obtain ⟨b0, b1, b2⟩ := hb.two
  have hbel := hide (((Below.refl w.heap.size w).alloc (Nat.le_refl _) (.cells #[.int .i64 0, .int .i64 0] 99)).grown hgr (by simp) (fun k hk => by simp at hk; omega))
  clear hgr hb
  go_wp2
  go_quiet (fail)
  go_wp2
  go_ret2
  exact ⟨rfl, below_drewN (unhide hbel) _⟩
end Go.Proofs.YtbppbejigedioabGreatDoor
