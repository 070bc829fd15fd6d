/- Facts: the type switch over a node. -/
import Derived.Test.YtkinfleecfddlaaGreatDoorWalkL
namespace Go.Proofs.YtkinfleecfddlaaGreatDoor
open Go.RowKit
theorem as_sign_sign (v : Value) (w : World) : (Instr.typeAssert (.iface 171 v) 120 171 true).run Tryz.prog w = .ok (.tuple #[v, .bool true]) w := by kernel_rfl
theorem as_many_sign (v : Value) (w : World) : (Instr.typeAssert (.iface 174 v) 120 171 true).run Tryz.prog w = .ok (.tuple #[.agg #[.int .i64 0, .int .i64 0], .bool false]) w := by kernel_rfl
theorem as_many_many (v : Value) (w : World) : (Instr.typeAssert (.iface 174 v) 120 174 true).run Tryz.prog w = .ok (.tuple #[v, .bool true]) w := by kernel_rfl
theorem as_some_sign (v : Value) (w : World) : (Instr.typeAssert (.iface 175 v) 120 171 true).run Tryz.prog w = .ok (.tuple #[.agg #[.int .i64 0, .int .i64 0], .bool false]) w := by kernel_rfl
theorem as_some_many (v : Value) (w : World) : (Instr.typeAssert (.iface 175 v) 120 174 true).run Tryz.prog w = .ok (.tuple #[.agg #[.nilIface], .bool false]) w := by kernel_rfl
theorem as_some_some (v : Value) (w : World) : (Instr.typeAssert (.iface 175 v) 120 175 true).run Tryz.prog w = .ok (.tuple #[v, .bool true]) w := by kernel_rfl
theorem as_maybe_sign (v : Value) (w : World) : (Instr.typeAssert (.iface 176 v) 120 171 true).run Tryz.prog w = .ok (.tuple #[.agg #[.int .i64 0, .int .i64 0], .bool false]) w := by kernel_rfl
theorem as_maybe_many (v : Value) (w : World) : (Instr.typeAssert (.iface 176 v) 120 174 true).run Tryz.prog w = .ok (.tuple #[.agg #[.nilIface], .bool false]) w := by kernel_rfl
theorem as_maybe_some (v : Value) (w : World) : (Instr.typeAssert (.iface 176 v) 120 175 true).run Tryz.prog w = .ok (.tuple #[.agg #[.nilIface], .bool false]) w := by kernel_rfl
theorem as_maybe_maybe (v : Value) (w : World) : (Instr.typeAssert (.iface 176 v) 120 176 true).run Tryz.prog w = .ok (.tuple #[v, .bool true]) w := by kernel_rfl
theorem as_pair_sign (v : Value) (w : World) : (Instr.typeAssert (.iface 178 v) 120 171 true).run Tryz.prog w = .ok (.tuple #[.agg #[.int .i64 0, .int .i64 0], .bool false]) w := by kernel_rfl
theorem as_pair_many (v : Value) (w : World) : (Instr.typeAssert (.iface 178 v) 120 174 true).run Tryz.prog w = .ok (.tuple #[.agg #[.nilIface], .bool false]) w := by kernel_rfl
theorem as_pair_some (v : Value) (w : World) : (Instr.typeAssert (.iface 178 v) 120 175 true).run Tryz.prog w = .ok (.tuple #[.agg #[.nilIface], .bool false]) w := by kernel_rfl
theorem as_pair_maybe (v : Value) (w : World) : (Instr.typeAssert (.iface 178 v) 120 176 true).run Tryz.prog w = .ok (.tuple #[.agg #[.nilIface], .bool false]) w := by kernel_rfl
theorem as_pair_pair (v : Value) (w : World) : (Instr.typeAssert (.iface 178 v) 120 178 true).run Tryz.prog w = .ok (.tuple #[v, .bool true]) w := by kernel_rfl
theorem as_nothing_sign (v : Value) (w : World) : (Instr.typeAssert (.iface 240 v) 120 171 true).run Tryz.prog w = .ok (.tuple #[.agg #[.int .i64 0, .int .i64 0], .bool false]) w := by kernel_rfl
theorem as_nothing_many (v : Value) (w : World) : (Instr.typeAssert (.iface 240 v) 120 174 true).run Tryz.prog w = .ok (.tuple #[.agg #[.nilIface], .bool false]) w := by kernel_rfl
theorem as_nothing_some (v : Value) (w : World) : (Instr.typeAssert (.iface 240 v) 120 175 true).run Tryz.prog w = .ok (.tuple #[.agg #[.nilIface], .bool false]) w := by kernel_rfl
theorem as_nothing_maybe (v : Value) (w : World) : (Instr.typeAssert (.iface 240 v) 120 176 true).run Tryz.prog w = .ok (.tuple #[.agg #[.nilIface], .bool false]) w := by kernel_rfl
theorem as_nothing_pair (v : Value) (w : World) : (Instr.typeAssert (.iface 240 v) 120 178 true).run Tryz.prog w = .ok (.tuple #[.agg #[.nilIface, .nilIface], .bool false]) w := by kernel_rfl
end Go.Proofs.YtkinfleecfddlaaGreatDoor
