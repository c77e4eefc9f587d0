/- Type switches on expressions: what each asks of each. -/
import Derived.Test.YtjaaalojcdbcpaaGreatDoorpI2j
import Derived.Test.YtjaaalojcdbcpaaGreatDoorpAsrA
set_option maxHeartbeats 20000000
set_option linter.unusedVariables false
set_option linter.unusedSimpArgs false
namespace Go.Proofs.YtjaaalojcdbcpaaGreatDoor
open Go.RowKit Go.Proofs.Tryz
set_option maxRecDepth 8000
@[go_sem] theorem as_name_add (v : Value) (w : World) : (Instr.typeAssert (.iface 110 v) 53 163 true).run prog w = .ok (.tuple #[.agg #[.nilIface, .nilIface], .bool false]) w := by kernel_rfl
@[go_sem] theorem as_name_sub (v : Value) (w : World) : (Instr.typeAssert (.iface 110 v) 53 164 true).run prog w = .ok (.tuple #[.agg #[.nilIface, .nilIface], .bool false]) w := by kernel_rfl
@[go_sem] theorem as_name_mul (v : Value) (w : World) : (Instr.typeAssert (.iface 110 v) 53 165 true).run prog w = .ok (.tuple #[.agg #[.nilIface, .nilIface], .bool false]) w := by kernel_rfl
@[go_sem] theorem as_name_if (v : Value) (w : World) : (Instr.typeAssert (.iface 110 v) 53 167 true).run prog w = .ok (.tuple #[.agg #[.nilIface, .nilIface, .nilIface], .bool false]) w := by kernel_rfl
@[go_sem] theorem as_name_call (v : Value) (w : World) : (Instr.typeAssert (.iface 110 v) 53 168 true).run prog w = .ok (.tuple #[.agg #[.nilIface, .nilIface], .bool false]) w := by kernel_rfl
@[go_sem] theorem as_name_pair (v : Value) (w : World) : (Instr.typeAssert (.iface 110 v) 53 171 true).run prog w = .ok (.tuple #[.agg #[.nilIface, .nilIface], .bool false]) w := by kernel_rfl
@[go_sem] theorem as_name_fst (v : Value) (w : World) : (Instr.typeAssert (.iface 110 v) 53 175 true).run prog w = .ok (.tuple #[.agg #[.nilIface], .bool false]) w := by kernel_rfl
@[go_sem] theorem as_name_snd (v : Value) (w : World) : (Instr.typeAssert (.iface 110 v) 53 176 true).run prog w = .ok (.tuple #[.agg #[.nilIface], .bool false]) w := by kernel_rfl
@[go_sem] theorem as_let_add (v : Value) (w : World) : (Instr.typeAssert (.iface 105 v) 53 163 true).run prog w = .ok (.tuple #[.agg #[.nilIface, .nilIface], .bool false]) w := by kernel_rfl
@[go_sem] theorem as_let_sub (v : Value) (w : World) : (Instr.typeAssert (.iface 105 v) 53 164 true).run prog w = .ok (.tuple #[.agg #[.nilIface, .nilIface], .bool false]) w := by kernel_rfl
@[go_sem] theorem as_let_mul (v : Value) (w : World) : (Instr.typeAssert (.iface 105 v) 53 165 true).run prog w = .ok (.tuple #[.agg #[.nilIface, .nilIface], .bool false]) w := by kernel_rfl
@[go_sem] theorem as_let_if (v : Value) (w : World) : (Instr.typeAssert (.iface 105 v) 53 167 true).run prog w = .ok (.tuple #[.agg #[.nilIface, .nilIface, .nilIface], .bool false]) w := by kernel_rfl
@[go_sem] theorem as_let_call (v : Value) (w : World) : (Instr.typeAssert (.iface 105 v) 53 168 true).run prog w = .ok (.tuple #[.agg #[.nilIface, .nilIface], .bool false]) w := by kernel_rfl
@[go_sem] theorem as_let_pair (v : Value) (w : World) : (Instr.typeAssert (.iface 105 v) 53 171 true).run prog w = .ok (.tuple #[.agg #[.nilIface, .nilIface], .bool false]) w := by kernel_rfl
@[go_sem] theorem as_let_fst (v : Value) (w : World) : (Instr.typeAssert (.iface 105 v) 53 175 true).run prog w = .ok (.tuple #[.agg #[.nilIface], .bool false]) w := by kernel_rfl
@[go_sem] theorem as_let_snd (v : Value) (w : World) : (Instr.typeAssert (.iface 105 v) 53 176 true).run prog w = .ok (.tuple #[.agg #[.nilIface], .bool false]) w := by kernel_rfl
@[go_sem] theorem as_fun_add (v : Value) (w : World) : (Instr.typeAssert (.iface 107 v) 53 163 true).run prog w = .ok (.tuple #[.agg #[.nilIface, .nilIface], .bool false]) w := by kernel_rfl
@[go_sem] theorem as_fun_sub (v : Value) (w : World) : (Instr.typeAssert (.iface 107 v) 53 164 true).run prog w = .ok (.tuple #[.agg #[.nilIface, .nilIface], .bool false]) w := by kernel_rfl
@[go_sem] theorem as_fun_mul (v : Value) (w : World) : (Instr.typeAssert (.iface 107 v) 53 165 true).run prog w = .ok (.tuple #[.agg #[.nilIface, .nilIface], .bool false]) w := by kernel_rfl
@[go_sem] theorem as_fun_if (v : Value) (w : World) : (Instr.typeAssert (.iface 107 v) 53 167 true).run prog w = .ok (.tuple #[.agg #[.nilIface, .nilIface, .nilIface], .bool false]) w := by kernel_rfl
@[go_sem] theorem as_fun_call (v : Value) (w : World) : (Instr.typeAssert (.iface 107 v) 53 168 true).run prog w = .ok (.tuple #[.agg #[.nilIface, .nilIface], .bool false]) w := by kernel_rfl
@[go_sem] theorem as_fun_pair (v : Value) (w : World) : (Instr.typeAssert (.iface 107 v) 53 171 true).run prog w = .ok (.tuple #[.agg #[.nilIface, .nilIface], .bool false]) w := by kernel_rfl
@[go_sem] theorem as_fun_fst (v : Value) (w : World) : (Instr.typeAssert (.iface 107 v) 53 175 true).run prog w = .ok (.tuple #[.agg #[.nilIface], .bool false]) w := by kernel_rfl
@[go_sem] theorem as_fun_snd (v : Value) (w : World) : (Instr.typeAssert (.iface 107 v) 53 176 true).run prog w = .ok (.tuple #[.agg #[.nilIface], .bool false]) w := by kernel_rfl
end Go.Proofs.YtjaaalojcdbcpaaGreatDoor
