/- Type switches on expressions: what each asks of each. -/
import Derived.Test.YtjncmmnbdabjnaaGreatDoorI2j
namespace Go.Proofs.YtjncmmnbdabjnaaGreatDoor
open Go.RowKit
set_option maxRecDepth 8000
set_option linter.unusedSimpArgs false
set_option linter.unusedVariables false
@[go_sem] theorem as_name_add (v : Value) (w : World) : (Instr.typeAssert (.iface 98 v) 56 138 true).run Tryz.prog w = .ok (.tuple #[.agg #[.nilIface, .nilIface], .bool false]) w := by kernel_rfl
@[go_sem] theorem as_name_sub (v : Value) (w : World) : (Instr.typeAssert (.iface 98 v) 56 139 true).run Tryz.prog w = .ok (.tuple #[.agg #[.nilIface, .nilIface], .bool false]) w := by kernel_rfl
@[go_sem] theorem as_name_mul (v : Value) (w : World) : (Instr.typeAssert (.iface 98 v) 56 140 true).run Tryz.prog w = .ok (.tuple #[.agg #[.nilIface, .nilIface], .bool false]) w := by kernel_rfl
@[go_sem] theorem as_name_if (v : Value) (w : World) : (Instr.typeAssert (.iface 98 v) 56 142 true).run Tryz.prog w = .ok (.tuple #[.agg #[.nilIface, .nilIface, .nilIface], .bool false]) w := by kernel_rfl
@[go_sem] theorem as_name_call (v : Value) (w : World) : (Instr.typeAssert (.iface 98 v) 56 143 true).run Tryz.prog w = .ok (.tuple #[.agg #[.nilIface, .nilIface], .bool false]) w := by kernel_rfl
@[go_sem] theorem as_name_pair (v : Value) (w : World) : (Instr.typeAssert (.iface 98 v) 56 146 true).run Tryz.prog w = .ok (.tuple #[.agg #[.nilIface, .nilIface], .bool false]) w := by kernel_rfl
@[go_sem] theorem as_name_fst (v : Value) (w : World) : (Instr.typeAssert (.iface 98 v) 56 150 true).run Tryz.prog w = .ok (.tuple #[.agg #[.nilIface], .bool false]) w := by kernel_rfl
@[go_sem] theorem as_name_snd (v : Value) (w : World) : (Instr.typeAssert (.iface 98 v) 56 151 true).run Tryz.prog w = .ok (.tuple #[.agg #[.nilIface], .bool false]) w := by kernel_rfl
@[go_sem] theorem as_number_add (v : Value) (w : World) : (Instr.typeAssert (.iface 133 v) 56 138 true).run Tryz.prog w = .ok (.tuple #[.agg #[.nilIface, .nilIface], .bool false]) w := by kernel_rfl
@[go_sem] theorem as_number_sub (v : Value) (w : World) : (Instr.typeAssert (.iface 133 v) 56 139 true).run Tryz.prog w = .ok (.tuple #[.agg #[.nilIface, .nilIface], .bool false]) w := by kernel_rfl
@[go_sem] theorem as_number_mul (v : Value) (w : World) : (Instr.typeAssert (.iface 133 v) 56 140 true).run Tryz.prog w = .ok (.tuple #[.agg #[.nilIface, .nilIface], .bool false]) w := by kernel_rfl
@[go_sem] theorem as_number_if (v : Value) (w : World) : (Instr.typeAssert (.iface 133 v) 56 142 true).run Tryz.prog w = .ok (.tuple #[.agg #[.nilIface, .nilIface, .nilIface], .bool false]) w := by kernel_rfl
@[go_sem] theorem as_number_call (v : Value) (w : World) : (Instr.typeAssert (.iface 133 v) 56 143 true).run Tryz.prog w = .ok (.tuple #[.agg #[.nilIface, .nilIface], .bool false]) w := by kernel_rfl
@[go_sem] theorem as_number_pair (v : Value) (w : World) : (Instr.typeAssert (.iface 133 v) 56 146 true).run Tryz.prog w = .ok (.tuple #[.agg #[.nilIface, .nilIface], .bool false]) w := by kernel_rfl
@[go_sem] theorem as_number_fst (v : Value) (w : World) : (Instr.typeAssert (.iface 133 v) 56 150 true).run Tryz.prog w = .ok (.tuple #[.agg #[.nilIface], .bool false]) w := by kernel_rfl
@[go_sem] theorem as_number_snd (v : Value) (w : World) : (Instr.typeAssert (.iface 133 v) 56 151 true).run Tryz.prog w = .ok (.tuple #[.agg #[.nilIface], .bool false]) w := by kernel_rfl
@[go_sem] theorem as_add_add (v : Value) (w : World) : (Instr.typeAssert (.iface 138 v) 56 138 true).run Tryz.prog w = .ok (.tuple #[v, .bool true]) w := by kernel_rfl
@[go_sem] theorem as_add_sub (v : Value) (w : World) : (Instr.typeAssert (.iface 138 v) 56 139 true).run Tryz.prog w = .ok (.tuple #[.agg #[.nilIface, .nilIface], .bool false]) w := by kernel_rfl
@[go_sem] theorem as_add_mul (v : Value) (w : World) : (Instr.typeAssert (.iface 138 v) 56 140 true).run Tryz.prog w = .ok (.tuple #[.agg #[.nilIface, .nilIface], .bool false]) w := by kernel_rfl
@[go_sem] theorem as_add_if (v : Value) (w : World) : (Instr.typeAssert (.iface 138 v) 56 142 true).run Tryz.prog w = .ok (.tuple #[.agg #[.nilIface, .nilIface, .nilIface], .bool false]) w := by kernel_rfl
@[go_sem] theorem as_add_call (v : Value) (w : World) : (Instr.typeAssert (.iface 138 v) 56 143 true).run Tryz.prog w = .ok (.tuple #[.agg #[.nilIface, .nilIface], .bool false]) w := by kernel_rfl
@[go_sem] theorem as_add_pair (v : Value) (w : World) : (Instr.typeAssert (.iface 138 v) 56 146 true).run Tryz.prog w = .ok (.tuple #[.agg #[.nilIface, .nilIface], .bool false]) w := by kernel_rfl
@[go_sem] theorem as_add_fst (v : Value) (w : World) : (Instr.typeAssert (.iface 138 v) 56 150 true).run Tryz.prog w = .ok (.tuple #[.agg #[.nilIface], .bool false]) w := by kernel_rfl
@[go_sem] theorem as_add_snd (v : Value) (w : World) : (Instr.typeAssert (.iface 138 v) 56 151 true).run Tryz.prog w = .ok (.tuple #[.agg #[.nilIface], .bool false]) w := by kernel_rfl
@[go_sem] theorem as_sub_add (v : Value) (w : World) : (Instr.typeAssert (.iface 139 v) 56 138 true).run Tryz.prog w = .ok (.tuple #[.agg #[.nilIface, .nilIface], .bool false]) w := by kernel_rfl
@[go_sem] theorem as_sub_sub (v : Value) (w : World) : (Instr.typeAssert (.iface 139 v) 56 139 true).run Tryz.prog w = .ok (.tuple #[v, .bool true]) w := by kernel_rfl
@[go_sem] theorem as_sub_mul (v : Value) (w : World) : (Instr.typeAssert (.iface 139 v) 56 140 true).run Tryz.prog w = .ok (.tuple #[.agg #[.nilIface, .nilIface], .bool false]) w := by kernel_rfl
@[go_sem] theorem as_sub_if (v : Value) (w : World) : (Instr.typeAssert (.iface 139 v) 56 142 true).run Tryz.prog w = .ok (.tuple #[.agg #[.nilIface, .nilIface, .nilIface], .bool false]) w := by kernel_rfl
@[go_sem] theorem as_sub_call (v : Value) (w : World) : (Instr.typeAssert (.iface 139 v) 56 143 true).run Tryz.prog w = .ok (.tuple #[.agg #[.nilIface, .nilIface], .bool false]) w := by kernel_rfl
@[go_sem] theorem as_sub_pair (v : Value) (w : World) : (Instr.typeAssert (.iface 139 v) 56 146 true).run Tryz.prog w = .ok (.tuple #[.agg #[.nilIface, .nilIface], .bool false]) w := by kernel_rfl
@[go_sem] theorem as_sub_fst (v : Value) (w : World) : (Instr.typeAssert (.iface 139 v) 56 150 true).run Tryz.prog w = .ok (.tuple #[.agg #[.nilIface], .bool false]) w := by kernel_rfl
@[go_sem] theorem as_sub_snd (v : Value) (w : World) : (Instr.typeAssert (.iface 139 v) 56 151 true).run Tryz.prog w = .ok (.tuple #[.agg #[.nilIface], .bool false]) w := by kernel_rfl
@[go_sem] theorem as_mul_add (v : Value) (w : World) : (Instr.typeAssert (.iface 140 v) 56 138 true).run Tryz.prog w = .ok (.tuple #[.agg #[.nilIface, .nilIface], .bool false]) w := by kernel_rfl
@[go_sem] theorem as_mul_sub (v : Value) (w : World) : (Instr.typeAssert (.iface 140 v) 56 139 true).run Tryz.prog w = .ok (.tuple #[.agg #[.nilIface, .nilIface], .bool false]) w := by kernel_rfl
@[go_sem] theorem as_mul_mul (v : Value) (w : World) : (Instr.typeAssert (.iface 140 v) 56 140 true).run Tryz.prog w = .ok (.tuple #[v, .bool true]) w := by kernel_rfl
@[go_sem] theorem as_mul_if (v : Value) (w : World) : (Instr.typeAssert (.iface 140 v) 56 142 true).run Tryz.prog w = .ok (.tuple #[.agg #[.nilIface, .nilIface, .nilIface], .bool false]) w := by kernel_rfl
@[go_sem] theorem as_mul_call (v : Value) (w : World) : (Instr.typeAssert (.iface 140 v) 56 143 true).run Tryz.prog w = .ok (.tuple #[.agg #[.nilIface, .nilIface], .bool false]) w := by kernel_rfl
@[go_sem] theorem as_mul_pair (v : Value) (w : World) : (Instr.typeAssert (.iface 140 v) 56 146 true).run Tryz.prog w = .ok (.tuple #[.agg #[.nilIface, .nilIface], .bool false]) w := by kernel_rfl
@[go_sem] theorem as_mul_fst (v : Value) (w : World) : (Instr.typeAssert (.iface 140 v) 56 150 true).run Tryz.prog w = .ok (.tuple #[.agg #[.nilIface], .bool false]) w := by kernel_rfl
@[go_sem] theorem as_mul_snd (v : Value) (w : World) : (Instr.typeAssert (.iface 140 v) 56 151 true).run Tryz.prog w = .ok (.tuple #[.agg #[.nilIface], .bool false]) w := by kernel_rfl
@[go_sem] theorem as_if_add (v : Value) (w : World) : (Instr.typeAssert (.iface 142 v) 56 138 true).run Tryz.prog w = .ok (.tuple #[.agg #[.nilIface, .nilIface], .bool false]) w := by kernel_rfl
@[go_sem] theorem as_if_sub (v : Value) (w : World) : (Instr.typeAssert (.iface 142 v) 56 139 true).run Tryz.prog w = .ok (.tuple #[.agg #[.nilIface, .nilIface], .bool false]) w := by kernel_rfl
@[go_sem] theorem as_if_mul (v : Value) (w : World) : (Instr.typeAssert (.iface 142 v) 56 140 true).run Tryz.prog w = .ok (.tuple #[.agg #[.nilIface, .nilIface], .bool false]) w := by kernel_rfl
@[go_sem] theorem as_if_if (v : Value) (w : World) : (Instr.typeAssert (.iface 142 v) 56 142 true).run Tryz.prog w = .ok (.tuple #[v, .bool true]) w := by kernel_rfl
@[go_sem] theorem as_if_call (v : Value) (w : World) : (Instr.typeAssert (.iface 142 v) 56 143 true).run Tryz.prog w = .ok (.tuple #[.agg #[.nilIface, .nilIface], .bool false]) w := by kernel_rfl
@[go_sem] theorem as_if_pair (v : Value) (w : World) : (Instr.typeAssert (.iface 142 v) 56 146 true).run Tryz.prog w = .ok (.tuple #[.agg #[.nilIface, .nilIface], .bool false]) w := by kernel_rfl
@[go_sem] theorem as_if_fst (v : Value) (w : World) : (Instr.typeAssert (.iface 142 v) 56 150 true).run Tryz.prog w = .ok (.tuple #[.agg #[.nilIface], .bool false]) w := by kernel_rfl
@[go_sem] theorem as_if_snd (v : Value) (w : World) : (Instr.typeAssert (.iface 142 v) 56 151 true).run Tryz.prog w = .ok (.tuple #[.agg #[.nilIface], .bool false]) w := by kernel_rfl
@[go_sem] theorem as_let_add (v : Value) (w : World) : (Instr.typeAssert (.iface 93 v) 56 138 true).run Tryz.prog w = .ok (.tuple #[.agg #[.nilIface, .nilIface], .bool false]) w := by kernel_rfl
@[go_sem] theorem as_let_sub (v : Value) (w : World) : (Instr.typeAssert (.iface 93 v) 56 139 true).run Tryz.prog w = .ok (.tuple #[.agg #[.nilIface, .nilIface], .bool false]) w := by kernel_rfl
@[go_sem] theorem as_let_mul (v : Value) (w : World) : (Instr.typeAssert (.iface 93 v) 56 140 true).run Tryz.prog w = .ok (.tuple #[.agg #[.nilIface, .nilIface], .bool false]) w := by kernel_rfl
@[go_sem] theorem as_let_if (v : Value) (w : World) : (Instr.typeAssert (.iface 93 v) 56 142 true).run Tryz.prog w = .ok (.tuple #[.agg #[.nilIface, .nilIface, .nilIface], .bool false]) w := by kernel_rfl
@[go_sem] theorem as_let_call (v : Value) (w : World) : (Instr.typeAssert (.iface 93 v) 56 143 true).run Tryz.prog w = .ok (.tuple #[.agg #[.nilIface, .nilIface], .bool false]) w := by kernel_rfl
@[go_sem] theorem as_let_pair (v : Value) (w : World) : (Instr.typeAssert (.iface 93 v) 56 146 true).run Tryz.prog w = .ok (.tuple #[.agg #[.nilIface, .nilIface], .bool false]) w := by kernel_rfl
@[go_sem] theorem as_let_fst (v : Value) (w : World) : (Instr.typeAssert (.iface 93 v) 56 150 true).run Tryz.prog w = .ok (.tuple #[.agg #[.nilIface], .bool false]) w := by kernel_rfl
@[go_sem] theorem as_let_snd (v : Value) (w : World) : (Instr.typeAssert (.iface 93 v) 56 151 true).run Tryz.prog w = .ok (.tuple #[.agg #[.nilIface], .bool false]) w := by kernel_rfl
@[go_sem] theorem as_fun_add (v : Value) (w : World) : (Instr.typeAssert (.iface 95 v) 56 138 true).run Tryz.prog w = .ok (.tuple #[.agg #[.nilIface, .nilIface], .bool false]) w := by kernel_rfl
@[go_sem] theorem as_fun_sub (v : Value) (w : World) : (Instr.typeAssert (.iface 95 v) 56 139 true).run Tryz.prog w = .ok (.tuple #[.agg #[.nilIface, .nilIface], .bool false]) w := by kernel_rfl
@[go_sem] theorem as_fun_mul (v : Value) (w : World) : (Instr.typeAssert (.iface 95 v) 56 140 true).run Tryz.prog w = .ok (.tuple #[.agg #[.nilIface, .nilIface], .bool false]) w := by kernel_rfl
@[go_sem] theorem as_fun_if (v : Value) (w : World) : (Instr.typeAssert (.iface 95 v) 56 142 true).run Tryz.prog w = .ok (.tuple #[.agg #[.nilIface, .nilIface, .nilIface], .bool false]) w := by kernel_rfl
@[go_sem] theorem as_fun_call (v : Value) (w : World) : (Instr.typeAssert (.iface 95 v) 56 143 true).run Tryz.prog w = .ok (.tuple #[.agg #[.nilIface, .nilIface], .bool false]) w := by kernel_rfl
@[go_sem] theorem as_fun_pair (v : Value) (w : World) : (Instr.typeAssert (.iface 95 v) 56 146 true).run Tryz.prog w = .ok (.tuple #[.agg #[.nilIface, .nilIface], .bool false]) w := by kernel_rfl
@[go_sem] theorem as_fun_fst (v : Value) (w : World) : (Instr.typeAssert (.iface 95 v) 56 150 true).run Tryz.prog w = .ok (.tuple #[.agg #[.nilIface], .bool false]) w := by kernel_rfl
@[go_sem] theorem as_fun_snd (v : Value) (w : World) : (Instr.typeAssert (.iface 95 v) 56 151 true).run Tryz.prog w = .ok (.tuple #[.agg #[.nilIface], .bool false]) w := by kernel_rfl
@[go_sem] theorem as_call_add (v : Value) (w : World) : (Instr.typeAssert (.iface 143 v) 56 138 true).run Tryz.prog w = .ok (.tuple #[.agg #[.nilIface, .nilIface], .bool false]) w := by kernel_rfl
@[go_sem] theorem as_call_sub (v : Value) (w : World) : (Instr.typeAssert (.iface 143 v) 56 139 true).run Tryz.prog w = .ok (.tuple #[.agg #[.nilIface, .nilIface], .bool false]) w := by kernel_rfl
@[go_sem] theorem as_call_mul (v : Value) (w : World) : (Instr.typeAssert (.iface 143 v) 56 140 true).run Tryz.prog w = .ok (.tuple #[.agg #[.nilIface, .nilIface], .bool false]) w := by kernel_rfl
@[go_sem] theorem as_call_if (v : Value) (w : World) : (Instr.typeAssert (.iface 143 v) 56 142 true).run Tryz.prog w = .ok (.tuple #[.agg #[.nilIface, .nilIface, .nilIface], .bool false]) w := by kernel_rfl
@[go_sem] theorem as_call_call (v : Value) (w : World) : (Instr.typeAssert (.iface 143 v) 56 143 true).run Tryz.prog w = .ok (.tuple #[v, .bool true]) w := by kernel_rfl
@[go_sem] theorem as_call_pair (v : Value) (w : World) : (Instr.typeAssert (.iface 143 v) 56 146 true).run Tryz.prog w = .ok (.tuple #[.agg #[.nilIface, .nilIface], .bool false]) w := by kernel_rfl
@[go_sem] theorem as_call_fst (v : Value) (w : World) : (Instr.typeAssert (.iface 143 v) 56 150 true).run Tryz.prog w = .ok (.tuple #[.agg #[.nilIface], .bool false]) w := by kernel_rfl
@[go_sem] theorem as_call_snd (v : Value) (w : World) : (Instr.typeAssert (.iface 143 v) 56 151 true).run Tryz.prog w = .ok (.tuple #[.agg #[.nilIface], .bool false]) w := by kernel_rfl
@[go_sem] theorem as_pair_add (v : Value) (w : World) : (Instr.typeAssert (.iface 146 v) 56 138 true).run Tryz.prog w = .ok (.tuple #[.agg #[.nilIface, .nilIface], .bool false]) w := by kernel_rfl
@[go_sem] theorem as_pair_sub (v : Value) (w : World) : (Instr.typeAssert (.iface 146 v) 56 139 true).run Tryz.prog w = .ok (.tuple #[.agg #[.nilIface, .nilIface], .bool false]) w := by kernel_rfl
@[go_sem] theorem as_pair_mul (v : Value) (w : World) : (Instr.typeAssert (.iface 146 v) 56 140 true).run Tryz.prog w = .ok (.tuple #[.agg #[.nilIface, .nilIface], .bool false]) w := by kernel_rfl
@[go_sem] theorem as_pair_if (v : Value) (w : World) : (Instr.typeAssert (.iface 146 v) 56 142 true).run Tryz.prog w = .ok (.tuple #[.agg #[.nilIface, .nilIface, .nilIface], .bool false]) w := by kernel_rfl
@[go_sem] theorem as_pair_call (v : Value) (w : World) : (Instr.typeAssert (.iface 146 v) 56 143 true).run Tryz.prog w = .ok (.tuple #[.agg #[.nilIface, .nilIface], .bool false]) w := by kernel_rfl
@[go_sem] theorem as_pair_pair (v : Value) (w : World) : (Instr.typeAssert (.iface 146 v) 56 146 true).run Tryz.prog w = .ok (.tuple #[v, .bool true]) w := by kernel_rfl
@[go_sem] theorem as_pair_fst (v : Value) (w : World) : (Instr.typeAssert (.iface 146 v) 56 150 true).run Tryz.prog w = .ok (.tuple #[.agg #[.nilIface], .bool false]) w := by kernel_rfl
@[go_sem] theorem as_pair_snd (v : Value) (w : World) : (Instr.typeAssert (.iface 146 v) 56 151 true).run Tryz.prog w = .ok (.tuple #[.agg #[.nilIface], .bool false]) w := by kernel_rfl
@[go_sem] theorem as_fst_add (v : Value) (w : World) : (Instr.typeAssert (.iface 150 v) 56 138 true).run Tryz.prog w = .ok (.tuple #[.agg #[.nilIface, .nilIface], .bool false]) w := by kernel_rfl
@[go_sem] theorem as_fst_sub (v : Value) (w : World) : (Instr.typeAssert (.iface 150 v) 56 139 true).run Tryz.prog w = .ok (.tuple #[.agg #[.nilIface, .nilIface], .bool false]) w := by kernel_rfl
@[go_sem] theorem as_fst_mul (v : Value) (w : World) : (Instr.typeAssert (.iface 150 v) 56 140 true).run Tryz.prog w = .ok (.tuple #[.agg #[.nilIface, .nilIface], .bool false]) w := by kernel_rfl
@[go_sem] theorem as_fst_if (v : Value) (w : World) : (Instr.typeAssert (.iface 150 v) 56 142 true).run Tryz.prog w = .ok (.tuple #[.agg #[.nilIface, .nilIface, .nilIface], .bool false]) w := by kernel_rfl
@[go_sem] theorem as_fst_call (v : Value) (w : World) : (Instr.typeAssert (.iface 150 v) 56 143 true).run Tryz.prog w = .ok (.tuple #[.agg #[.nilIface, .nilIface], .bool false]) w := by kernel_rfl
@[go_sem] theorem as_fst_pair (v : Value) (w : World) : (Instr.typeAssert (.iface 150 v) 56 146 true).run Tryz.prog w = .ok (.tuple #[.agg #[.nilIface, .nilIface], .bool false]) w := by kernel_rfl
@[go_sem] theorem as_fst_fst (v : Value) (w : World) : (Instr.typeAssert (.iface 150 v) 56 150 true).run Tryz.prog w = .ok (.tuple #[v, .bool true]) w := by kernel_rfl
@[go_sem] theorem as_fst_snd (v : Value) (w : World) : (Instr.typeAssert (.iface 150 v) 56 151 true).run Tryz.prog w = .ok (.tuple #[.agg #[.nilIface], .bool false]) w := by kernel_rfl
@[go_sem] theorem as_snd_add (v : Value) (w : World) : (Instr.typeAssert (.iface 151 v) 56 138 true).run Tryz.prog w = .ok (.tuple #[.agg #[.nilIface, .nilIface], .bool false]) w := by kernel_rfl
@[go_sem] theorem as_snd_sub (v : Value) (w : World) : (Instr.typeAssert (.iface 151 v) 56 139 true).run Tryz.prog w = .ok (.tuple #[.agg #[.nilIface, .nilIface], .bool false]) w := by kernel_rfl
@[go_sem] theorem as_snd_mul (v : Value) (w : World) : (Instr.typeAssert (.iface 151 v) 56 140 true).run Tryz.prog w = .ok (.tuple #[.agg #[.nilIface, .nilIface], .bool false]) w := by kernel_rfl
@[go_sem] theorem as_snd_if (v : Value) (w : World) : (Instr.typeAssert (.iface 151 v) 56 142 true).run Tryz.prog w = .ok (.tuple #[.agg #[.nilIface, .nilIface, .nilIface], .bool false]) w := by kernel_rfl
@[go_sem] theorem as_snd_call (v : Value) (w : World) : (Instr.typeAssert (.iface 151 v) 56 143 true).run Tryz.prog w = .ok (.tuple #[.agg #[.nilIface, .nilIface], .bool false]) w := by kernel_rfl
@[go_sem] theorem as_snd_pair (v : Value) (w : World) : (Instr.typeAssert (.iface 151 v) 56 146 true).run Tryz.prog w = .ok (.tuple #[.agg #[.nilIface, .nilIface], .bool false]) w := by kernel_rfl
@[go_sem] theorem as_snd_fst (v : Value) (w : World) : (Instr.typeAssert (.iface 151 v) 56 150 true).run Tryz.prog w = .ok (.tuple #[.agg #[.nilIface], .bool false]) w := by kernel_rfl
@[go_sem] theorem as_snd_snd (v : Value) (w : World) : (Instr.typeAssert (.iface 151 v) 56 151 true).run Tryz.prog w = .ok (.tuple #[v, .bool true]) w := by kernel_rfl
end Go.Proofs.YtjncmmnbdabjnaaGreatDoor
