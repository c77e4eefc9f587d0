/- Type switches of the program: what an assertion answers. -/
import Derived.Test.YtjaaalojcdbcpaaGreatDoorpB1
set_option maxHeartbeats 20000000
set_option linter.unusedVariables false
set_option linter.unusedSimpArgs false
namespace Go.Proofs.YtjaaalojcdbcpaaGreatDoor
open Go.RowKit Go.Proofs.Tryz
set_option maxRecDepth 8000
@[go_sem] theorem as_number_add (v : Value) (w : World) : (Instr.typeAssert (.iface 141 v) 53 163 true).run prog w = .ok (.tuple #[.agg #[.nilIface, .nilIface], .bool false]) w := by kernel_rfl
@[go_sem] theorem as_number_sub (v : Value) (w : World) : (Instr.typeAssert (.iface 141 v) 53 164 true).run prog w = .ok (.tuple #[.agg #[.nilIface, .nilIface], .bool false]) w := by kernel_rfl
@[go_sem] theorem as_number_mul (v : Value) (w : World) : (Instr.typeAssert (.iface 141 v) 53 165 true).run prog w = .ok (.tuple #[.agg #[.nilIface, .nilIface], .bool false]) w := by kernel_rfl
@[go_sem] theorem as_number_if (v : Value) (w : World) : (Instr.typeAssert (.iface 141 v) 53 167 true).run prog w = .ok (.tuple #[.agg #[.nilIface, .nilIface, .nilIface], .bool false]) w := by kernel_rfl
@[go_sem] theorem as_number_call (v : Value) (w : World) : (Instr.typeAssert (.iface 141 v) 53 168 true).run prog w = .ok (.tuple #[.agg #[.nilIface, .nilIface], .bool false]) w := by kernel_rfl
@[go_sem] theorem as_number_pair (v : Value) (w : World) : (Instr.typeAssert (.iface 141 v) 53 171 true).run prog w = .ok (.tuple #[.agg #[.nilIface, .nilIface], .bool false]) w := by kernel_rfl
@[go_sem] theorem as_number_fst (v : Value) (w : World) : (Instr.typeAssert (.iface 141 v) 53 175 true).run prog w = .ok (.tuple #[.agg #[.nilIface], .bool false]) w := by kernel_rfl
@[go_sem] theorem as_number_snd (v : Value) (w : World) : (Instr.typeAssert (.iface 141 v) 53 176 true).run prog w = .ok (.tuple #[.agg #[.nilIface], .bool false]) w := by kernel_rfl
@[go_sem] theorem as_add_add (v : Value) (w : World) : (Instr.typeAssert (.iface 163 v) 53 163 true).run prog w = .ok (.tuple #[v, .bool true]) w := by kernel_rfl
@[go_sem] theorem as_add_sub (v : Value) (w : World) : (Instr.typeAssert (.iface 163 v) 53 164 true).run prog w = .ok (.tuple #[.agg #[.nilIface, .nilIface], .bool false]) w := by kernel_rfl
@[go_sem] theorem as_add_mul (v : Value) (w : World) : (Instr.typeAssert (.iface 163 v) 53 165 true).run prog w = .ok (.tuple #[.agg #[.nilIface, .nilIface], .bool false]) w := by kernel_rfl
@[go_sem] theorem as_add_if (v : Value) (w : World) : (Instr.typeAssert (.iface 163 v) 53 167 true).run prog w = .ok (.tuple #[.agg #[.nilIface, .nilIface, .nilIface], .bool false]) w := by kernel_rfl
@[go_sem] theorem as_add_call (v : Value) (w : World) : (Instr.typeAssert (.iface 163 v) 53 168 true).run prog w = .ok (.tuple #[.agg #[.nilIface, .nilIface], .bool false]) w := by kernel_rfl
@[go_sem] theorem as_add_pair (v : Value) (w : World) : (Instr.typeAssert (.iface 163 v) 53 171 true).run prog w = .ok (.tuple #[.agg #[.nilIface, .nilIface], .bool false]) w := by kernel_rfl
@[go_sem] theorem as_add_fst (v : Value) (w : World) : (Instr.typeAssert (.iface 163 v) 53 175 true).run prog w = .ok (.tuple #[.agg #[.nilIface], .bool false]) w := by kernel_rfl
@[go_sem] theorem as_add_snd (v : Value) (w : World) : (Instr.typeAssert (.iface 163 v) 53 176 true).run prog w = .ok (.tuple #[.agg #[.nilIface], .bool false]) w := by kernel_rfl
@[go_sem] theorem as_sub_add (v : Value) (w : World) : (Instr.typeAssert (.iface 164 v) 53 163 true).run prog w = .ok (.tuple #[.agg #[.nilIface, .nilIface], .bool false]) w := by kernel_rfl
@[go_sem] theorem as_sub_sub (v : Value) (w : World) : (Instr.typeAssert (.iface 164 v) 53 164 true).run prog w = .ok (.tuple #[v, .bool true]) w := by kernel_rfl
@[go_sem] theorem as_sub_mul (v : Value) (w : World) : (Instr.typeAssert (.iface 164 v) 53 165 true).run prog w = .ok (.tuple #[.agg #[.nilIface, .nilIface], .bool false]) w := by kernel_rfl
@[go_sem] theorem as_sub_if (v : Value) (w : World) : (Instr.typeAssert (.iface 164 v) 53 167 true).run prog w = .ok (.tuple #[.agg #[.nilIface, .nilIface, .nilIface], .bool false]) w := by kernel_rfl
@[go_sem] theorem as_sub_call (v : Value) (w : World) : (Instr.typeAssert (.iface 164 v) 53 168 true).run prog w = .ok (.tuple #[.agg #[.nilIface, .nilIface], .bool false]) w := by kernel_rfl
@[go_sem] theorem as_sub_pair (v : Value) (w : World) : (Instr.typeAssert (.iface 164 v) 53 171 true).run prog w = .ok (.tuple #[.agg #[.nilIface, .nilIface], .bool false]) w := by kernel_rfl
@[go_sem] theorem as_sub_fst (v : Value) (w : World) : (Instr.typeAssert (.iface 164 v) 53 175 true).run prog w = .ok (.tuple #[.agg #[.nilIface], .bool false]) w := by kernel_rfl
@[go_sem] theorem as_sub_snd (v : Value) (w : World) : (Instr.typeAssert (.iface 164 v) 53 176 true).run prog w = .ok (.tuple #[.agg #[.nilIface], .bool false]) w := by kernel_rfl
@[go_sem] theorem as_mul_add (v : Value) (w : World) : (Instr.typeAssert (.iface 165 v) 53 163 true).run prog w = .ok (.tuple #[.agg #[.nilIface, .nilIface], .bool false]) w := by kernel_rfl
@[go_sem] theorem as_mul_sub (v : Value) (w : World) : (Instr.typeAssert (.iface 165 v) 53 164 true).run prog w = .ok (.tuple #[.agg #[.nilIface, .nilIface], .bool false]) w := by kernel_rfl
@[go_sem] theorem as_mul_mul (v : Value) (w : World) : (Instr.typeAssert (.iface 165 v) 53 165 true).run prog w = .ok (.tuple #[v, .bool true]) w := by kernel_rfl
@[go_sem] theorem as_mul_if (v : Value) (w : World) : (Instr.typeAssert (.iface 165 v) 53 167 true).run prog w = .ok (.tuple #[.agg #[.nilIface, .nilIface, .nilIface], .bool false]) w := by kernel_rfl
@[go_sem] theorem as_mul_call (v : Value) (w : World) : (Instr.typeAssert (.iface 165 v) 53 168 true).run prog w = .ok (.tuple #[.agg #[.nilIface, .nilIface], .bool false]) w := by kernel_rfl
@[go_sem] theorem as_mul_pair (v : Value) (w : World) : (Instr.typeAssert (.iface 165 v) 53 171 true).run prog w = .ok (.tuple #[.agg #[.nilIface, .nilIface], .bool false]) w := by kernel_rfl
@[go_sem] theorem as_mul_fst (v : Value) (w : World) : (Instr.typeAssert (.iface 165 v) 53 175 true).run prog w = .ok (.tuple #[.agg #[.nilIface], .bool false]) w := by kernel_rfl
@[go_sem] theorem as_mul_snd (v : Value) (w : World) : (Instr.typeAssert (.iface 165 v) 53 176 true).run prog w = .ok (.tuple #[.agg #[.nilIface], .bool false]) w := by kernel_rfl
@[go_sem] theorem as_if_add (v : Value) (w : World) : (Instr.typeAssert (.iface 167 v) 53 163 true).run prog w = .ok (.tuple #[.agg #[.nilIface, .nilIface], .bool false]) w := by kernel_rfl
@[go_sem] theorem as_if_sub (v : Value) (w : World) : (Instr.typeAssert (.iface 167 v) 53 164 true).run prog w = .ok (.tuple #[.agg #[.nilIface, .nilIface], .bool false]) w := by kernel_rfl
@[go_sem] theorem as_if_mul (v : Value) (w : World) : (Instr.typeAssert (.iface 167 v) 53 165 true).run prog w = .ok (.tuple #[.agg #[.nilIface, .nilIface], .bool false]) w := by kernel_rfl
@[go_sem] theorem as_if_if (v : Value) (w : World) : (Instr.typeAssert (.iface 167 v) 53 167 true).run prog w = .ok (.tuple #[v, .bool true]) w := by kernel_rfl
@[go_sem] theorem as_if_call (v : Value) (w : World) : (Instr.typeAssert (.iface 167 v) 53 168 true).run prog w = .ok (.tuple #[.agg #[.nilIface, .nilIface], .bool false]) w := by kernel_rfl
@[go_sem] theorem as_if_pair (v : Value) (w : World) : (Instr.typeAssert (.iface 167 v) 53 171 true).run prog w = .ok (.tuple #[.agg #[.nilIface, .nilIface], .bool false]) w := by kernel_rfl
@[go_sem] theorem as_if_fst (v : Value) (w : World) : (Instr.typeAssert (.iface 167 v) 53 175 true).run prog w = .ok (.tuple #[.agg #[.nilIface], .bool false]) w := by kernel_rfl
@[go_sem] theorem as_if_snd (v : Value) (w : World) : (Instr.typeAssert (.iface 167 v) 53 176 true).run prog w = .ok (.tuple #[.agg #[.nilIface], .bool false]) w := by kernel_rfl
@[go_sem] theorem as_call_add (v : Value) (w : World) : (Instr.typeAssert (.iface 168 v) 53 163 true).run prog w = .ok (.tuple #[.agg #[.nilIface, .nilIface], .bool false]) w := by kernel_rfl
@[go_sem] theorem as_call_sub (v : Value) (w : World) : (Instr.typeAssert (.iface 168 v) 53 164 true).run prog w = .ok (.tuple #[.agg #[.nilIface, .nilIface], .bool false]) w := by kernel_rfl
@[go_sem] theorem as_call_mul (v : Value) (w : World) : (Instr.typeAssert (.iface 168 v) 53 165 true).run prog w = .ok (.tuple #[.agg #[.nilIface, .nilIface], .bool false]) w := by kernel_rfl
@[go_sem] theorem as_call_if (v : Value) (w : World) : (Instr.typeAssert (.iface 168 v) 53 167 true).run prog w = .ok (.tuple #[.agg #[.nilIface, .nilIface, .nilIface], .bool false]) w := by kernel_rfl
@[go_sem] theorem as_call_call (v : Value) (w : World) : (Instr.typeAssert (.iface 168 v) 53 168 true).run prog w = .ok (.tuple #[v, .bool true]) w := by kernel_rfl
@[go_sem] theorem as_call_pair (v : Value) (w : World) : (Instr.typeAssert (.iface 168 v) 53 171 true).run prog w = .ok (.tuple #[.agg #[.nilIface, .nilIface], .bool false]) w := by kernel_rfl
@[go_sem] theorem as_call_fst (v : Value) (w : World) : (Instr.typeAssert (.iface 168 v) 53 175 true).run prog w = .ok (.tuple #[.agg #[.nilIface], .bool false]) w := by kernel_rfl
@[go_sem] theorem as_call_snd (v : Value) (w : World) : (Instr.typeAssert (.iface 168 v) 53 176 true).run prog w = .ok (.tuple #[.agg #[.nilIface], .bool false]) w := by kernel_rfl
@[go_sem] theorem as_pair_add (v : Value) (w : World) : (Instr.typeAssert (.iface 171 v) 53 163 true).run prog w = .ok (.tuple #[.agg #[.nilIface, .nilIface], .bool false]) w := by kernel_rfl
@[go_sem] theorem as_pair_sub (v : Value) (w : World) : (Instr.typeAssert (.iface 171 v) 53 164 true).run prog w = .ok (.tuple #[.agg #[.nilIface, .nilIface], .bool false]) w := by kernel_rfl
@[go_sem] theorem as_pair_mul (v : Value) (w : World) : (Instr.typeAssert (.iface 171 v) 53 165 true).run prog w = .ok (.tuple #[.agg #[.nilIface, .nilIface], .bool false]) w := by kernel_rfl
@[go_sem] theorem as_pair_if (v : Value) (w : World) : (Instr.typeAssert (.iface 171 v) 53 167 true).run prog w = .ok (.tuple #[.agg #[.nilIface, .nilIface, .nilIface], .bool false]) w := by kernel_rfl
@[go_sem] theorem as_pair_call (v : Value) (w : World) : (Instr.typeAssert (.iface 171 v) 53 168 true).run prog w = .ok (.tuple #[.agg #[.nilIface, .nilIface], .bool false]) w := by kernel_rfl
@[go_sem] theorem as_pair_pair (v : Value) (w : World) : (Instr.typeAssert (.iface 171 v) 53 171 true).run prog w = .ok (.tuple #[v, .bool true]) w := by kernel_rfl
@[go_sem] theorem as_pair_fst (v : Value) (w : World) : (Instr.typeAssert (.iface 171 v) 53 175 true).run prog w = .ok (.tuple #[.agg #[.nilIface], .bool false]) w := by kernel_rfl
@[go_sem] theorem as_pair_snd (v : Value) (w : World) : (Instr.typeAssert (.iface 171 v) 53 176 true).run prog w = .ok (.tuple #[.agg #[.nilIface], .bool false]) w := by kernel_rfl
@[go_sem] theorem as_fst_add (v : Value) (w : World) : (Instr.typeAssert (.iface 175 v) 53 163 true).run prog w = .ok (.tuple #[.agg #[.nilIface, .nilIface], .bool false]) w := by kernel_rfl
@[go_sem] theorem as_fst_sub (v : Value) (w : World) : (Instr.typeAssert (.iface 175 v) 53 164 true).run prog w = .ok (.tuple #[.agg #[.nilIface, .nilIface], .bool false]) w := by kernel_rfl
@[go_sem] theorem as_fst_mul (v : Value) (w : World) : (Instr.typeAssert (.iface 175 v) 53 165 true).run prog w = .ok (.tuple #[.agg #[.nilIface, .nilIface], .bool false]) w := by kernel_rfl
@[go_sem] theorem as_fst_if (v : Value) (w : World) : (Instr.typeAssert (.iface 175 v) 53 167 true).run prog w = .ok (.tuple #[.agg #[.nilIface, .nilIface, .nilIface], .bool false]) w := by kernel_rfl
@[go_sem] theorem as_fst_call (v : Value) (w : World) : (Instr.typeAssert (.iface 175 v) 53 168 true).run prog w = .ok (.tuple #[.agg #[.nilIface, .nilIface], .bool false]) w := by kernel_rfl
@[go_sem] theorem as_fst_pair (v : Value) (w : World) : (Instr.typeAssert (.iface 175 v) 53 171 true).run prog w = .ok (.tuple #[.agg #[.nilIface, .nilIface], .bool false]) w := by kernel_rfl
@[go_sem] theorem as_fst_fst (v : Value) (w : World) : (Instr.typeAssert (.iface 175 v) 53 175 true).run prog w = .ok (.tuple #[v, .bool true]) w := by kernel_rfl
@[go_sem] theorem as_fst_snd (v : Value) (w : World) : (Instr.typeAssert (.iface 175 v) 53 176 true).run prog w = .ok (.tuple #[.agg #[.nilIface], .bool false]) w := by kernel_rfl
@[go_sem] theorem as_snd_add (v : Value) (w : World) : (Instr.typeAssert (.iface 176 v) 53 163 true).run prog w = .ok (.tuple #[.agg #[.nilIface, .nilIface], .bool false]) w := by kernel_rfl
@[go_sem] theorem as_snd_sub (v : Value) (w : World) : (Instr.typeAssert (.iface 176 v) 53 164 true).run prog w = .ok (.tuple #[.agg #[.nilIface, .nilIface], .bool false]) w := by kernel_rfl
@[go_sem] theorem as_snd_mul (v : Value) (w : World) : (Instr.typeAssert (.iface 176 v) 53 165 true).run prog w = .ok (.tuple #[.agg #[.nilIface, .nilIface], .bool false]) w := by kernel_rfl
@[go_sem] theorem as_snd_if (v : Value) (w : World) : (Instr.typeAssert (.iface 176 v) 53 167 true).run prog w = .ok (.tuple #[.agg #[.nilIface, .nilIface, .nilIface], .bool false]) w := by kernel_rfl
@[go_sem] theorem as_snd_call (v : Value) (w : World) : (Instr.typeAssert (.iface 176 v) 53 168 true).run prog w = .ok (.tuple #[.agg #[.nilIface, .nilIface], .bool false]) w := by kernel_rfl
@[go_sem] theorem as_snd_pair (v : Value) (w : World) : (Instr.typeAssert (.iface 176 v) 53 171 true).run prog w = .ok (.tuple #[.agg #[.nilIface, .nilIface], .bool false]) w := by kernel_rfl
@[go_sem] theorem as_snd_fst (v : Value) (w : World) : (Instr.typeAssert (.iface 176 v) 53 175 true).run prog w = .ok (.tuple #[.agg #[.nilIface], .bool false]) w := by kernel_rfl
@[go_sem] theorem as_snd_snd (v : Value) (w : World) : (Instr.typeAssert (.iface 176 v) 53 176 true).run prog w = .ok (.tuple #[v, .bool true]) w := by kernel_rfl
end Go.Proofs.YtjaaalojcdbcpaaGreatDoor
