/- Type switches of the program: what an assertion answers. -/
import Derived.Test.YtmgepnacjgbfhaaGreatDoorsB1
namespace Go.Proofs.YtmgepnacjgbfhaaGreatDoor
open Go.RowKit Go.Proofs.Tryz
set_option maxRecDepth 8000
set_option maxHeartbeats 20000000
set_option linter.unusedVariables false
set_option linter.unusedSimpArgs false
@[go_sem] theorem as_number_add (v : Value) (w : World) : (Instr.typeAssert (.iface 111 v) 44 127 true).run prog w = .ok (.tuple #[.agg #[.nilIface, .nilIface], .bool false]) w := by kernel_rfl
@[go_sem] theorem as_number_sub (v : Value) (w : World) : (Instr.typeAssert (.iface 111 v) 44 128 true).run prog w = .ok (.tuple #[.agg #[.nilIface, .nilIface], .bool false]) w := by kernel_rfl
@[go_sem] theorem as_number_mul (v : Value) (w : World) : (Instr.typeAssert (.iface 111 v) 44 129 true).run prog w = .ok (.tuple #[.agg #[.nilIface, .nilIface], .bool false]) w := by kernel_rfl
@[go_sem] theorem as_number_if (v : Value) (w : World) : (Instr.typeAssert (.iface 111 v) 44 131 true).run prog w = .ok (.tuple #[.agg #[.nilIface, .nilIface, .nilIface], .bool false]) w := by kernel_rfl
@[go_sem] theorem as_number_call (v : Value) (w : World) : (Instr.typeAssert (.iface 111 v) 44 132 true).run prog w = .ok (.tuple #[.agg #[.nilIface, .nilIface], .bool false]) w := by kernel_rfl
@[go_sem] theorem as_number_pair (v : Value) (w : World) : (Instr.typeAssert (.iface 111 v) 44 109 true).run prog w = .ok (.tuple #[.agg #[.nilIface, .nilIface], .bool false]) w := by kernel_rfl
@[go_sem] theorem as_number_fst (v : Value) (w : World) : (Instr.typeAssert (.iface 111 v) 44 136 true).run prog w = .ok (.tuple #[.agg #[.nilIface], .bool false]) w := by kernel_rfl
@[go_sem] theorem as_number_snd (v : Value) (w : World) : (Instr.typeAssert (.iface 111 v) 44 137 true).run prog w = .ok (.tuple #[.agg #[.nilIface], .bool false]) w := by kernel_rfl
@[go_sem] theorem as_add_add (v : Value) (w : World) : (Instr.typeAssert (.iface 127 v) 44 127 true).run prog w = .ok (.tuple #[v, .bool true]) w := by kernel_rfl
@[go_sem] theorem as_add_sub (v : Value) (w : World) : (Instr.typeAssert (.iface 127 v) 44 128 true).run prog w = .ok (.tuple #[.agg #[.nilIface, .nilIface], .bool false]) w := by kernel_rfl
@[go_sem] theorem as_add_mul (v : Value) (w : World) : (Instr.typeAssert (.iface 127 v) 44 129 true).run prog w = .ok (.tuple #[.agg #[.nilIface, .nilIface], .bool false]) w := by kernel_rfl
@[go_sem] theorem as_add_if (v : Value) (w : World) : (Instr.typeAssert (.iface 127 v) 44 131 true).run prog w = .ok (.tuple #[.agg #[.nilIface, .nilIface, .nilIface], .bool false]) w := by kernel_rfl
@[go_sem] theorem as_add_call (v : Value) (w : World) : (Instr.typeAssert (.iface 127 v) 44 132 true).run prog w = .ok (.tuple #[.agg #[.nilIface, .nilIface], .bool false]) w := by kernel_rfl
@[go_sem] theorem as_add_pair (v : Value) (w : World) : (Instr.typeAssert (.iface 127 v) 44 109 true).run prog w = .ok (.tuple #[.agg #[.nilIface, .nilIface], .bool false]) w := by kernel_rfl
@[go_sem] theorem as_add_fst (v : Value) (w : World) : (Instr.typeAssert (.iface 127 v) 44 136 true).run prog w = .ok (.tuple #[.agg #[.nilIface], .bool false]) w := by kernel_rfl
@[go_sem] theorem as_add_snd (v : Value) (w : World) : (Instr.typeAssert (.iface 127 v) 44 137 true).run prog w = .ok (.tuple #[.agg #[.nilIface], .bool false]) w := by kernel_rfl
@[go_sem] theorem as_sub_add (v : Value) (w : World) : (Instr.typeAssert (.iface 128 v) 44 127 true).run prog w = .ok (.tuple #[.agg #[.nilIface, .nilIface], .bool false]) w := by kernel_rfl
@[go_sem] theorem as_sub_sub (v : Value) (w : World) : (Instr.typeAssert (.iface 128 v) 44 128 true).run prog w = .ok (.tuple #[v, .bool true]) w := by kernel_rfl
@[go_sem] theorem as_sub_mul (v : Value) (w : World) : (Instr.typeAssert (.iface 128 v) 44 129 true).run prog w = .ok (.tuple #[.agg #[.nilIface, .nilIface], .bool false]) w := by kernel_rfl
@[go_sem] theorem as_sub_if (v : Value) (w : World) : (Instr.typeAssert (.iface 128 v) 44 131 true).run prog w = .ok (.tuple #[.agg #[.nilIface, .nilIface, .nilIface], .bool false]) w := by kernel_rfl
@[go_sem] theorem as_sub_call (v : Value) (w : World) : (Instr.typeAssert (.iface 128 v) 44 132 true).run prog w = .ok (.tuple #[.agg #[.nilIface, .nilIface], .bool false]) w := by kernel_rfl
@[go_sem] theorem as_sub_pair (v : Value) (w : World) : (Instr.typeAssert (.iface 128 v) 44 109 true).run prog w = .ok (.tuple #[.agg #[.nilIface, .nilIface], .bool false]) w := by kernel_rfl
@[go_sem] theorem as_sub_fst (v : Value) (w : World) : (Instr.typeAssert (.iface 128 v) 44 136 true).run prog w = .ok (.tuple #[.agg #[.nilIface], .bool false]) w := by kernel_rfl
@[go_sem] theorem as_sub_snd (v : Value) (w : World) : (Instr.typeAssert (.iface 128 v) 44 137 true).run prog w = .ok (.tuple #[.agg #[.nilIface], .bool false]) w := by kernel_rfl
@[go_sem] theorem as_mul_add (v : Value) (w : World) : (Instr.typeAssert (.iface 129 v) 44 127 true).run prog w = .ok (.tuple #[.agg #[.nilIface, .nilIface], .bool false]) w := by kernel_rfl
@[go_sem] theorem as_mul_sub (v : Value) (w : World) : (Instr.typeAssert (.iface 129 v) 44 128 true).run prog w = .ok (.tuple #[.agg #[.nilIface, .nilIface], .bool false]) w := by kernel_rfl
@[go_sem] theorem as_mul_mul (v : Value) (w : World) : (Instr.typeAssert (.iface 129 v) 44 129 true).run prog w = .ok (.tuple #[v, .bool true]) w := by kernel_rfl
@[go_sem] theorem as_mul_if (v : Value) (w : World) : (Instr.typeAssert (.iface 129 v) 44 131 true).run prog w = .ok (.tuple #[.agg #[.nilIface, .nilIface, .nilIface], .bool false]) w := by kernel_rfl
@[go_sem] theorem as_mul_call (v : Value) (w : World) : (Instr.typeAssert (.iface 129 v) 44 132 true).run prog w = .ok (.tuple #[.agg #[.nilIface, .nilIface], .bool false]) w := by kernel_rfl
@[go_sem] theorem as_mul_pair (v : Value) (w : World) : (Instr.typeAssert (.iface 129 v) 44 109 true).run prog w = .ok (.tuple #[.agg #[.nilIface, .nilIface], .bool false]) w := by kernel_rfl
@[go_sem] theorem as_mul_fst (v : Value) (w : World) : (Instr.typeAssert (.iface 129 v) 44 136 true).run prog w = .ok (.tuple #[.agg #[.nilIface], .bool false]) w := by kernel_rfl
@[go_sem] theorem as_mul_snd (v : Value) (w : World) : (Instr.typeAssert (.iface 129 v) 44 137 true).run prog w = .ok (.tuple #[.agg #[.nilIface], .bool false]) w := by kernel_rfl
@[go_sem] theorem as_if_add (v : Value) (w : World) : (Instr.typeAssert (.iface 131 v) 44 127 true).run prog w = .ok (.tuple #[.agg #[.nilIface, .nilIface], .bool false]) w := by kernel_rfl
@[go_sem] theorem as_if_sub (v : Value) (w : World) : (Instr.typeAssert (.iface 131 v) 44 128 true).run prog w = .ok (.tuple #[.agg #[.nilIface, .nilIface], .bool false]) w := by kernel_rfl
@[go_sem] theorem as_if_mul (v : Value) (w : World) : (Instr.typeAssert (.iface 131 v) 44 129 true).run prog w = .ok (.tuple #[.agg #[.nilIface, .nilIface], .bool false]) w := by kernel_rfl
@[go_sem] theorem as_if_if (v : Value) (w : World) : (Instr.typeAssert (.iface 131 v) 44 131 true).run prog w = .ok (.tuple #[v, .bool true]) w := by kernel_rfl
@[go_sem] theorem as_if_call (v : Value) (w : World) : (Instr.typeAssert (.iface 131 v) 44 132 true).run prog w = .ok (.tuple #[.agg #[.nilIface, .nilIface], .bool false]) w := by kernel_rfl
@[go_sem] theorem as_if_pair (v : Value) (w : World) : (Instr.typeAssert (.iface 131 v) 44 109 true).run prog w = .ok (.tuple #[.agg #[.nilIface, .nilIface], .bool false]) w := by kernel_rfl
@[go_sem] theorem as_if_fst (v : Value) (w : World) : (Instr.typeAssert (.iface 131 v) 44 136 true).run prog w = .ok (.tuple #[.agg #[.nilIface], .bool false]) w := by kernel_rfl
@[go_sem] theorem as_if_snd (v : Value) (w : World) : (Instr.typeAssert (.iface 131 v) 44 137 true).run prog w = .ok (.tuple #[.agg #[.nilIface], .bool false]) w := by kernel_rfl
@[go_sem] theorem as_call_add (v : Value) (w : World) : (Instr.typeAssert (.iface 132 v) 44 127 true).run prog w = .ok (.tuple #[.agg #[.nilIface, .nilIface], .bool false]) w := by kernel_rfl
@[go_sem] theorem as_call_sub (v : Value) (w : World) : (Instr.typeAssert (.iface 132 v) 44 128 true).run prog w = .ok (.tuple #[.agg #[.nilIface, .nilIface], .bool false]) w := by kernel_rfl
@[go_sem] theorem as_call_mul (v : Value) (w : World) : (Instr.typeAssert (.iface 132 v) 44 129 true).run prog w = .ok (.tuple #[.agg #[.nilIface, .nilIface], .bool false]) w := by kernel_rfl
@[go_sem] theorem as_call_if (v : Value) (w : World) : (Instr.typeAssert (.iface 132 v) 44 131 true).run prog w = .ok (.tuple #[.agg #[.nilIface, .nilIface, .nilIface], .bool false]) w := by kernel_rfl
@[go_sem] theorem as_call_call (v : Value) (w : World) : (Instr.typeAssert (.iface 132 v) 44 132 true).run prog w = .ok (.tuple #[v, .bool true]) w := by kernel_rfl
@[go_sem] theorem as_call_pair (v : Value) (w : World) : (Instr.typeAssert (.iface 132 v) 44 109 true).run prog w = .ok (.tuple #[.agg #[.nilIface, .nilIface], .bool false]) w := by kernel_rfl
@[go_sem] theorem as_call_fst (v : Value) (w : World) : (Instr.typeAssert (.iface 132 v) 44 136 true).run prog w = .ok (.tuple #[.agg #[.nilIface], .bool false]) w := by kernel_rfl
@[go_sem] theorem as_call_snd (v : Value) (w : World) : (Instr.typeAssert (.iface 132 v) 44 137 true).run prog w = .ok (.tuple #[.agg #[.nilIface], .bool false]) w := by kernel_rfl
@[go_sem] theorem as_pair_add (v : Value) (w : World) : (Instr.typeAssert (.iface 109 v) 44 127 true).run prog w = .ok (.tuple #[.agg #[.nilIface, .nilIface], .bool false]) w := by kernel_rfl
@[go_sem] theorem as_pair_sub (v : Value) (w : World) : (Instr.typeAssert (.iface 109 v) 44 128 true).run prog w = .ok (.tuple #[.agg #[.nilIface, .nilIface], .bool false]) w := by kernel_rfl
@[go_sem] theorem as_pair_mul (v : Value) (w : World) : (Instr.typeAssert (.iface 109 v) 44 129 true).run prog w = .ok (.tuple #[.agg #[.nilIface, .nilIface], .bool false]) w := by kernel_rfl
@[go_sem] theorem as_pair_if (v : Value) (w : World) : (Instr.typeAssert (.iface 109 v) 44 131 true).run prog w = .ok (.tuple #[.agg #[.nilIface, .nilIface, .nilIface], .bool false]) w := by kernel_rfl
@[go_sem] theorem as_pair_call (v : Value) (w : World) : (Instr.typeAssert (.iface 109 v) 44 132 true).run prog w = .ok (.tuple #[.agg #[.nilIface, .nilIface], .bool false]) w := by kernel_rfl
@[go_sem] theorem as_pair_pair (v : Value) (w : World) : (Instr.typeAssert (.iface 109 v) 44 109 true).run prog w = .ok (.tuple #[v, .bool true]) w := by kernel_rfl
@[go_sem] theorem as_pair_fst (v : Value) (w : World) : (Instr.typeAssert (.iface 109 v) 44 136 true).run prog w = .ok (.tuple #[.agg #[.nilIface], .bool false]) w := by kernel_rfl
@[go_sem] theorem as_pair_snd (v : Value) (w : World) : (Instr.typeAssert (.iface 109 v) 44 137 true).run prog w = .ok (.tuple #[.agg #[.nilIface], .bool false]) w := by kernel_rfl
@[go_sem] theorem as_fst_add (v : Value) (w : World) : (Instr.typeAssert (.iface 136 v) 44 127 true).run prog w = .ok (.tuple #[.agg #[.nilIface, .nilIface], .bool false]) w := by kernel_rfl
@[go_sem] theorem as_fst_sub (v : Value) (w : World) : (Instr.typeAssert (.iface 136 v) 44 128 true).run prog w = .ok (.tuple #[.agg #[.nilIface, .nilIface], .bool false]) w := by kernel_rfl
@[go_sem] theorem as_fst_mul (v : Value) (w : World) : (Instr.typeAssert (.iface 136 v) 44 129 true).run prog w = .ok (.tuple #[.agg #[.nilIface, .nilIface], .bool false]) w := by kernel_rfl
@[go_sem] theorem as_fst_if (v : Value) (w : World) : (Instr.typeAssert (.iface 136 v) 44 131 true).run prog w = .ok (.tuple #[.agg #[.nilIface, .nilIface, .nilIface], .bool false]) w := by kernel_rfl
@[go_sem] theorem as_fst_call (v : Value) (w : World) : (Instr.typeAssert (.iface 136 v) 44 132 true).run prog w = .ok (.tuple #[.agg #[.nilIface, .nilIface], .bool false]) w := by kernel_rfl
@[go_sem] theorem as_fst_pair (v : Value) (w : World) : (Instr.typeAssert (.iface 136 v) 44 109 true).run prog w = .ok (.tuple #[.agg #[.nilIface, .nilIface], .bool false]) w := by kernel_rfl
@[go_sem] theorem as_fst_fst (v : Value) (w : World) : (Instr.typeAssert (.iface 136 v) 44 136 true).run prog w = .ok (.tuple #[v, .bool true]) w := by kernel_rfl
@[go_sem] theorem as_fst_snd (v : Value) (w : World) : (Instr.typeAssert (.iface 136 v) 44 137 true).run prog w = .ok (.tuple #[.agg #[.nilIface], .bool false]) w := by kernel_rfl
@[go_sem] theorem as_snd_add (v : Value) (w : World) : (Instr.typeAssert (.iface 137 v) 44 127 true).run prog w = .ok (.tuple #[.agg #[.nilIface, .nilIface], .bool false]) w := by kernel_rfl
@[go_sem] theorem as_snd_sub (v : Value) (w : World) : (Instr.typeAssert (.iface 137 v) 44 128 true).run prog w = .ok (.tuple #[.agg #[.nilIface, .nilIface], .bool false]) w := by kernel_rfl
@[go_sem] theorem as_snd_mul (v : Value) (w : World) : (Instr.typeAssert (.iface 137 v) 44 129 true).run prog w = .ok (.tuple #[.agg #[.nilIface, .nilIface], .bool false]) w := by kernel_rfl
@[go_sem] theorem as_snd_if (v : Value) (w : World) : (Instr.typeAssert (.iface 137 v) 44 131 true).run prog w = .ok (.tuple #[.agg #[.nilIface, .nilIface, .nilIface], .bool false]) w := by kernel_rfl
@[go_sem] theorem as_snd_call (v : Value) (w : World) : (Instr.typeAssert (.iface 137 v) 44 132 true).run prog w = .ok (.tuple #[.agg #[.nilIface, .nilIface], .bool false]) w := by kernel_rfl
@[go_sem] theorem as_snd_pair (v : Value) (w : World) : (Instr.typeAssert (.iface 137 v) 44 109 true).run prog w = .ok (.tuple #[.agg #[.nilIface, .nilIface], .bool false]) w := by kernel_rfl
@[go_sem] theorem as_snd_fst (v : Value) (w : World) : (Instr.typeAssert (.iface 137 v) 44 136 true).run prog w = .ok (.tuple #[.agg #[.nilIface], .bool false]) w := by kernel_rfl
@[go_sem] theorem as_snd_snd (v : Value) (w : World) : (Instr.typeAssert (.iface 137 v) 44 137 true).run prog w = .ok (.tuple #[v, .bool true]) w := by kernel_rfl
end Go.Proofs.YtmgepnacjgbfhaaGreatDoor
