/- The program's expressions: heads and kids by the methods of their types. -/
import Derived.Test.YtjfjlfhckfoehaaGreatDoorI2e
import Derived.Test.YtjfjlfhckfoehaaGreatDoorB3
import Derived.Handy
namespace Go.Proofs.YtjfjlfhckfoehaaGreatDoor
open Go.RowKit
set_option maxRecDepth 8000
set_option linter.unusedSimpArgs false
set_option linter.unusedVariables false
theorem head_name_c (vs : Array Value) (w : World) : Calls Tryz.prog 265 #[.agg vs] w fun e w' => e = .returned (.string (bs [110, 97, 109, 101])) ∧ Below w.heap.size w w' := by
  rw [show bs [110, 97, 109, 101] = ⟨#[110, 97, 109, 101]⟩ from rfl]
  go_enter Tryz.func265, Tryz.ntmps265
  go_wp2_with fail
  go_ret
  exact ⟨rfl, below1 _ _⟩
theorem head_number_c (vs : Array Value) (w : World) : Calls Tryz.prog 262 #[.agg vs] w fun e w' => e = .returned (.string (bs [110, 117, 109, 98, 101, 114])) ∧ Below w.heap.size w w' := by
  rw [show bs [110, 117, 109, 98, 101, 114] = ⟨#[110, 117, 109, 98, 101, 114]⟩ from rfl]
  go_enter Tryz.func262, Tryz.ntmps262
  go_wp2_with fail
  go_ret
  exact ⟨rfl, below1 _ _⟩
theorem head_add_c (vs : Array Value) (w : World) : Calls Tryz.prog 269 #[.agg vs] w fun e w' => e = .returned (.string (bs [43])) ∧ Below w.heap.size w w' := by
  rw [show bs [43] = ⟨#[43]⟩ from rfl]
  go_enter Tryz.func269, Tryz.ntmps269
  go_wp2_with fail
  go_ret
  exact ⟨rfl, below1 _ _⟩
theorem head_sub_c (vs : Array Value) (w : World) : Calls Tryz.prog 271 #[.agg vs] w fun e w' => e = .returned (.string (bs [45])) ∧ Below w.heap.size w w' := by
  rw [show bs [45] = ⟨#[45]⟩ from rfl]
  go_enter Tryz.func271, Tryz.ntmps271
  go_wp2_with fail
  go_ret
  exact ⟨rfl, below1 _ _⟩
theorem head_mul_c (vs : Array Value) (w : World) : Calls Tryz.prog 273 #[.agg vs] w fun e w' => e = .returned (.string (bs [42])) ∧ Below w.heap.size w w' := by
  rw [show bs [42] = ⟨#[42]⟩ from rfl]
  go_enter Tryz.func273, Tryz.ntmps273
  go_wp2_with fail
  go_ret
  exact ⟨rfl, below1 _ _⟩
theorem head_if_c (vs : Array Value) (w : World) : Calls Tryz.prog 275 #[.agg vs] w fun e w' => e = .returned (.string (bs [105, 102])) ∧ Below w.heap.size w w' := by
  rw [show bs [105, 102] = ⟨#[105, 102]⟩ from rfl]
  go_enter Tryz.func275, Tryz.ntmps275
  go_wp2_with fail
  go_ret
  exact ⟨rfl, below1 _ _⟩
theorem head_let_c (vs : Array Value) (w : World) : Calls Tryz.prog 253 #[.agg vs] w fun e w' => e = .returned (.string (bs [108, 101, 116])) ∧ Below w.heap.size w w' := by
  rw [show bs [108, 101, 116] = ⟨#[108, 101, 116]⟩ from rfl]
  go_enter Tryz.func253, Tryz.ntmps253
  go_wp2_with fail
  go_ret
  exact ⟨rfl, below1 _ _⟩
theorem head_fun_c (vs : Array Value) (w : World) : Calls Tryz.prog 256 #[.agg vs] w fun e w' => e = .returned (.string (bs [102, 117, 110])) ∧ Below w.heap.size w w' := by
  rw [show bs [102, 117, 110] = ⟨#[102, 117, 110]⟩ from rfl]
  go_enter Tryz.func256, Tryz.ntmps256
  go_wp2_with fail
  go_ret
  exact ⟨rfl, below1 _ _⟩
theorem head_call_c (vs : Array Value) (w : World) : Calls Tryz.prog 278 #[.agg vs] w fun e w' => e = .returned (.string (bs [99, 97, 108, 108])) ∧ Below w.heap.size w w' := by
  rw [show bs [99, 97, 108, 108] = ⟨#[99, 97, 108, 108]⟩ from rfl]
  go_enter Tryz.func278, Tryz.ntmps278
  go_wp2_with fail
  go_ret
  exact ⟨rfl, below1 _ _⟩
theorem head_pair_c (vs : Array Value) (w : World) : Calls Tryz.prog 259 #[.agg vs] w fun e w' => e = .returned (.string (bs [112, 97, 105, 114])) ∧ Below w.heap.size w w' := by
  rw [show bs [112, 97, 105, 114] = ⟨#[112, 97, 105, 114]⟩ from rfl]
  go_enter Tryz.func259, Tryz.ntmps259
  go_wp2_with fail
  go_ret
  exact ⟨rfl, below1 _ _⟩
theorem head_fst_c (vs : Array Value) (w : World) : Calls Tryz.prog 281 #[.agg vs] w fun e w' => e = .returned (.string (bs [102, 115, 116])) ∧ Below w.heap.size w w' := by
  rw [show bs [102, 115, 116] = ⟨#[102, 115, 116]⟩ from rfl]
  go_enter Tryz.func281, Tryz.ntmps281
  go_wp2_with fail
  go_ret
  exact ⟨rfl, below1 _ _⟩
theorem head_snd_c (vs : Array Value) (w : World) : Calls Tryz.prog 284 #[.agg vs] w fun e w' => e = .returned (.string (bs [115, 110, 100])) ∧ Below w.heap.size w w' := by
  rw [show bs [115, 110, 100] = ⟨#[115, 110, 100]⟩ from rfl]
  go_enter Tryz.func284, Tryz.ntmps284
  go_wp2_with fail
  go_ret
  exact ⟨rfl, below1 _ _⟩
theorem readExpr_none {s : ByteArray} (hs : s.size ≤ 1048576) (hp : readEx s.data.toList = none) (W : World) : Calls Tryz.prog 55 #[.string s] W fun e w' => (∃ v, e = .returned (.tuple #[v, .bool false])) ∧ Below W.heap.size W w' :=
  (readExpr_c s hs W).mono fun e w' ⟨h1, h2⟩ => ⟨by rw [hp] at h1; exact rdPost_shape h1, h2⟩
theorem readExpr_some {s : ByteArray} (hs : s.size ≤ 1048576) {x : Ex} (hp : readEx s.data.toList = some x) (W : World) : Calls Tryz.prog 55 #[.string s] W fun e w' => (∃ v, e = .returned (.tuple #[v, .bool true]) ∧ EV w' (fun k => W.heap.size ≤ k ∧ k < w'.heap.size) x v) ∧ Below W.heap.size W w' :=
  (readExpr_c s hs W).mono fun e w' ⟨h1, h2⟩ => ⟨by rw [hp] at h1; exact h1, h2⟩
def headI (l : List UInt8) : List UInt8 := match readEx l with | none => [] | some x => headOf x
theorem headI_none {l : List UInt8} (h : readEx l = none) : headI l = [] := by simp [headI, h]
theorem headI_some {l : List UInt8} {x : Ex} (h : readEx l = some x) : headI l = headOf x := by simp [headI, h]
end Go.Proofs.YtjfjlfhckfoehaaGreatDoor
