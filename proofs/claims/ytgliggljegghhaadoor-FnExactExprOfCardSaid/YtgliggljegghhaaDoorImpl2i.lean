/- The program's expressions: heads and kids by the methods of their types. -/
import Derived.Test.YtgliggljegghhaaDoorI2e
import Derived.Test.YtgliggljegghhaaDoorB3
import Derived.Handy
namespace Go.Proofs.YtgliggljegghhaaDoor
open Go.RowKit
set_option maxRecDepth 8000
set_option linter.unusedSimpArgs false
set_option linter.unusedVariables false
theorem head_name_c (vs : Array Value) (w : World) : Calls Tryd.prog 87 #[.agg vs] w fun e w' => e = .returned (.string (bs [110, 97, 109, 101])) ∧ Below w.heap.size w w' := by
  rw [show bs [110, 97, 109, 101] = ⟨#[110, 97, 109, 101]⟩ from rfl]
  go_enter Tryd.func87, Tryd.ntmps87
  go_wp2_with fail
  go_ret
  exact ⟨rfl, below1 _ _⟩
theorem head_number_c (vs : Array Value) (w : World) : Calls Tryd.prog 84 #[.agg vs] w fun e w' => e = .returned (.string (bs [110, 117, 109, 98, 101, 114])) ∧ Below w.heap.size w w' := by
  rw [show bs [110, 117, 109, 98, 101, 114] = ⟨#[110, 117, 109, 98, 101, 114]⟩ from rfl]
  go_enter Tryd.func84, Tryd.ntmps84
  go_wp2_with fail
  go_ret
  exact ⟨rfl, below1 _ _⟩
theorem head_let_c (vs : Array Value) (w : World) : Calls Tryd.prog 90 #[.agg vs] w fun e w' => e = .returned (.string (bs [108, 101, 116])) ∧ Below w.heap.size w w' := by
  rw [show bs [108, 101, 116] = ⟨#[108, 101, 116]⟩ from rfl]
  go_enter Tryd.func90, Tryd.ntmps90
  go_wp2_with fail
  go_ret
  exact ⟨rfl, below1 _ _⟩
theorem head_fun_c (vs : Array Value) (w : World) : Calls Tryd.prog 78 #[.agg vs] w fun e w' => e = .returned (.string (bs [102, 117, 110])) ∧ Below w.heap.size w w' := by
  rw [show bs [102, 117, 110] = ⟨#[102, 117, 110]⟩ from rfl]
  go_enter Tryd.func78, Tryd.ntmps78
  go_wp2_with fail
  go_ret
  exact ⟨rfl, below1 _ _⟩
theorem head_pair_c (vs : Array Value) (w : World) : Calls Tryd.prog 82 #[.agg vs] w fun e w' => e = .returned (.string (bs [112, 97, 105, 114])) ∧ Below w.heap.size w w' := by
  rw [show bs [112, 97, 105, 114] = ⟨#[112, 97, 105, 114]⟩ from rfl]
  go_enter Tryd.func82, Tryd.ntmps82
  go_wp2_with fail
  go_ret
  exact ⟨rfl, below1 _ _⟩
def headI (l : List UInt8) : List UInt8 := match readEx l with | none => [] | some x => headOf x
theorem headI_none {l : List UInt8} (h : readEx l = none) : headI l = [] := by simp [headI, h]
theorem headI_some {l : List UInt8} {x : Ex} (h : readEx l = some x) : headI l = headOf x := by simp [headI, h]
end Go.Proofs.YtgliggljegghhaaDoor
