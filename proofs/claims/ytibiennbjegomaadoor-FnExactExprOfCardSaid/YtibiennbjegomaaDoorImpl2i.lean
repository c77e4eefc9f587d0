/- The program's expressions: heads and kids by the methods of their types. -/
import Derived.Test.YtibiennbjegomaaDoorI2e
import Derived.Test.YtibiennbjegomaaDoorB3
import Derived.Handy
namespace Go.Proofs.YtibiennbjegomaaDoor
open Go.RowKit
set_option maxRecDepth 8000
set_option linter.unusedSimpArgs false
set_option linter.unusedVariables false
theorem head_name_c (vs : Array Value) (w : World) : Calls Tryd.prog 88 #[.agg vs] w fun e w' => e = .returned (.string (bs [110, 97, 109, 101])) ∧ Below w.heap.size w w' := by
  rw [show bs [110, 97, 109, 101] = ⟨#[110, 97, 109, 101]⟩ from rfl]
  go_enter Tryd.func88, Tryd.ntmps88
  go_wp2_with fail
  go_ret
  exact ⟨rfl, below1 _ _⟩
theorem head_number_c (vs : Array Value) (w : World) : Calls Tryd.prog 85 #[.agg vs] w fun e w' => e = .returned (.string (bs [110, 117, 109, 98, 101, 114])) ∧ Below w.heap.size w w' := by
  rw [show bs [110, 117, 109, 98, 101, 114] = ⟨#[110, 117, 109, 98, 101, 114]⟩ from rfl]
  go_enter Tryd.func85, Tryd.ntmps85
  go_wp2_with fail
  go_ret
  exact ⟨rfl, below1 _ _⟩
theorem head_let_c (vs : Array Value) (w : World) : Calls Tryd.prog 91 #[.agg vs] w fun e w' => e = .returned (.string (bs [108, 101, 116])) ∧ Below w.heap.size w w' := by
  rw [show bs [108, 101, 116] = ⟨#[108, 101, 116]⟩ from rfl]
  go_enter Tryd.func91, Tryd.ntmps91
  go_wp2_with fail
  go_ret
  exact ⟨rfl, below1 _ _⟩
theorem head_fun_c (vs : Array Value) (w : World) : Calls Tryd.prog 79 #[.agg vs] w fun e w' => e = .returned (.string (bs [102, 117, 110])) ∧ Below w.heap.size w w' := by
  rw [show bs [102, 117, 110] = ⟨#[102, 117, 110]⟩ from rfl]
  go_enter Tryd.func79, Tryd.ntmps79
  go_wp2_with fail
  go_ret
  exact ⟨rfl, below1 _ _⟩
theorem head_pair_c (vs : Array Value) (w : World) : Calls Tryd.prog 83 #[.agg vs] w fun e w' => e = .returned (.string (bs [112, 97, 105, 114])) ∧ Below w.heap.size w w' := by
  rw [show bs [112, 97, 105, 114] = ⟨#[112, 97, 105, 114]⟩ from rfl]
  go_enter Tryd.func83, Tryd.ntmps83
  go_wp2_with fail
  go_ret
  exact ⟨rfl, below1 _ _⟩
def headI (l : List UInt8) : List UInt8 := match readEx l with | none => [] | some x => headOf x
theorem headI_none {l : List UInt8} (h : readEx l = none) : headI l = [] := by simp [headI, h]
theorem headI_some {l : List UInt8} {x : Ex} (h : readEx l = some x) : headI l = headOf x := by simp [headI, h]
end Go.Proofs.YtibiennbjegomaaDoor
