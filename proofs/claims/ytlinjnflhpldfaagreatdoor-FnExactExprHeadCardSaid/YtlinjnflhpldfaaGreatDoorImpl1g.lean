/- The program's orders. -/
import Derived.Test.YtlinjnflhpldfaaGreatDoorImpl1f
import Derived.Deep.RegionHeld3
namespace Go.Proofs.YtlinjnflhpldfaaGreatDoor
open Go.RowKit
set_option maxRecDepth 8000
set_option linter.unusedSimpArgs false
set_option linter.unusedVariables false
theorem fin_below {w w1 W : World} {p : Prop} (h : Below w.heap.size w w1) (k : Below w1.heap.size w1 W ∧ p) : Below w.heap.size w W := h.trans (k.1.mono h.size)
end Go.Proofs.YtlinjnflhpldfaaGreatDoor
