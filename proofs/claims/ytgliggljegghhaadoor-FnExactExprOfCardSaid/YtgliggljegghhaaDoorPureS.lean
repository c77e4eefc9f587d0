/- Both types of a type with a head. -/
import Derived.Test.YtgliggljegghhaaDoorB1
namespace Go.Proofs.YtgliggljegghhaaDoor
open Go.RowKit
set_option maxRecDepth 8000
def sidesTr (c : UInt8) : Tr → Option (Tr × Tr)
  | .list [x, a, b] => if atomOf x = [c] then some (a, b) else none
  | _ => none
theorem sidesTr_atom (c : UInt8) (a : List UInt8) : sidesTr c (.atom a) = none := rfl
theorem sidesTr_yes {c : UInt8} {x a b : Tr} (h : atomOf x = [c]) : sidesTr c (.list [x, a, b]) = some (a, b) := by simp [sidesTr, h]
theorem sidesTr_no {c : UInt8} {x a b : Tr} (h : ¬ atomOf x = [c]) : sidesTr c (.list [x, a, b]) = none := by simp [sidesTr, h]
end Go.Proofs.YtgliggljegghhaaDoor
