/- Shapes of results. -/
import Derived.Test.YtgliggljegghhaaGreatDoorB1
namespace Go.Proofs.YtgliggljegghhaaGreatDoor
theorem shape_i3 (n : Int) : ∃ x0, ∀ e : Ending, e = .returned (.int .i64 n) → e = .returned (.int .i64 x0) := ⟨n, fun _ h => h⟩
theorem shape_b3 (b : Bool) : ∃ x0, ∀ e : Ending, e = .returned (.bool b) → e = .returned (.bool x0) := ⟨b, fun _ h => h⟩
end Go.Proofs.YtgliggljegghhaaGreatDoor
