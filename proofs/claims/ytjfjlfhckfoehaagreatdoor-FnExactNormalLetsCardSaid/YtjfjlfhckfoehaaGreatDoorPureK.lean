/- Shapes of results. -/
import Derived.Test.YtjfjlfhckfoehaaGreatDoorSpec2h
namespace Go.Proofs.YtjfjlfhckfoehaaGreatDoor
open Go.RowKit
set_option maxRecDepth 8000
theorem shape_i (n : Int) : ∃ x0, ∀ e : Ending, e = .returned (.int .i64 n) → e = .returned (.int .i64 x0) := ⟨_, fun _ h => h⟩
theorem shape_b (b : Bool) : ∃ x0, ∀ e : Ending, e = .returned (.bool b) → e = .returned (.bool x0) := ⟨_, fun _ h => h⟩
end Go.Proofs.YtjfjlfhckfoehaaGreatDoor
