/- The reference model: the kids of a text. -/
import Derived.Test.YtfknoigbkleanaaGreatDoorImpl2v
import Derived.Test.YtfknoigbkleanaaGreatDoorSpec2h
namespace Go.Proofs.YtfknoigbkleanaaGreatDoor
open Go.RowKit
set_option maxRecDepth 8000
set_option linter.unusedSimpArgs false
set_option linter.unusedVariables false
theorem kidsTx_atom {l a : List UInt8} {x : Ex} (h : readEx l = some x) (hx : asEx (.atom a) = some x) : kidsTx l = some [] := by
  rw [kidsTx_some h]
  simp only [asEx, atomEx] at hx
  split at hx
  · simp only [Option.some.injEq] at hx; subst hx; rfl
  · split at hx
    · simp only [Option.some.injEq] at hx; subst hx; rfl
    · cases hx
end Go.Proofs.YtfknoigbkleanaaGreatDoor
