/- The walks of the laws on FormValid, FormSize, FormDepth. -/
import Derived.Test.YtlinjnflhpldfaaGreatDoorImpl1e
import Derived.Test.YtlinjnflhpldfaaGreatDoorSpec1b
namespace Go.Proofs.YtlinjnflhpldfaaGreatDoor
open Go.RowKit
set_option maxRecDepth 8000
set_option linter.unusedSimpArgs false
set_option linter.unusedVariables false
theorem readPost_shape {B : Nat} {res : Option Tr} {e : Ending} {w' : World} (h : ReadPost B res e w') :
    ∃ a p n c x y z, e = .returned (.tuple #[.agg #[.string a, .slice p n c, .int .i64 x, .int .i64 y, .int .i64 z], .bool res.isSome]) := by
  match res, h with
  | none, h => exact ⟨_, _, _, _, _, _, _, h⟩
  | some t, ⟨p, n, c, h1, _⟩ => exact ⟨_, _, _, _, _, _, _, h1⟩
theorem parsePost_shape {B : Nat} {res : Option Tr} {e : Ending} {w' : World} (h : ParsePost B res e w') :
    ∃ a p n c, e = .returned (.tuple #[.agg #[.string a, .slice p n c], .bool res.isSome]) := by
  match res, h with
  | none, ⟨a, p, n, c, h1, _⟩ => exact ⟨_, _, _, _, h1⟩
  | some t, ⟨p, n, c, h1, _⟩ => exact ⟨_, _, _, _, h1⟩
end Go.Proofs.YtlinjnflhpldfaaGreatDoor
