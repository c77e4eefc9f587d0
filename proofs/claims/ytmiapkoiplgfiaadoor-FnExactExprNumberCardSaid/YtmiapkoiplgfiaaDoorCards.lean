/-
  DERIVED. GIVEN WITH THE SEED: THE CARDS: each row of YtmiapkoiplgfiaaDoorRows.lean that lists a variable, with what it lists TIED to the program's text (the seventh form; the later family's looks); each row that meets fmt, with fmt's text TOLD by the authors' own Lean function (tested against real Go, not proved from fmt's source: count such statements apart). THE CARD IS WHAT COUNTS. Prove the row's statement (the work); the ties are given (YtmiapkoiplgfiaaDoorTie.lean); close each card by the builder's one call (the guide's Derived/Test/ToyasCard.lean, 'card_holds'). Laid BY PROGRAM, IN A SANDBOX (cutbox-door.mjs). By AI agents, Wed Nov 11 2026. No macro, syntax, notation, axiom, sorry.
-/
import Derived.Test.YtmiapkoiplgfiaaDoorRows
import GoSem.ClaimSeven
namespace Go.Proofs.YtmiapkoiplgfiaaDoor
namespace Rows

/-- THE TIED CARD OF 'laws.FnExactExprNumber'. -/
def fnExactExprNumberCard : Claim7 := { stood := { row := fnExactExprNumberRow, standIns := [], harness := (true, "a4dc1988c72df0a57e99fd16a9f234860832ff36c7d16487b8a75e841d045954"), looks := true }, kinds := [], alts := [], laidByText := true, laidKinds := [.data, .data, .data, .sentinel, .sentinel], laidTests := true, laidLooks := .later }
def FnExactExprNumberCardSaid : Prop := Claim7.holds Tryd.pinned (.plain (OpenSpec.ofChange fnExactExprNumberSpec)) fnExactExprNumberCard

/-- THE SECOND FORM's CARD OF 'laws.FnExactExprNumber'. -/
def fnExactExprNumberUptoCard : Claim7 := { stood := { row := fnExactExprNumberUptoRow, standIns := [], harness := (true, "a4dc1988c72df0a57e99fd16a9f234860832ff36c7d16487b8a75e841d045954"), looks := true }, kinds := [], alts := [], laidByText := true, laidKinds := [.data, .data, .data, .sentinel, .sentinel], laidTests := true, laidLooks := .later }
def FnExactExprNumberUptoCardSaid : Prop := Claim7.holds Tryd.pinned (.plain (OpenSpec.upto fnExactExprNumberSpec)) fnExactExprNumberUptoCard
end Rows
end Go.Proofs.YtmiapkoiplgfiaaDoor
