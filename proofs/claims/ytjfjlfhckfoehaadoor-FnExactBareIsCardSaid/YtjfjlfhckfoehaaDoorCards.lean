/-
  DERIVED. GIVEN WITH THE SEED: THE CARDS: each row of YtjfjlfhckfoehaaDoorRows.lean that lists a variable, with what it lists TIED to the program's text (the seventh form; the later family's looks); each row that meets fmt, with fmt's text TOLD by the authors' own Lean function (tested against real Go, not proved from fmt's source: count such statements apart). THE CARD IS WHAT COUNTS. Prove the row's statement (the work); the ties are given (YtjfjlfhckfoehaaDoorTie.lean); close each card by the builder's one call (the guide's Derived/Test/ToyasCard.lean, 'card_holds'). Laid BY PROGRAM, IN A SANDBOX (cutbox-door.mjs). By AI agents, Wed Nov 11 2026. No macro, syntax, notation, axiom, sorry.
-/
import Derived.Test.YtjfjlfhckfoehaaDoorRows
import GoSem.ClaimSeven
namespace Go.Proofs.YtjfjlfhckfoehaaDoor
namespace Rows

/-- THE TIED CARD OF 'laws.FnExactBareIs'. -/
def fnExactBareIsCard : Claim7 := { stood := { row := fnExactBareIsRow, standIns := [], harness := (true, "ac21234645ca35a6683019e7518efbd9188737e71549b07f890ea56e14c7afd6"), looks := true }, kinds := [], alts := [], laidByText := true, laidKinds := [.data, .data, .data, .sentinel, .sentinel], laidTests := true, laidLooks := .later }
def FnExactBareIsCardSaid : Prop := Claim7.holds Tryd.pinned (.plain (OpenSpec.ofChange fnExactBareIsSpec)) fnExactBareIsCard

/-- THE SECOND FORM's CARD OF 'laws.FnExactBareIs'. -/
def fnExactBareIsUptoCard : Claim7 := { stood := { row := fnExactBareIsUptoRow, standIns := [], harness := (true, "ac21234645ca35a6683019e7518efbd9188737e71549b07f890ea56e14c7afd6"), looks := true }, kinds := [], alts := [], laidByText := true, laidKinds := [.data, .data, .data, .sentinel, .sentinel], laidTests := true, laidLooks := .later }
def FnExactBareIsUptoCardSaid : Prop := Claim7.holds Tryd.pinned (.plain (OpenSpec.upto fnExactBareIsSpec)) fnExactBareIsUptoCard
end Rows
end Go.Proofs.YtjfjlfhckfoehaaDoor
