/-
  DERIVED. GIVEN WITH THE SEED: THE CARDS: each row of YtibiennbjegomaaDoorRows.lean that lists a variable, with what it lists TIED to the program's text (the seventh form; the later family's looks); each row that meets fmt, with fmt's text TOLD by the authors' own Lean function (tested against real Go, not proved from fmt's source: count such statements apart). THE CARD IS WHAT COUNTS. Prove the row's statement (the work); the ties are given (YtibiennbjegomaaDoorTie.lean); close each card by the builder's one call (the guide's Derived/Test/ToyasCard.lean, 'card_holds'). Laid BY PROGRAM, IN A SANDBOX (cutbox-door.mjs). By AI agents, Wed Nov 11 2026. No macro, syntax, notation, axiom, sorry.
-/
import Derived.Test.YtibiennbjegomaaDoorRows
import GoSem.ClaimSeven
namespace Go.Proofs.YtibiennbjegomaaDoor
namespace Rows

/-- THE TIED CARD OF 'laws.FnExactExprOf'. -/
def fnExactExprOfCard : Claim7 := { stood := { row := fnExactExprOfRow, standIns := [], harness := (true, "701b02a90845e6ded3aaa8ac745d80092462b3f45ed848aaa3c7a47afdc2ff79"), looks := true }, kinds := [], alts := [], laidByText := true, laidKinds := [.data, .data, .data], laidTests := true, laidLooks := .later }
def FnExactExprOfCardSaid : Prop := Claim7.holds Tryd.pinned (.plain (OpenSpec.ofChange fnExactExprOfSpec)) fnExactExprOfCard

/-- THE SECOND FORM's CARD OF 'laws.FnExactExprOf'. -/
def fnExactExprOfUptoCard : Claim7 := { stood := { row := fnExactExprOfUptoRow, standIns := [], harness := (true, "701b02a90845e6ded3aaa8ac745d80092462b3f45ed848aaa3c7a47afdc2ff79"), looks := true }, kinds := [], alts := [], laidByText := true, laidKinds := [.data, .data, .data], laidTests := true, laidLooks := .later }
def FnExactExprOfUptoCardSaid : Prop := Claim7.holds Tryd.pinned (.plain (OpenSpec.upto fnExactExprOfSpec)) fnExactExprOfUptoCard
end Rows
end Go.Proofs.YtibiennbjegomaaDoor
