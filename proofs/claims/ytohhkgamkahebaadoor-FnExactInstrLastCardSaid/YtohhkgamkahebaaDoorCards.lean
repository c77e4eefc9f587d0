/-
  DERIVED. GIVEN WITH THE SEED: THE CARDS: each row of YtohhkgamkahebaaDoorRows.lean that lists a variable, with what it lists TIED to the program's text (the seventh form; the later family's looks); each row that meets fmt, with fmt's text TOLD by the authors' own Lean function (tested against real Go, not proved from fmt's source: count such statements apart). THE CARD IS WHAT COUNTS. Prove the row's statement (the work); the ties are given (YtohhkgamkahebaaDoorTie.lean); close each card by the builder's one call (the guide's Derived/Test/ToyasCard.lean, 'card_holds'). Laid BY PROGRAM, IN A SANDBOX (cutbox-door.mjs). By AI agents, Wed Nov 11 2026. No macro, syntax, notation, axiom, sorry.
-/
import Derived.Test.YtohhkgamkahebaaDoorRows
import GoSem.ClaimSeven
namespace Go.Proofs.YtohhkgamkahebaaDoor
namespace Rows

/-- THE TIED CARD OF 'laws.FnExactInstrValid'. -/
def fnExactInstrValidCard : Claim7 := { stood := { row := fnExactInstrValidRow, standIns := [], harness := (true, "d06e87c6ee5f43c0431a2e5a5d2eb35af388ea384ea6fce107aeb5d09d904c49"), looks := true }, kinds := [], alts := [], laidByText := true, laidKinds := [.data, .data, .data, .sentinel, .sentinel], laidTests := true, laidLooks := .later }
def FnExactInstrValidCardSaid : Prop := Claim7.holds Tryd.pinned (.plain (OpenSpec.ofChange fnExactInstrValidSpec)) fnExactInstrValidCard

/-- THE TIED CARD OF 'laws.FnExactInstrLast'. -/
def fnExactInstrLastCard : Claim7 := { stood := { row := fnExactInstrLastRow, standIns := [], harness := (true, "d06e87c6ee5f43c0431a2e5a5d2eb35af388ea384ea6fce107aeb5d09d904c49"), looks := true }, kinds := [], alts := [], laidByText := true, laidKinds := [.data, .data, .data, .sentinel, .sentinel], laidTests := true, laidLooks := .later }
def FnExactInstrLastCardSaid : Prop := Claim7.holds Tryd.pinned (.plain (OpenSpec.ofChange fnExactInstrLastSpec)) fnExactInstrLastCard

/-- THE SECOND FORM's CARD OF 'laws.FnExactInstrValid'. -/
def fnExactInstrValidUptoCard : Claim7 := { stood := { row := fnExactInstrValidUptoRow, standIns := [], harness := (true, "d06e87c6ee5f43c0431a2e5a5d2eb35af388ea384ea6fce107aeb5d09d904c49"), looks := true }, kinds := [], alts := [], laidByText := true, laidKinds := [.data, .data, .data, .sentinel, .sentinel], laidTests := true, laidLooks := .later }
def FnExactInstrValidUptoCardSaid : Prop := Claim7.holds Tryd.pinned (.plain (OpenSpec.upto fnExactInstrValidSpec)) fnExactInstrValidUptoCard

/-- THE SECOND FORM's CARD OF 'laws.FnExactInstrLast'. -/
def fnExactInstrLastUptoCard : Claim7 := { stood := { row := fnExactInstrLastUptoRow, standIns := [], harness := (true, "d06e87c6ee5f43c0431a2e5a5d2eb35af388ea384ea6fce107aeb5d09d904c49"), looks := true }, kinds := [], alts := [], laidByText := true, laidKinds := [.data, .data, .data, .sentinel, .sentinel], laidTests := true, laidLooks := .later }
def FnExactInstrLastUptoCardSaid : Prop := Claim7.holds Tryd.pinned (.plain (OpenSpec.upto fnExactInstrLastSpec)) fnExactInstrLastUptoCard
end Rows
end Go.Proofs.YtohhkgamkahebaaDoor
