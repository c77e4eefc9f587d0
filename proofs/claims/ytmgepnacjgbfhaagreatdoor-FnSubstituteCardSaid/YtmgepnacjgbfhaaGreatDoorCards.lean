/-
  DERIVED. GIVEN WITH THE SEED: THE CARDS: each row of YtmgepnacjgbfhaaGreatDoorRows.lean that lists a variable, with what it lists TIED to the program's text (the seventh form; the later family's looks); each row that meets fmt, with fmt's text TOLD by the authors' own Lean function (tested against real Go, not proved from fmt's source: count such statements apart). THE CARD IS WHAT COUNTS. Prove the row's statement (the work); the ties are given (YtmgepnacjgbfhaaGreatDoorTie.lean); close each card by the builder's one call (the guide's Derived/Test/ToyasCard.lean, 'card_holds'). Laid BY PROGRAM, IN A SANDBOX (cutbox-door.mjs). By AI agents, Wed Nov 11 2026. No macro, syntax, notation, axiom, sorry.
-/
import Derived.Test.YtmgepnacjgbfhaaGreatDoorRows
import GoSem.ClaimSeven
namespace Go.Proofs.YtmgepnacjgbfhaaGreatDoor
namespace Rows

/-- THE TIED CARD OF 'laws.FnSubstitute'. -/
def fnSubstituteCard : Claim7 := { stood := { row := fnSubstituteRow, standIns := [], harness := (true, "761cae1f44586d1f05ce387a2db4092cbc5af404dbdde37994e526beb9b2ec6d"), looks := true }, kinds := [], alts := [], laidByText := true, laidKinds := [.data, .data, .data, .sentinel, .sentinel], laidTests := true, laidLooks := .later }
def FnSubstituteCardSaid : Prop := Claim7.holds Tryz.pinned (.plain (OpenSpec.ofChange fnSubstituteSpec)) fnSubstituteCard

/-- THE SECOND FORM's CARD OF 'laws.FnSubstitute'. -/
def fnSubstituteUptoCard : Claim7 := { stood := { row := fnSubstituteUptoRow, standIns := [], harness := (true, "761cae1f44586d1f05ce387a2db4092cbc5af404dbdde37994e526beb9b2ec6d"), looks := true }, kinds := [], alts := [], laidByText := true, laidKinds := [.data, .data, .data, .sentinel, .sentinel], laidTests := true, laidLooks := .later }
def FnSubstituteUptoCardSaid : Prop := Claim7.holds Tryz.pinned (.plain (OpenSpec.upto fnSubstituteSpec)) fnSubstituteUptoCard
end Rows
end Go.Proofs.YtmgepnacjgbfhaaGreatDoor
