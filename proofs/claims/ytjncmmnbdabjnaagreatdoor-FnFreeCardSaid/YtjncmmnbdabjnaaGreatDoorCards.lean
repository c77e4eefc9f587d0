/-
  DERIVED. GIVEN WITH THE SEED: THE CARDS: each row of YtjncmmnbdabjnaaGreatDoorRows.lean that lists a variable, with what it lists TIED to the program's text (the seventh form; the later family's looks); each row that meets fmt, with fmt's text TOLD by the authors' own Lean function (tested against real Go, not proved from fmt's source: count such statements apart). THE CARD IS WHAT COUNTS. Prove the row's statement (the work); the ties are given (YtjncmmnbdabjnaaGreatDoorTie.lean); close each card by the builder's one call (the guide's Derived/Test/ToyasCard.lean, 'card_holds'). Laid BY PROGRAM, IN A SANDBOX (cutbox-door.mjs). By AI agents, Wed Nov 11 2026. No macro, syntax, notation, axiom, sorry.
-/
import Derived.Test.YtjncmmnbdabjnaaGreatDoorRows
import GoSem.ClaimSeven
namespace Go.Proofs.YtjncmmnbdabjnaaGreatDoor
namespace Rows

/-- THE TIED CARD OF 'laws.FnLook'. -/
def fnLookCard : Claim7 := { stood := { row := fnLookRow, standIns := [], harness := (true, "de2fd70155932d2dee2244582fd637d05d3fc2217a7f8c15dd97b6cd6ce07865"), looks := true }, kinds := [], alts := [], laidByText := true, laidKinds := [.data, .data, .data, .sentinel, .sentinel], laidTests := true, laidLooks := .later }
def FnLookCardSaid : Prop := Claim7.holds Tryz.pinned (.plain (OpenSpec.ofChange fnLookSpec)) fnLookCard

/-- THE TIED CARD OF 'laws.FnMany'. -/
def fnManyCard : Claim7 := { stood := { row := fnManyRow, standIns := [], harness := (true, "de2fd70155932d2dee2244582fd637d05d3fc2217a7f8c15dd97b6cd6ce07865"), looks := true }, kinds := [], alts := [], laidByText := true, laidKinds := [.data, .data, .data, .sentinel, .sentinel], laidTests := true, laidLooks := .later }
def FnManyCardSaid : Prop := Claim7.holds Tryz.pinned (.plain (OpenSpec.ofChange fnManySpec)) fnManyCard

/-- THE TIED CARD OF 'laws.FnTyped'. -/
def fnTypedCard : Claim7 := { stood := { row := fnTypedRow, standIns := [], harness := (true, "de2fd70155932d2dee2244582fd637d05d3fc2217a7f8c15dd97b6cd6ce07865"), looks := true }, kinds := [], alts := [], laidByText := true, laidKinds := [.data, .data, .data, .sentinel, .sentinel], laidTests := true, laidLooks := .later }
def FnTypedCardSaid : Prop := Claim7.holds Tryz.pinned (.plain (OpenSpec.ofChange fnTypedSpec)) fnTypedCard

/-- THE TIED CARD OF 'laws.FnFault'. -/
def fnFaultCard : Claim7 := { stood := { row := fnFaultRow, standIns := [], harness := (true, "de2fd70155932d2dee2244582fd637d05d3fc2217a7f8c15dd97b6cd6ce07865"), looks := true }, kinds := [], alts := [], laidByText := true, laidKinds := [.data, .data, .data, .sentinel, .sentinel], laidTests := true, laidLooks := .later }
def FnFaultCardSaid : Prop := Claim7.holds Tryz.pinned (.plain (OpenSpec.ofChange fnFaultSpec)) fnFaultCard

/-- THE TIED CARD OF 'laws.FnFree'. -/
def fnFreeCard : Claim7 := { stood := { row := fnFreeRow, standIns := [], harness := (true, "de2fd70155932d2dee2244582fd637d05d3fc2217a7f8c15dd97b6cd6ce07865"), looks := true }, kinds := [], alts := [], laidByText := true, laidKinds := [.data, .data, .data, .sentinel, .sentinel], laidTests := true, laidLooks := .later }
def FnFreeCardSaid : Prop := Claim7.holds Tryz.pinned (.plain (OpenSpec.ofChange fnFreeSpec)) fnFreeCard

/-- THE TIED CARD OF 'laws.FnExprType'. -/
def fnExprTypeCard : Claim7 := { stood := { row := fnExprTypeRow, standIns := [], harness := (true, "de2fd70155932d2dee2244582fd637d05d3fc2217a7f8c15dd97b6cd6ce07865"), looks := true }, kinds := [], alts := [], laidByText := true, laidKinds := [.data, .data, .data, .sentinel, .sentinel], laidTests := true, laidLooks := .later }
def FnExprTypeCardSaid : Prop := Claim7.holds Tryz.pinned (.plain (OpenSpec.ofChange fnExprTypeSpec)) fnExprTypeCard

/-- THE SECOND FORM's CARD OF 'laws.FnLook'. -/
def fnLookUptoCard : Claim7 := { stood := { row := fnLookUptoRow, standIns := [], harness := (true, "de2fd70155932d2dee2244582fd637d05d3fc2217a7f8c15dd97b6cd6ce07865"), looks := true }, kinds := [], alts := [], laidByText := true, laidKinds := [.data, .data, .data, .sentinel, .sentinel], laidTests := true, laidLooks := .later }
def FnLookUptoCardSaid : Prop := Claim7.holds Tryz.pinned (.plain (OpenSpec.upto fnLookSpec)) fnLookUptoCard

/-- THE SECOND FORM's CARD OF 'laws.FnMany'. -/
def fnManyUptoCard : Claim7 := { stood := { row := fnManyUptoRow, standIns := [], harness := (true, "de2fd70155932d2dee2244582fd637d05d3fc2217a7f8c15dd97b6cd6ce07865"), looks := true }, kinds := [], alts := [], laidByText := true, laidKinds := [.data, .data, .data, .sentinel, .sentinel], laidTests := true, laidLooks := .later }
def FnManyUptoCardSaid : Prop := Claim7.holds Tryz.pinned (.plain (OpenSpec.upto fnManySpec)) fnManyUptoCard

/-- THE SECOND FORM's CARD OF 'laws.FnTyped'. -/
def fnTypedUptoCard : Claim7 := { stood := { row := fnTypedUptoRow, standIns := [], harness := (true, "de2fd70155932d2dee2244582fd637d05d3fc2217a7f8c15dd97b6cd6ce07865"), looks := true }, kinds := [], alts := [], laidByText := true, laidKinds := [.data, .data, .data, .sentinel, .sentinel], laidTests := true, laidLooks := .later }
def FnTypedUptoCardSaid : Prop := Claim7.holds Tryz.pinned (.plain (OpenSpec.upto fnTypedSpec)) fnTypedUptoCard

/-- THE SECOND FORM's CARD OF 'laws.FnFault'. -/
def fnFaultUptoCard : Claim7 := { stood := { row := fnFaultUptoRow, standIns := [], harness := (true, "de2fd70155932d2dee2244582fd637d05d3fc2217a7f8c15dd97b6cd6ce07865"), looks := true }, kinds := [], alts := [], laidByText := true, laidKinds := [.data, .data, .data, .sentinel, .sentinel], laidTests := true, laidLooks := .later }
def FnFaultUptoCardSaid : Prop := Claim7.holds Tryz.pinned (.plain (OpenSpec.upto fnFaultSpec)) fnFaultUptoCard

/-- THE SECOND FORM's CARD OF 'laws.FnFree'. -/
def fnFreeUptoCard : Claim7 := { stood := { row := fnFreeUptoRow, standIns := [], harness := (true, "de2fd70155932d2dee2244582fd637d05d3fc2217a7f8c15dd97b6cd6ce07865"), looks := true }, kinds := [], alts := [], laidByText := true, laidKinds := [.data, .data, .data, .sentinel, .sentinel], laidTests := true, laidLooks := .later }
def FnFreeUptoCardSaid : Prop := Claim7.holds Tryz.pinned (.plain (OpenSpec.upto fnFreeSpec)) fnFreeUptoCard

/-- THE SECOND FORM's CARD OF 'laws.FnExprType'. -/
def fnExprTypeUptoCard : Claim7 := { stood := { row := fnExprTypeUptoRow, standIns := [], harness := (true, "de2fd70155932d2dee2244582fd637d05d3fc2217a7f8c15dd97b6cd6ce07865"), looks := true }, kinds := [], alts := [], laidByText := true, laidKinds := [.data, .data, .data, .sentinel, .sentinel], laidTests := true, laidLooks := .later }
def FnExprTypeUptoCardSaid : Prop := Claim7.holds Tryz.pinned (.plain (OpenSpec.upto fnExprTypeSpec)) fnExprTypeUptoCard
end Rows
end Go.Proofs.YtjncmmnbdabjnaaGreatDoor
