/-
  DERIVED. GIVEN WITH THE SEED: THE CARDS: each row of YtgljnmbbmjmkjaaGreatDoorRows.lean that lists a variable, with what it lists TIED to the program's text (the seventh form; the later family's looks); each row that meets fmt, with fmt's text TOLD by the authors' own Lean function (tested against real Go, not proved from fmt's source: count such statements apart). THE CARD IS WHAT COUNTS. Prove the row's statement (the work); the ties are given (YtgljnmbbmjmkjaaGreatDoorTie.lean); close each card by the builder's one call (the guide's Derived/Test/ToyasCard.lean, 'card_holds'). Laid BY PROGRAM, IN A SANDBOX (cutbox-door.mjs). By AI agents, Wed Nov 11 2026. No macro, syntax, notation, axiom, sorry.
-/
import Derived.Test.YtgljnmbbmjmkjaaGreatDoorRows
import GoSem.ClaimSeven
namespace Go.Proofs.YtgljnmbbmjmkjaaGreatDoor
namespace Rows

/-- THE TIED CARD OF 'laws.FnPlain'. -/
def fnPlainCard : Claim7 := { stood := { row := fnPlainRow, standIns := [], harness := (true, "19e93c3d5956876610ac6a870bb8786e712d7c895a78804f9beb4e2f3be4d2ca"), looks := true }, kinds := [], alts := [], laidByText := true, laidKinds := [.data, .data, .data, .sentinel, .sentinel], laidTests := true, laidLooks := .later }
def FnPlainCardSaid : Prop := Claim7.holds Tryz.pinned (.plain (OpenSpec.ofChange fnPlainSpec)) fnPlainCard

/-- THE TIED CARD OF 'laws.FnPut'. -/
def fnPutCard : Claim7 := { stood := { row := fnPutRow, standIns := [], harness := (true, "19e93c3d5956876610ac6a870bb8786e712d7c895a78804f9beb4e2f3be4d2ca"), looks := true }, kinds := [], alts := [], laidByText := true, laidKinds := [.data, .data, .data, .sentinel, .sentinel], laidTests := true, laidLooks := .later }
def FnPutCardSaid : Prop := Claim7.holds Tryz.pinned (.plain (OpenSpec.ofChange fnPutSpec)) fnPutCard

/-- THE TIED CARD OF 'laws.FnSubstitute'. -/
def fnSubstituteCard : Claim7 := { stood := { row := fnSubstituteRow, standIns := [], harness := (true, "19e93c3d5956876610ac6a870bb8786e712d7c895a78804f9beb4e2f3be4d2ca"), looks := true }, kinds := [], alts := [], laidByText := true, laidKinds := [.data, .data, .data, .sentinel, .sentinel], laidTests := true, laidLooks := .later }
def FnSubstituteCardSaid : Prop := Claim7.holds Tryz.pinned (.plain (OpenSpec.ofChange fnSubstituteSpec)) fnSubstituteCard

/-- THE TIED CARD OF 'laws.FnExactExprPlain'. -/
def fnExactExprPlainCard : Claim7 := { stood := { row := fnExactExprPlainRow, standIns := [], harness := (true, "19e93c3d5956876610ac6a870bb8786e712d7c895a78804f9beb4e2f3be4d2ca"), looks := true }, kinds := [], alts := [], laidByText := true, laidKinds := [.data, .data, .data, .sentinel, .sentinel], laidTests := true, laidLooks := .later }
def FnExactExprPlainCardSaid : Prop := Claim7.holds Tryz.pinned (.plain (OpenSpec.ofChange fnExactExprPlainSpec)) fnExactExprPlainCard

/-- THE TIED CARD OF 'laws.FnExactExprAlike'. -/
def fnExactExprAlikeCard : Claim7 := { stood := { row := fnExactExprAlikeRow, standIns := [], harness := (true, "19e93c3d5956876610ac6a870bb8786e712d7c895a78804f9beb4e2f3be4d2ca"), looks := true }, kinds := [], alts := [], laidByText := true, laidKinds := [.data, .data, .data, .sentinel, .sentinel], laidTests := true, laidLooks := .later }
def FnExactExprAlikeCardSaid : Prop := Claim7.holds Tryz.pinned (.plain (OpenSpec.ofChange fnExactExprAlikeSpec)) fnExactExprAlikeCard

/-- THE TIED CARD OF 'laws.FnExactExprType'. -/
def fnExactExprTypeCard : Claim7 := { stood := { row := fnExactExprTypeRow, standIns := [], harness := (true, "19e93c3d5956876610ac6a870bb8786e712d7c895a78804f9beb4e2f3be4d2ca"), looks := true }, kinds := [], alts := [], laidByText := true, laidKinds := [.data, .data, .data, .sentinel, .sentinel], laidTests := true, laidLooks := .later }
def FnExactExprTypeCardSaid : Prop := Claim7.holds Tryz.pinned (.plain (OpenSpec.ofChange fnExactExprTypeSpec)) fnExactExprTypeCard

/-- THE TIED CARD OF 'laws.FnExactExprTyped'. -/
def fnExactExprTypedCard : Claim7 := { stood := { row := fnExactExprTypedRow, standIns := [], harness := (true, "19e93c3d5956876610ac6a870bb8786e712d7c895a78804f9beb4e2f3be4d2ca"), looks := true }, kinds := [], alts := [], laidByText := true, laidKinds := [.data, .data, .data, .sentinel, .sentinel], laidTests := true, laidLooks := .later }
def FnExactExprTypedCardSaid : Prop := Claim7.holds Tryz.pinned (.plain (OpenSpec.ofChange fnExactExprTypedSpec)) fnExactExprTypedCard

/-- THE TIED CARD OF 'laws.FnExactExprFault'. -/
def fnExactExprFaultCard : Claim7 := { stood := { row := fnExactExprFaultRow, standIns := [], harness := (true, "19e93c3d5956876610ac6a870bb8786e712d7c895a78804f9beb4e2f3be4d2ca"), looks := true }, kinds := [], alts := [], laidByText := true, laidKinds := [.data, .data, .data, .sentinel, .sentinel], laidTests := true, laidLooks := .later }
def FnExactExprFaultCardSaid : Prop := Claim7.holds Tryz.pinned (.plain (OpenSpec.ofChange fnExactExprFaultSpec)) fnExactExprFaultCard

/-- THE SECOND FORM's CARD OF 'laws.FnPlain'. -/
def fnPlainUptoCard : Claim7 := { stood := { row := fnPlainUptoRow, standIns := [], harness := (true, "19e93c3d5956876610ac6a870bb8786e712d7c895a78804f9beb4e2f3be4d2ca"), looks := true }, kinds := [], alts := [], laidByText := true, laidKinds := [.data, .data, .data, .sentinel, .sentinel], laidTests := true, laidLooks := .later }
def FnPlainUptoCardSaid : Prop := Claim7.holds Tryz.pinned (.plain (OpenSpec.upto fnPlainSpec)) fnPlainUptoCard

/-- THE SECOND FORM's CARD OF 'laws.FnPut'. -/
def fnPutUptoCard : Claim7 := { stood := { row := fnPutUptoRow, standIns := [], harness := (true, "19e93c3d5956876610ac6a870bb8786e712d7c895a78804f9beb4e2f3be4d2ca"), looks := true }, kinds := [], alts := [], laidByText := true, laidKinds := [.data, .data, .data, .sentinel, .sentinel], laidTests := true, laidLooks := .later }
def FnPutUptoCardSaid : Prop := Claim7.holds Tryz.pinned (.plain (OpenSpec.upto fnPutSpec)) fnPutUptoCard

/-- THE SECOND FORM's CARD OF 'laws.FnSubstitute'. -/
def fnSubstituteUptoCard : Claim7 := { stood := { row := fnSubstituteUptoRow, standIns := [], harness := (true, "19e93c3d5956876610ac6a870bb8786e712d7c895a78804f9beb4e2f3be4d2ca"), looks := true }, kinds := [], alts := [], laidByText := true, laidKinds := [.data, .data, .data, .sentinel, .sentinel], laidTests := true, laidLooks := .later }
def FnSubstituteUptoCardSaid : Prop := Claim7.holds Tryz.pinned (.plain (OpenSpec.upto fnSubstituteSpec)) fnSubstituteUptoCard

/-- THE SECOND FORM's CARD OF 'laws.FnExactExprPlain'. -/
def fnExactExprPlainUptoCard : Claim7 := { stood := { row := fnExactExprPlainUptoRow, standIns := [], harness := (true, "19e93c3d5956876610ac6a870bb8786e712d7c895a78804f9beb4e2f3be4d2ca"), looks := true }, kinds := [], alts := [], laidByText := true, laidKinds := [.data, .data, .data, .sentinel, .sentinel], laidTests := true, laidLooks := .later }
def FnExactExprPlainUptoCardSaid : Prop := Claim7.holds Tryz.pinned (.plain (OpenSpec.upto fnExactExprPlainSpec)) fnExactExprPlainUptoCard

/-- THE SECOND FORM's CARD OF 'laws.FnExactExprAlike'. -/
def fnExactExprAlikeUptoCard : Claim7 := { stood := { row := fnExactExprAlikeUptoRow, standIns := [], harness := (true, "19e93c3d5956876610ac6a870bb8786e712d7c895a78804f9beb4e2f3be4d2ca"), looks := true }, kinds := [], alts := [], laidByText := true, laidKinds := [.data, .data, .data, .sentinel, .sentinel], laidTests := true, laidLooks := .later }
def FnExactExprAlikeUptoCardSaid : Prop := Claim7.holds Tryz.pinned (.plain (OpenSpec.upto fnExactExprAlikeSpec)) fnExactExprAlikeUptoCard

/-- THE SECOND FORM's CARD OF 'laws.FnExactExprType'. -/
def fnExactExprTypeUptoCard : Claim7 := { stood := { row := fnExactExprTypeUptoRow, standIns := [], harness := (true, "19e93c3d5956876610ac6a870bb8786e712d7c895a78804f9beb4e2f3be4d2ca"), looks := true }, kinds := [], alts := [], laidByText := true, laidKinds := [.data, .data, .data, .sentinel, .sentinel], laidTests := true, laidLooks := .later }
def FnExactExprTypeUptoCardSaid : Prop := Claim7.holds Tryz.pinned (.plain (OpenSpec.upto fnExactExprTypeSpec)) fnExactExprTypeUptoCard

/-- THE SECOND FORM's CARD OF 'laws.FnExactExprTyped'. -/
def fnExactExprTypedUptoCard : Claim7 := { stood := { row := fnExactExprTypedUptoRow, standIns := [], harness := (true, "19e93c3d5956876610ac6a870bb8786e712d7c895a78804f9beb4e2f3be4d2ca"), looks := true }, kinds := [], alts := [], laidByText := true, laidKinds := [.data, .data, .data, .sentinel, .sentinel], laidTests := true, laidLooks := .later }
def FnExactExprTypedUptoCardSaid : Prop := Claim7.holds Tryz.pinned (.plain (OpenSpec.upto fnExactExprTypedSpec)) fnExactExprTypedUptoCard

/-- THE SECOND FORM's CARD OF 'laws.FnExactExprFault'. -/
def fnExactExprFaultUptoCard : Claim7 := { stood := { row := fnExactExprFaultUptoRow, standIns := [], harness := (true, "19e93c3d5956876610ac6a870bb8786e712d7c895a78804f9beb4e2f3be4d2ca"), looks := true }, kinds := [], alts := [], laidByText := true, laidKinds := [.data, .data, .data, .sentinel, .sentinel], laidTests := true, laidLooks := .later }
def FnExactExprFaultUptoCardSaid : Prop := Claim7.holds Tryz.pinned (.plain (OpenSpec.upto fnExactExprFaultSpec)) fnExactExprFaultUptoCard
end Rows
end Go.Proofs.YtgljnmbbmjmkjaaGreatDoor
