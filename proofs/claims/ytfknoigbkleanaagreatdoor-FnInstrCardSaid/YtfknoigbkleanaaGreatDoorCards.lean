/-
  DERIVED. GIVEN WITH THE SEED: THE CARDS: each row of YtfknoigbkleanaaGreatDoorRows.lean that lists a variable, with what it lists TIED to the program's text (the seventh form; the later family's looks); each row that meets fmt, with fmt's text TOLD by the authors' own Lean function (tested against real Go, not proved from fmt's source: count such statements apart). THE CARD IS WHAT COUNTS. Prove the row's statement (the work); the ties are given (YtfknoigbkleanaaGreatDoorTie.lean); close each card by the builder's one call (the guide's Derived/Test/ToyasCard.lean, 'card_holds'). Laid BY PROGRAM, IN A SANDBOX (cutbox-door.mjs). By AI agents, Wed Nov 11 2026. No macro, syntax, notation, axiom, sorry.
-/
import Derived.Test.YtfknoigbkleanaaGreatDoorRows
import GoSem.ClaimSeven
namespace Go.Proofs.YtfknoigbkleanaaGreatDoor
namespace Rows

/-- THE TIED CARD OF 'laws.FnExprType'. -/
def fnExprTypeCard : Claim7 := { stood := { row := fnExprTypeRow, standIns := [], harness := (true, "7b5259cdce9e847da38d5f4f2401be2f8655766323a79fed6ba8767e23264430"), looks := true }, kinds := [], alts := [], laidByText := true, laidKinds := [.data, .data, .data, .sentinel, .sentinel], laidTests := true, laidLooks := .later }
def FnExprTypeCardSaid : Prop := Claim7.holds Tryz.pinned (.plain (OpenSpec.ofChange fnExprTypeSpec)) fnExprTypeCard

/-- THE TIED CARD OF 'laws.FnTyped'. -/
def fnTypedCard : Claim7 := { stood := { row := fnTypedRow, standIns := [], harness := (true, "7b5259cdce9e847da38d5f4f2401be2f8655766323a79fed6ba8767e23264430"), looks := true }, kinds := [], alts := [], laidByText := true, laidKinds := [.data, .data, .data, .sentinel, .sentinel], laidTests := true, laidLooks := .later }
def FnTypedCardSaid : Prop := Claim7.holds Tryz.pinned (.plain (OpenSpec.ofChange fnTypedSpec)) fnTypedCard

/-- THE TIED CARD OF 'laws.FnFault'. -/
def fnFaultCard : Claim7 := { stood := { row := fnFaultRow, standIns := [], harness := (true, "7b5259cdce9e847da38d5f4f2401be2f8655766323a79fed6ba8767e23264430"), looks := true }, kinds := [], alts := [], laidByText := true, laidKinds := [.data, .data, .data, .sentinel, .sentinel], laidTests := true, laidLooks := .later }
def FnFaultCardSaid : Prop := Claim7.holds Tryz.pinned (.plain (OpenSpec.ofChange fnFaultSpec)) fnFaultCard

/-- THE TIED CARD OF 'laws.FnOfType'. -/
def fnOfTypeCard : Claim7 := { stood := { row := fnOfTypeRow, standIns := [], harness := (true, "7b5259cdce9e847da38d5f4f2401be2f8655766323a79fed6ba8767e23264430"), looks := true }, kinds := [], alts := [], laidByText := true, laidKinds := [.data, .data, .data, .sentinel, .sentinel], laidTests := true, laidLooks := .later }
def FnOfTypeCardSaid : Prop := Claim7.holds Tryz.pinned (.plain (OpenSpec.ofChange fnOfTypeSpec)) fnOfTypeCard

/-- THE TIED CARD OF 'laws.FnInstr'. -/
def fnInstrCard : Claim7 := { stood := { row := fnInstrRow, standIns := [], harness := (true, "7b5259cdce9e847da38d5f4f2401be2f8655766323a79fed6ba8767e23264430"), looks := true }, kinds := [], alts := [], laidByText := true, laidKinds := [.data, .data, .data, .sentinel, .sentinel], laidTests := true, laidLooks := .later }
def FnInstrCardSaid : Prop := Claim7.holds Tryz.pinned (.plain (OpenSpec.ofChange fnInstrSpec)) fnInstrCard

/-- THE TIED CARD OF 'laws.FnInstrLast'. -/
def fnInstrLastCard : Claim7 := { stood := { row := fnInstrLastRow, standIns := [], harness := (true, "7b5259cdce9e847da38d5f4f2401be2f8655766323a79fed6ba8767e23264430"), looks := true }, kinds := [], alts := [], laidByText := true, laidKinds := [.data, .data, .data, .sentinel, .sentinel], laidTests := true, laidLooks := .later }
def FnInstrLastCardSaid : Prop := Claim7.holds Tryz.pinned (.plain (OpenSpec.ofChange fnInstrLastSpec)) fnInstrLastCard

/-- THE TIED CARD OF 'laws.FnExactExprPut'. -/
def fnExactExprPutCard : Claim7 := { stood := { row := fnExactExprPutRow, standIns := [], harness := (true, "7b5259cdce9e847da38d5f4f2401be2f8655766323a79fed6ba8767e23264430"), looks := true }, kinds := [], alts := [], laidByText := true, laidKinds := [.data, .data, .data, .sentinel, .sentinel], laidTests := true, laidLooks := .later }
def FnExactExprPutCardSaid : Prop := Claim7.holds Tryz.pinned (.plain (OpenSpec.ofChange fnExactExprPutSpec)) fnExactExprPutCard

/-- THE SECOND FORM's CARD OF 'laws.FnExprType'. -/
def fnExprTypeUptoCard : Claim7 := { stood := { row := fnExprTypeUptoRow, standIns := [], harness := (true, "7b5259cdce9e847da38d5f4f2401be2f8655766323a79fed6ba8767e23264430"), looks := true }, kinds := [], alts := [], laidByText := true, laidKinds := [.data, .data, .data, .sentinel, .sentinel], laidTests := true, laidLooks := .later }
def FnExprTypeUptoCardSaid : Prop := Claim7.holds Tryz.pinned (.plain (OpenSpec.upto fnExprTypeSpec)) fnExprTypeUptoCard

/-- THE SECOND FORM's CARD OF 'laws.FnTyped'. -/
def fnTypedUptoCard : Claim7 := { stood := { row := fnTypedUptoRow, standIns := [], harness := (true, "7b5259cdce9e847da38d5f4f2401be2f8655766323a79fed6ba8767e23264430"), looks := true }, kinds := [], alts := [], laidByText := true, laidKinds := [.data, .data, .data, .sentinel, .sentinel], laidTests := true, laidLooks := .later }
def FnTypedUptoCardSaid : Prop := Claim7.holds Tryz.pinned (.plain (OpenSpec.upto fnTypedSpec)) fnTypedUptoCard

/-- THE SECOND FORM's CARD OF 'laws.FnFault'. -/
def fnFaultUptoCard : Claim7 := { stood := { row := fnFaultUptoRow, standIns := [], harness := (true, "7b5259cdce9e847da38d5f4f2401be2f8655766323a79fed6ba8767e23264430"), looks := true }, kinds := [], alts := [], laidByText := true, laidKinds := [.data, .data, .data, .sentinel, .sentinel], laidTests := true, laidLooks := .later }
def FnFaultUptoCardSaid : Prop := Claim7.holds Tryz.pinned (.plain (OpenSpec.upto fnFaultSpec)) fnFaultUptoCard

/-- THE SECOND FORM's CARD OF 'laws.FnOfType'. -/
def fnOfTypeUptoCard : Claim7 := { stood := { row := fnOfTypeUptoRow, standIns := [], harness := (true, "7b5259cdce9e847da38d5f4f2401be2f8655766323a79fed6ba8767e23264430"), looks := true }, kinds := [], alts := [], laidByText := true, laidKinds := [.data, .data, .data, .sentinel, .sentinel], laidTests := true, laidLooks := .later }
def FnOfTypeUptoCardSaid : Prop := Claim7.holds Tryz.pinned (.plain (OpenSpec.upto fnOfTypeSpec)) fnOfTypeUptoCard

/-- THE SECOND FORM's CARD OF 'laws.FnInstr'. -/
def fnInstrUptoCard : Claim7 := { stood := { row := fnInstrUptoRow, standIns := [], harness := (true, "7b5259cdce9e847da38d5f4f2401be2f8655766323a79fed6ba8767e23264430"), looks := true }, kinds := [], alts := [], laidByText := true, laidKinds := [.data, .data, .data, .sentinel, .sentinel], laidTests := true, laidLooks := .later }
def FnInstrUptoCardSaid : Prop := Claim7.holds Tryz.pinned (.plain (OpenSpec.upto fnInstrSpec)) fnInstrUptoCard

/-- THE SECOND FORM's CARD OF 'laws.FnInstrLast'. -/
def fnInstrLastUptoCard : Claim7 := { stood := { row := fnInstrLastUptoRow, standIns := [], harness := (true, "7b5259cdce9e847da38d5f4f2401be2f8655766323a79fed6ba8767e23264430"), looks := true }, kinds := [], alts := [], laidByText := true, laidKinds := [.data, .data, .data, .sentinel, .sentinel], laidTests := true, laidLooks := .later }
def FnInstrLastUptoCardSaid : Prop := Claim7.holds Tryz.pinned (.plain (OpenSpec.upto fnInstrLastSpec)) fnInstrLastUptoCard

/-- THE SECOND FORM's CARD OF 'laws.FnExactExprPut'. -/
def fnExactExprPutUptoCard : Claim7 := { stood := { row := fnExactExprPutUptoRow, standIns := [], harness := (true, "7b5259cdce9e847da38d5f4f2401be2f8655766323a79fed6ba8767e23264430"), looks := true }, kinds := [], alts := [], laidByText := true, laidKinds := [.data, .data, .data, .sentinel, .sentinel], laidTests := true, laidLooks := .later }
def FnExactExprPutUptoCardSaid : Prop := Claim7.holds Tryz.pinned (.plain (OpenSpec.upto fnExactExprPutSpec)) fnExactExprPutUptoCard
end Rows
end Go.Proofs.YtfknoigbkleanaaGreatDoor
