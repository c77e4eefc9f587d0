/-
  DERIVED. GIVEN WITH THE SEED: THE CARDS: each row of YtibiennbjegomaaGreatDoorRows.lean that lists a variable, with what it lists TIED to the program's text (the seventh form; the later family's looks); each row that meets fmt, with fmt's text TOLD by the authors' own Lean function (tested against real Go, not proved from fmt's source: count such statements apart). THE CARD IS WHAT COUNTS. Prove the row's statement (the work); the ties are given (YtibiennbjegomaaGreatDoorTie.lean); close each card by the builder's one call (the guide's Derived/Test/ToyasCard.lean, 'card_holds'). Laid BY PROGRAM, IN A SANDBOX (cutbox-door.mjs). By AI agents, Wed Nov 11 2026. No macro, syntax, notation, axiom, sorry.
-/
import Derived.Test.YtibiennbjegomaaGreatDoorRows
import GoSem.ClaimSeven
namespace Go.Proofs.YtibiennbjegomaaGreatDoor
namespace Rows

/-- THE TIED CARD OF 'laws.FnExactExprPlain'. -/
def fnExactExprPlainCard : Claim7 := { stood := { row := fnExactExprPlainRow, standIns := [], harness := (true, "bced4a80da8576756c8c7aee04f9e980f3d1b09a05c2b7f3b3fee0b9ac931fde"), looks := true }, kinds := [], alts := [], laidByText := true, laidKinds := [.data, .data, .data, .sentinel, .sentinel], laidTests := true, laidLooks := .later }
def FnExactExprPlainCardSaid : Prop := Claim7.holds Tryz.pinned (.plain (OpenSpec.ofChange fnExactExprPlainSpec)) fnExactExprPlainCard

/-- THE TIED CARD OF 'laws.FnExactExprAlike'. -/
def fnExactExprAlikeCard : Claim7 := { stood := { row := fnExactExprAlikeRow, standIns := [], harness := (true, "bced4a80da8576756c8c7aee04f9e980f3d1b09a05c2b7f3b3fee0b9ac931fde"), looks := true }, kinds := [], alts := [], laidByText := true, laidKinds := [.data, .data, .data, .sentinel, .sentinel], laidTests := true, laidLooks := .later }
def FnExactExprAlikeCardSaid : Prop := Claim7.holds Tryz.pinned (.plain (OpenSpec.ofChange fnExactExprAlikeSpec)) fnExactExprAlikeCard

/-- THE TIED CARD OF 'laws.FnExactExprPut'. -/
def fnExactExprPutCard : Claim7 := { stood := { row := fnExactExprPutRow, standIns := [], harness := (true, "bced4a80da8576756c8c7aee04f9e980f3d1b09a05c2b7f3b3fee0b9ac931fde"), looks := true }, kinds := [], alts := [], laidByText := true, laidKinds := [.data, .data, .data, .sentinel, .sentinel], laidTests := true, laidLooks := .later }
def FnExactExprPutCardSaid : Prop := Claim7.holds Tryz.pinned (.plain (OpenSpec.ofChange fnExactExprPutSpec)) fnExactExprPutCard

/-- THE TIED CARD OF 'laws.FnExactValueIs'. -/
def fnExactValueIsCard : Claim7 := { stood := { row := fnExactValueIsRow, standIns := [], harness := (true, "bced4a80da8576756c8c7aee04f9e980f3d1b09a05c2b7f3b3fee0b9ac931fde"), looks := true }, kinds := [], alts := [], laidByText := true, laidKinds := [.data, .data, .data, .sentinel, .sentinel], laidTests := true, laidLooks := .later }
def FnExactValueIsCardSaid : Prop := Claim7.holds Tryz.pinned (.plain (OpenSpec.ofChange fnExactValueIsSpec)) fnExactValueIsCard

/-- THE TIED CARD OF 'laws.FnExactValuePrint'. -/
def fnExactValuePrintCard : Claim7 := { stood := { row := fnExactValuePrintRow, standIns := [], harness := (true, "bced4a80da8576756c8c7aee04f9e980f3d1b09a05c2b7f3b3fee0b9ac931fde"), looks := true }, kinds := [], alts := [], laidByText := true, laidKinds := [.data, .data, .data, .sentinel, .sentinel, .sentinel, .sentinel], laidTests := true, laidLooks := .later }
def FnExactValuePrintCardSaid : Prop := Claim7.holds Tryz.pinned (.plain (OpenSpec.ofChange fnExactValuePrintSpec)) fnExactValuePrintCard

/-- THE TIED CARD OF 'laws.FnExactStep'. -/
def fnExactStepCard : Claim7 := { stood := { row := fnExactStepRow, standIns := [], harness := (true, "bced4a80da8576756c8c7aee04f9e980f3d1b09a05c2b7f3b3fee0b9ac931fde"), looks := true }, kinds := [], alts := [], laidByText := true, laidKinds := [.data, .data, .data, .sentinel, .sentinel], laidTests := true, laidLooks := .later }
def FnExactStepCardSaid : Prop := Claim7.holds Tryz.pinned (.plain (OpenSpec.ofChange fnExactStepSpec)) fnExactStepCard

/-- THE TIED CARD OF 'laws.FnExactStepMany'. -/
def fnExactStepManyCard : Claim7 := { stood := { row := fnExactStepManyRow, standIns := [], harness := (true, "bced4a80da8576756c8c7aee04f9e980f3d1b09a05c2b7f3b3fee0b9ac931fde"), looks := true }, kinds := [], alts := [], laidByText := true, laidKinds := [.data, .data, .data, .sentinel, .sentinel], laidTests := true, laidLooks := .later }
def FnExactStepManyCardSaid : Prop := Claim7.holds Tryz.pinned (.plain (OpenSpec.ofChange fnExactStepManySpec)) fnExactStepManyCard

/-- THE TIED CARD OF 'laws.FnExactEval'. -/
def fnExactEvalCard : Claim7 := { stood := { row := fnExactEvalRow, standIns := [], harness := (true, "bced4a80da8576756c8c7aee04f9e980f3d1b09a05c2b7f3b3fee0b9ac931fde"), looks := true }, kinds := [], alts := [], laidByText := true, laidKinds := [.data, .data, .data, .sentinel, .sentinel, .sentinel, .sentinel], laidTests := true, laidLooks := .later }
def FnExactEvalCardSaid : Prop := Claim7.holds Tryz.pinned (.plain (OpenSpec.ofChange fnExactEvalSpec)) fnExactEvalCard

/-- THE TIED CARD OF 'laws.FnExactEvalFuel'. -/
def fnExactEvalFuelCard : Claim7 := { stood := { row := fnExactEvalFuelRow, standIns := [], harness := (true, "bced4a80da8576756c8c7aee04f9e980f3d1b09a05c2b7f3b3fee0b9ac931fde"), looks := true }, kinds := [], alts := [], laidByText := true, laidKinds := [.data, .data, .data, .sentinel, .sentinel, .sentinel, .sentinel], laidTests := true, laidLooks := .later }
def FnExactEvalFuelCardSaid : Prop := Claim7.holds Tryz.pinned (.plain (OpenSpec.ofChange fnExactEvalFuelSpec)) fnExactEvalFuelCard

/-- THE SECOND FORM's CARD OF 'laws.FnExactExprPlain'. -/
def fnExactExprPlainUptoCard : Claim7 := { stood := { row := fnExactExprPlainUptoRow, standIns := [], harness := (true, "bced4a80da8576756c8c7aee04f9e980f3d1b09a05c2b7f3b3fee0b9ac931fde"), looks := true }, kinds := [], alts := [], laidByText := true, laidKinds := [.data, .data, .data, .sentinel, .sentinel], laidTests := true, laidLooks := .later }
def FnExactExprPlainUptoCardSaid : Prop := Claim7.holds Tryz.pinned (.plain (OpenSpec.upto fnExactExprPlainSpec)) fnExactExprPlainUptoCard

/-- THE SECOND FORM's CARD OF 'laws.FnExactExprAlike'. -/
def fnExactExprAlikeUptoCard : Claim7 := { stood := { row := fnExactExprAlikeUptoRow, standIns := [], harness := (true, "bced4a80da8576756c8c7aee04f9e980f3d1b09a05c2b7f3b3fee0b9ac931fde"), looks := true }, kinds := [], alts := [], laidByText := true, laidKinds := [.data, .data, .data, .sentinel, .sentinel], laidTests := true, laidLooks := .later }
def FnExactExprAlikeUptoCardSaid : Prop := Claim7.holds Tryz.pinned (.plain (OpenSpec.upto fnExactExprAlikeSpec)) fnExactExprAlikeUptoCard

/-- THE SECOND FORM's CARD OF 'laws.FnExactExprPut'. -/
def fnExactExprPutUptoCard : Claim7 := { stood := { row := fnExactExprPutUptoRow, standIns := [], harness := (true, "bced4a80da8576756c8c7aee04f9e980f3d1b09a05c2b7f3b3fee0b9ac931fde"), looks := true }, kinds := [], alts := [], laidByText := true, laidKinds := [.data, .data, .data, .sentinel, .sentinel], laidTests := true, laidLooks := .later }
def FnExactExprPutUptoCardSaid : Prop := Claim7.holds Tryz.pinned (.plain (OpenSpec.upto fnExactExprPutSpec)) fnExactExprPutUptoCard

/-- THE SECOND FORM's CARD OF 'laws.FnExactValueIs'. -/
def fnExactValueIsUptoCard : Claim7 := { stood := { row := fnExactValueIsUptoRow, standIns := [], harness := (true, "bced4a80da8576756c8c7aee04f9e980f3d1b09a05c2b7f3b3fee0b9ac931fde"), looks := true }, kinds := [], alts := [], laidByText := true, laidKinds := [.data, .data, .data, .sentinel, .sentinel], laidTests := true, laidLooks := .later }
def FnExactValueIsUptoCardSaid : Prop := Claim7.holds Tryz.pinned (.plain (OpenSpec.upto fnExactValueIsSpec)) fnExactValueIsUptoCard

/-- THE SECOND FORM's CARD OF 'laws.FnExactValuePrint'. -/
def fnExactValuePrintUptoCard : Claim7 := { stood := { row := fnExactValuePrintUptoRow, standIns := [], harness := (true, "bced4a80da8576756c8c7aee04f9e980f3d1b09a05c2b7f3b3fee0b9ac931fde"), looks := true }, kinds := [], alts := [], laidByText := true, laidKinds := [.data, .data, .data, .sentinel, .sentinel, .sentinel, .sentinel], laidTests := true, laidLooks := .later }
def FnExactValuePrintUptoCardSaid : Prop := Claim7.holds Tryz.pinned (.plain (OpenSpec.upto fnExactValuePrintSpec)) fnExactValuePrintUptoCard

/-- THE SECOND FORM's CARD OF 'laws.FnExactStep'. -/
def fnExactStepUptoCard : Claim7 := { stood := { row := fnExactStepUptoRow, standIns := [], harness := (true, "bced4a80da8576756c8c7aee04f9e980f3d1b09a05c2b7f3b3fee0b9ac931fde"), looks := true }, kinds := [], alts := [], laidByText := true, laidKinds := [.data, .data, .data, .sentinel, .sentinel], laidTests := true, laidLooks := .later }
def FnExactStepUptoCardSaid : Prop := Claim7.holds Tryz.pinned (.plain (OpenSpec.upto fnExactStepSpec)) fnExactStepUptoCard

/-- THE SECOND FORM's CARD OF 'laws.FnExactStepMany'. -/
def fnExactStepManyUptoCard : Claim7 := { stood := { row := fnExactStepManyUptoRow, standIns := [], harness := (true, "bced4a80da8576756c8c7aee04f9e980f3d1b09a05c2b7f3b3fee0b9ac931fde"), looks := true }, kinds := [], alts := [], laidByText := true, laidKinds := [.data, .data, .data, .sentinel, .sentinel], laidTests := true, laidLooks := .later }
def FnExactStepManyUptoCardSaid : Prop := Claim7.holds Tryz.pinned (.plain (OpenSpec.upto fnExactStepManySpec)) fnExactStepManyUptoCard

/-- THE SECOND FORM's CARD OF 'laws.FnExactEval'. -/
def fnExactEvalUptoCard : Claim7 := { stood := { row := fnExactEvalUptoRow, standIns := [], harness := (true, "bced4a80da8576756c8c7aee04f9e980f3d1b09a05c2b7f3b3fee0b9ac931fde"), looks := true }, kinds := [], alts := [], laidByText := true, laidKinds := [.data, .data, .data, .sentinel, .sentinel, .sentinel, .sentinel], laidTests := true, laidLooks := .later }
def FnExactEvalUptoCardSaid : Prop := Claim7.holds Tryz.pinned (.plain (OpenSpec.upto fnExactEvalSpec)) fnExactEvalUptoCard

/-- THE SECOND FORM's CARD OF 'laws.FnExactEvalFuel'. -/
def fnExactEvalFuelUptoCard : Claim7 := { stood := { row := fnExactEvalFuelUptoRow, standIns := [], harness := (true, "bced4a80da8576756c8c7aee04f9e980f3d1b09a05c2b7f3b3fee0b9ac931fde"), looks := true }, kinds := [], alts := [], laidByText := true, laidKinds := [.data, .data, .data, .sentinel, .sentinel, .sentinel, .sentinel], laidTests := true, laidLooks := .later }
def FnExactEvalFuelUptoCardSaid : Prop := Claim7.holds Tryz.pinned (.plain (OpenSpec.upto fnExactEvalFuelSpec)) fnExactEvalFuelUptoCard
end Rows
end Go.Proofs.YtibiennbjegomaaGreatDoor
