/-
  DERIVED. GIVEN WITH THE SEED: THE CARDS: each row of YtjfjlfhckfoehaaGreatDoorRows.lean that lists a variable, with what it lists TIED to the program's text (the seventh form; the later family's looks); each row that meets fmt, with fmt's text TOLD by the authors' own Lean function (tested against real Go, not proved from fmt's source: count such statements apart). THE CARD IS WHAT COUNTS. Prove the row's statement (the work); the ties are given (YtjfjlfhckfoehaaGreatDoorTie.lean); close each card by the builder's one call (the guide's Derived/Test/ToyasCard.lean, 'card_holds'). Laid BY PROGRAM, IN A SANDBOX (cutbox-door.mjs). By AI agents, Wed Nov 11 2026. No macro, syntax, notation, axiom, sorry.
-/
import Derived.Test.YtjfjlfhckfoehaaGreatDoorRows
import GoSem.ClaimSeven
namespace Go.Proofs.YtjfjlfhckfoehaaGreatDoor
namespace Rows

/-- THE TIED CARD OF 'laws.FnOfType'. -/
def fnOfTypeCard : Claim7 := { stood := { row := fnOfTypeRow, standIns := [], harness := (true, "3aa0d068a4418b87761e6a5a423fff0747d21031ee7299986a9d072cdd6003f3"), looks := true }, kinds := [], alts := [], laidByText := true, laidKinds := [.data, .data, .data, .sentinel, .sentinel], laidTests := true, laidLooks := .later }
def FnOfTypeCardSaid : Prop := Claim7.holds Tryz.pinned (.plain (OpenSpec.ofChange fnOfTypeSpec)) fnOfTypeCard

/-- THE TIED CARD OF 'laws.FnExactExprPlain'. -/
def fnExactExprPlainCard : Claim7 := { stood := { row := fnExactExprPlainRow, standIns := [], harness := (true, "3aa0d068a4418b87761e6a5a423fff0747d21031ee7299986a9d072cdd6003f3"), looks := true }, kinds := [], alts := [], laidByText := true, laidKinds := [.data, .data, .data, .sentinel, .sentinel], laidTests := true, laidLooks := .later }
def FnExactExprPlainCardSaid : Prop := Claim7.holds Tryz.pinned (.plain (OpenSpec.ofChange fnExactExprPlainSpec)) fnExactExprPlainCard

/-- THE TIED CARD OF 'laws.FnExactExprAlike'. -/
def fnExactExprAlikeCard : Claim7 := { stood := { row := fnExactExprAlikeRow, standIns := [], harness := (true, "3aa0d068a4418b87761e6a5a423fff0747d21031ee7299986a9d072cdd6003f3"), looks := true }, kinds := [], alts := [], laidByText := true, laidKinds := [.data, .data, .data, .sentinel, .sentinel], laidTests := true, laidLooks := .later }
def FnExactExprAlikeCardSaid : Prop := Claim7.holds Tryz.pinned (.plain (OpenSpec.ofChange fnExactExprAlikeSpec)) fnExactExprAlikeCard

/-- THE TIED CARD OF 'laws.FnExactValuePrint'. -/
def fnExactValuePrintCard : Claim7 := { stood := { row := fnExactValuePrintRow, standIns := [], harness := (true, "3aa0d068a4418b87761e6a5a423fff0747d21031ee7299986a9d072cdd6003f3"), looks := true }, kinds := [], alts := [], laidByText := true, laidKinds := [.data, .data, .data, .sentinel, .sentinel, .sentinel, .sentinel], laidTests := true, laidLooks := .later }
def FnExactValuePrintCardSaid : Prop := Claim7.holds Tryz.pinned (.plain (OpenSpec.ofChange fnExactValuePrintSpec)) fnExactValuePrintCard

/-- THE TIED CARD OF 'laws.FnExactStep'. -/
def fnExactStepCard : Claim7 := { stood := { row := fnExactStepRow, standIns := [], harness := (true, "3aa0d068a4418b87761e6a5a423fff0747d21031ee7299986a9d072cdd6003f3"), looks := true }, kinds := [], alts := [], laidByText := true, laidKinds := [.data, .data, .data, .sentinel, .sentinel], laidTests := true, laidLooks := .later }
def FnExactStepCardSaid : Prop := Claim7.holds Tryz.pinned (.plain (OpenSpec.ofChange fnExactStepSpec)) fnExactStepCard

/-- THE TIED CARD OF 'laws.FnExactSimpleIs'. -/
def fnExactSimpleIsCard : Claim7 := { stood := { row := fnExactSimpleIsRow, standIns := [], harness := (true, "3aa0d068a4418b87761e6a5a423fff0747d21031ee7299986a9d072cdd6003f3"), looks := true }, kinds := [], alts := [], laidByText := true, laidKinds := [.data, .data, .data, .sentinel, .sentinel], laidTests := true, laidLooks := .later }
def FnExactSimpleIsCardSaid : Prop := Claim7.holds Tryz.pinned (.plain (OpenSpec.ofChange fnExactSimpleIsSpec)) fnExactSimpleIsCard

/-- THE TIED CARD OF 'laws.FnExactNormalIs'. -/
def fnExactNormalIsCard : Claim7 := { stood := { row := fnExactNormalIsRow, standIns := [], harness := (true, "3aa0d068a4418b87761e6a5a423fff0747d21031ee7299986a9d072cdd6003f3"), looks := true }, kinds := [], alts := [], laidByText := true, laidKinds := [.data, .data, .data, .sentinel, .sentinel], laidTests := true, laidLooks := .later }
def FnExactNormalIsCardSaid : Prop := Claim7.holds Tryz.pinned (.plain (OpenSpec.ofChange fnExactNormalIsSpec)) fnExactNormalIsCard

/-- THE TIED CARD OF 'laws.FnExactNormalOf'. -/
def fnExactNormalOfCard : Claim7 := { stood := { row := fnExactNormalOfRow, standIns := [], harness := (true, "3aa0d068a4418b87761e6a5a423fff0747d21031ee7299986a9d072cdd6003f3"), looks := true }, kinds := [], alts := [], laidByText := true, laidKinds := [.data, .data, .data, .sentinel, .sentinel], laidTests := true, laidLooks := .later }
def FnExactNormalOfCardSaid : Prop := Claim7.holds Tryz.pinned (.plain (OpenSpec.ofChange fnExactNormalOfSpec)) fnExactNormalOfCard

/-- THE TIED CARD OF 'laws.FnExactNormalLets'. -/
def fnExactNormalLetsCard : Claim7 := { stood := { row := fnExactNormalLetsRow, standIns := [], harness := (true, "3aa0d068a4418b87761e6a5a423fff0747d21031ee7299986a9d072cdd6003f3"), looks := true }, kinds := [], alts := [], laidByText := true, laidKinds := [.data, .data, .data, .sentinel, .sentinel], laidTests := true, laidLooks := .later }
def FnExactNormalLetsCardSaid : Prop := Claim7.holds Tryz.pinned (.plain (OpenSpec.ofChange fnExactNormalLetsSpec)) fnExactNormalLetsCard

/-- THE TIED CARD OF 'laws.FnExactNormalPath'. -/
def fnExactNormalPathCard : Claim7 := { stood := { row := fnExactNormalPathRow, standIns := [], harness := (true, "3aa0d068a4418b87761e6a5a423fff0747d21031ee7299986a9d072cdd6003f3"), looks := true }, kinds := [], alts := [], laidByText := true, laidKinds := [.data, .data, .data, .sentinel, .sentinel], laidTests := true, laidLooks := .later }
def FnExactNormalPathCardSaid : Prop := Claim7.holds Tryz.pinned (.plain (OpenSpec.ofChange fnExactNormalPathSpec)) fnExactNormalPathCard

/-- THE TIED CARD OF 'laws.FnExactNormalJoin'. -/
def fnExactNormalJoinCard : Claim7 := { stood := { row := fnExactNormalJoinRow, standIns := [], harness := (true, "3aa0d068a4418b87761e6a5a423fff0747d21031ee7299986a9d072cdd6003f3"), looks := true }, kinds := [], alts := [], laidByText := true, laidKinds := [.data, .data, .data, .sentinel, .sentinel], laidTests := true, laidLooks := .later }
def FnExactNormalJoinCardSaid : Prop := Claim7.holds Tryz.pinned (.plain (OpenSpec.ofChange fnExactNormalJoinSpec)) fnExactNormalJoinCard

/-- THE SECOND FORM's CARD OF 'laws.FnOfType'. -/
def fnOfTypeUptoCard : Claim7 := { stood := { row := fnOfTypeUptoRow, standIns := [], harness := (true, "3aa0d068a4418b87761e6a5a423fff0747d21031ee7299986a9d072cdd6003f3"), looks := true }, kinds := [], alts := [], laidByText := true, laidKinds := [.data, .data, .data, .sentinel, .sentinel], laidTests := true, laidLooks := .later }
def FnOfTypeUptoCardSaid : Prop := Claim7.holds Tryz.pinned (.plain (OpenSpec.upto fnOfTypeSpec)) fnOfTypeUptoCard

/-- THE SECOND FORM's CARD OF 'laws.FnExactExprPlain'. -/
def fnExactExprPlainUptoCard : Claim7 := { stood := { row := fnExactExprPlainUptoRow, standIns := [], harness := (true, "3aa0d068a4418b87761e6a5a423fff0747d21031ee7299986a9d072cdd6003f3"), looks := true }, kinds := [], alts := [], laidByText := true, laidKinds := [.data, .data, .data, .sentinel, .sentinel], laidTests := true, laidLooks := .later }
def FnExactExprPlainUptoCardSaid : Prop := Claim7.holds Tryz.pinned (.plain (OpenSpec.upto fnExactExprPlainSpec)) fnExactExprPlainUptoCard

/-- THE SECOND FORM's CARD OF 'laws.FnExactExprAlike'. -/
def fnExactExprAlikeUptoCard : Claim7 := { stood := { row := fnExactExprAlikeUptoRow, standIns := [], harness := (true, "3aa0d068a4418b87761e6a5a423fff0747d21031ee7299986a9d072cdd6003f3"), looks := true }, kinds := [], alts := [], laidByText := true, laidKinds := [.data, .data, .data, .sentinel, .sentinel], laidTests := true, laidLooks := .later }
def FnExactExprAlikeUptoCardSaid : Prop := Claim7.holds Tryz.pinned (.plain (OpenSpec.upto fnExactExprAlikeSpec)) fnExactExprAlikeUptoCard

/-- THE SECOND FORM's CARD OF 'laws.FnExactValuePrint'. -/
def fnExactValuePrintUptoCard : Claim7 := { stood := { row := fnExactValuePrintUptoRow, standIns := [], harness := (true, "3aa0d068a4418b87761e6a5a423fff0747d21031ee7299986a9d072cdd6003f3"), looks := true }, kinds := [], alts := [], laidByText := true, laidKinds := [.data, .data, .data, .sentinel, .sentinel, .sentinel, .sentinel], laidTests := true, laidLooks := .later }
def FnExactValuePrintUptoCardSaid : Prop := Claim7.holds Tryz.pinned (.plain (OpenSpec.upto fnExactValuePrintSpec)) fnExactValuePrintUptoCard

/-- THE SECOND FORM's CARD OF 'laws.FnExactStep'. -/
def fnExactStepUptoCard : Claim7 := { stood := { row := fnExactStepUptoRow, standIns := [], harness := (true, "3aa0d068a4418b87761e6a5a423fff0747d21031ee7299986a9d072cdd6003f3"), looks := true }, kinds := [], alts := [], laidByText := true, laidKinds := [.data, .data, .data, .sentinel, .sentinel], laidTests := true, laidLooks := .later }
def FnExactStepUptoCardSaid : Prop := Claim7.holds Tryz.pinned (.plain (OpenSpec.upto fnExactStepSpec)) fnExactStepUptoCard

/-- THE SECOND FORM's CARD OF 'laws.FnExactSimpleIs'. -/
def fnExactSimpleIsUptoCard : Claim7 := { stood := { row := fnExactSimpleIsUptoRow, standIns := [], harness := (true, "3aa0d068a4418b87761e6a5a423fff0747d21031ee7299986a9d072cdd6003f3"), looks := true }, kinds := [], alts := [], laidByText := true, laidKinds := [.data, .data, .data, .sentinel, .sentinel], laidTests := true, laidLooks := .later }
def FnExactSimpleIsUptoCardSaid : Prop := Claim7.holds Tryz.pinned (.plain (OpenSpec.upto fnExactSimpleIsSpec)) fnExactSimpleIsUptoCard

/-- THE SECOND FORM's CARD OF 'laws.FnExactNormalIs'. -/
def fnExactNormalIsUptoCard : Claim7 := { stood := { row := fnExactNormalIsUptoRow, standIns := [], harness := (true, "3aa0d068a4418b87761e6a5a423fff0747d21031ee7299986a9d072cdd6003f3"), looks := true }, kinds := [], alts := [], laidByText := true, laidKinds := [.data, .data, .data, .sentinel, .sentinel], laidTests := true, laidLooks := .later }
def FnExactNormalIsUptoCardSaid : Prop := Claim7.holds Tryz.pinned (.plain (OpenSpec.upto fnExactNormalIsSpec)) fnExactNormalIsUptoCard

/-- THE SECOND FORM's CARD OF 'laws.FnExactNormalOf'. -/
def fnExactNormalOfUptoCard : Claim7 := { stood := { row := fnExactNormalOfUptoRow, standIns := [], harness := (true, "3aa0d068a4418b87761e6a5a423fff0747d21031ee7299986a9d072cdd6003f3"), looks := true }, kinds := [], alts := [], laidByText := true, laidKinds := [.data, .data, .data, .sentinel, .sentinel], laidTests := true, laidLooks := .later }
def FnExactNormalOfUptoCardSaid : Prop := Claim7.holds Tryz.pinned (.plain (OpenSpec.upto fnExactNormalOfSpec)) fnExactNormalOfUptoCard

/-- THE SECOND FORM's CARD OF 'laws.FnExactNormalLets'. -/
def fnExactNormalLetsUptoCard : Claim7 := { stood := { row := fnExactNormalLetsUptoRow, standIns := [], harness := (true, "3aa0d068a4418b87761e6a5a423fff0747d21031ee7299986a9d072cdd6003f3"), looks := true }, kinds := [], alts := [], laidByText := true, laidKinds := [.data, .data, .data, .sentinel, .sentinel], laidTests := true, laidLooks := .later }
def FnExactNormalLetsUptoCardSaid : Prop := Claim7.holds Tryz.pinned (.plain (OpenSpec.upto fnExactNormalLetsSpec)) fnExactNormalLetsUptoCard

/-- THE SECOND FORM's CARD OF 'laws.FnExactNormalPath'. -/
def fnExactNormalPathUptoCard : Claim7 := { stood := { row := fnExactNormalPathUptoRow, standIns := [], harness := (true, "3aa0d068a4418b87761e6a5a423fff0747d21031ee7299986a9d072cdd6003f3"), looks := true }, kinds := [], alts := [], laidByText := true, laidKinds := [.data, .data, .data, .sentinel, .sentinel], laidTests := true, laidLooks := .later }
def FnExactNormalPathUptoCardSaid : Prop := Claim7.holds Tryz.pinned (.plain (OpenSpec.upto fnExactNormalPathSpec)) fnExactNormalPathUptoCard

/-- THE SECOND FORM's CARD OF 'laws.FnExactNormalJoin'. -/
def fnExactNormalJoinUptoCard : Claim7 := { stood := { row := fnExactNormalJoinUptoRow, standIns := [], harness := (true, "3aa0d068a4418b87761e6a5a423fff0747d21031ee7299986a9d072cdd6003f3"), looks := true }, kinds := [], alts := [], laidByText := true, laidKinds := [.data, .data, .data, .sentinel, .sentinel], laidTests := true, laidLooks := .later }
def FnExactNormalJoinUptoCardSaid : Prop := Claim7.holds Tryz.pinned (.plain (OpenSpec.upto fnExactNormalJoinSpec)) fnExactNormalJoinUptoCard
end Rows
end Go.Proofs.YtjfjlfhckfoehaaGreatDoor
