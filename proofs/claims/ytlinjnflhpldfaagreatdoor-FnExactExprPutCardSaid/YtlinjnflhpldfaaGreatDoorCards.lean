/-
  DERIVED. GIVEN WITH THE SEED: THE CARDS: each row of YtlinjnflhpldfaaGreatDoorRows.lean that lists a variable, with what it lists TIED to the program's text (the seventh form; the later family's looks); each row that meets fmt, with fmt's text TOLD by the authors' own Lean function (tested against real Go, not proved from fmt's source: count such statements apart). THE CARD IS WHAT COUNTS. Prove the row's statement (the work); the ties are given (YtlinjnflhpldfaaGreatDoorTie.lean); close each card by the builder's one call (the guide's Derived/Test/ToyasCard.lean, 'card_holds'). Laid BY PROGRAM, IN A SANDBOX (cutbox-door.mjs). By AI agents, Wed Nov 11 2026. No macro, syntax, notation, axiom, sorry.
-/
import Derived.Test.YtlinjnflhpldfaaGreatDoorRows
import GoSem.ClaimSeven
namespace Go.Proofs.YtlinjnflhpldfaaGreatDoor
namespace Rows

/-- THE TIED CARD OF 'laws.FnExactExprValid'. -/
def fnExactExprValidCard : Claim7 := { stood := { row := fnExactExprValidRow, standIns := [], harness := (true, "58a335ec284b1a1d4405a24cd6b8d73c9dfec05d4026e03a1d74797d1d504c41"), looks := true }, kinds := [], alts := [], laidByText := true, laidKinds := [.data, .data, .data, .sentinel, .sentinel], laidTests := true, laidLooks := .later }
def FnExactExprValidCardSaid : Prop := Claim7.holds Tryz.pinned (.plain (OpenSpec.ofChange fnExactExprValidSpec)) fnExactExprValidCard

/-- THE TIED CARD OF 'laws.FnExactExprFree'. -/
def fnExactExprFreeCard : Claim7 := { stood := { row := fnExactExprFreeRow, standIns := [], harness := (true, "58a335ec284b1a1d4405a24cd6b8d73c9dfec05d4026e03a1d74797d1d504c41"), looks := true }, kinds := [], alts := [], laidByText := true, laidKinds := [.data, .data, .data, .sentinel, .sentinel], laidTests := true, laidLooks := .later }
def FnExactExprFreeCardSaid : Prop := Claim7.holds Tryz.pinned (.plain (OpenSpec.ofChange fnExactExprFreeSpec)) fnExactExprFreeCard

/-- THE TIED CARD OF 'laws.FnExactExprClosed'. -/
def fnExactExprClosedCard : Claim7 := { stood := { row := fnExactExprClosedRow, standIns := [], harness := (true, "58a335ec284b1a1d4405a24cd6b8d73c9dfec05d4026e03a1d74797d1d504c41"), looks := true }, kinds := [], alts := [], laidByText := true, laidKinds := [.data, .data, .data, .sentinel, .sentinel], laidTests := true, laidLooks := .later }
def FnExactExprClosedCardSaid : Prop := Claim7.holds Tryz.pinned (.plain (OpenSpec.ofChange fnExactExprClosedSpec)) fnExactExprClosedCard

/-- THE TIED CARD OF 'laws.FnExactExprPlain'. -/
def fnExactExprPlainCard : Claim7 := { stood := { row := fnExactExprPlainRow, standIns := [], harness := (true, "58a335ec284b1a1d4405a24cd6b8d73c9dfec05d4026e03a1d74797d1d504c41"), looks := true }, kinds := [], alts := [], laidByText := true, laidKinds := [.data, .data, .data, .sentinel, .sentinel], laidTests := true, laidLooks := .later }
def FnExactExprPlainCardSaid : Prop := Claim7.holds Tryz.pinned (.plain (OpenSpec.ofChange fnExactExprPlainSpec)) fnExactExprPlainCard

/-- THE TIED CARD OF 'laws.FnExactExprAlike'. -/
def fnExactExprAlikeCard : Claim7 := { stood := { row := fnExactExprAlikeRow, standIns := [], harness := (true, "58a335ec284b1a1d4405a24cd6b8d73c9dfec05d4026e03a1d74797d1d504c41"), looks := true }, kinds := [], alts := [], laidByText := true, laidKinds := [.data, .data, .data, .sentinel, .sentinel], laidTests := true, laidLooks := .later }
def FnExactExprAlikeCardSaid : Prop := Claim7.holds Tryz.pinned (.plain (OpenSpec.ofChange fnExactExprAlikeSpec)) fnExactExprAlikeCard

/-- THE TIED CARD OF 'laws.FnExactExprPut'. -/
def fnExactExprPutCard : Claim7 := { stood := { row := fnExactExprPutRow, standIns := [], harness := (true, "58a335ec284b1a1d4405a24cd6b8d73c9dfec05d4026e03a1d74797d1d504c41"), looks := true }, kinds := [], alts := [], laidByText := true, laidKinds := [.data, .data, .data, .sentinel, .sentinel], laidTests := true, laidLooks := .later }
def FnExactExprPutCardSaid : Prop := Claim7.holds Tryz.pinned (.plain (OpenSpec.ofChange fnExactExprPutSpec)) fnExactExprPutCard

/-- THE TIED CARD OF 'laws.FnExactExprCount'. -/
def fnExactExprCountCard : Claim7 := { stood := { row := fnExactExprCountRow, standIns := [], harness := (true, "58a335ec284b1a1d4405a24cd6b8d73c9dfec05d4026e03a1d74797d1d504c41"), looks := true }, kinds := [], alts := [], laidByText := true, laidKinds := [.data, .data, .data, .sentinel, .sentinel], laidTests := true, laidLooks := .later }
def FnExactExprCountCardSaid : Prop := Claim7.holds Tryz.pinned (.plain (OpenSpec.ofChange fnExactExprCountSpec)) fnExactExprCountCard

/-- THE TIED CARD OF 'laws.FnExactExprHead'. -/
def fnExactExprHeadCard : Claim7 := { stood := { row := fnExactExprHeadRow, standIns := [], harness := (true, "58a335ec284b1a1d4405a24cd6b8d73c9dfec05d4026e03a1d74797d1d504c41"), looks := true }, kinds := [], alts := [], laidByText := true, laidKinds := [.data, .data, .data, .sentinel, .sentinel], laidTests := true, laidLooks := .later }
def FnExactExprHeadCardSaid : Prop := Claim7.holds Tryz.pinned (.plain (OpenSpec.ofChange fnExactExprHeadSpec)) fnExactExprHeadCard

/-- THE TIED CARD OF 'laws.FnExactExprKids'. -/
def fnExactExprKidsCard : Claim7 := { stood := { row := fnExactExprKidsRow, standIns := [], harness := (true, "58a335ec284b1a1d4405a24cd6b8d73c9dfec05d4026e03a1d74797d1d504c41"), looks := true }, kinds := [], alts := [], laidByText := true, laidKinds := [.data, .data, .data, .sentinel, .sentinel], laidTests := true, laidLooks := .later }
def FnExactExprKidsCardSaid : Prop := Claim7.holds Tryz.pinned (.plain (OpenSpec.ofChange fnExactExprKidsSpec)) fnExactExprKidsCard

/-- THE SECOND FORM's CARD OF 'laws.FnExactExprValid'. -/
def fnExactExprValidUptoCard : Claim7 := { stood := { row := fnExactExprValidUptoRow, standIns := [], harness := (true, "58a335ec284b1a1d4405a24cd6b8d73c9dfec05d4026e03a1d74797d1d504c41"), looks := true }, kinds := [], alts := [], laidByText := true, laidKinds := [.data, .data, .data, .sentinel, .sentinel], laidTests := true, laidLooks := .later }
def FnExactExprValidUptoCardSaid : Prop := Claim7.holds Tryz.pinned (.plain (OpenSpec.upto fnExactExprValidSpec)) fnExactExprValidUptoCard

/-- THE SECOND FORM's CARD OF 'laws.FnExactExprFree'. -/
def fnExactExprFreeUptoCard : Claim7 := { stood := { row := fnExactExprFreeUptoRow, standIns := [], harness := (true, "58a335ec284b1a1d4405a24cd6b8d73c9dfec05d4026e03a1d74797d1d504c41"), looks := true }, kinds := [], alts := [], laidByText := true, laidKinds := [.data, .data, .data, .sentinel, .sentinel], laidTests := true, laidLooks := .later }
def FnExactExprFreeUptoCardSaid : Prop := Claim7.holds Tryz.pinned (.plain (OpenSpec.upto fnExactExprFreeSpec)) fnExactExprFreeUptoCard

/-- THE SECOND FORM's CARD OF 'laws.FnExactExprClosed'. -/
def fnExactExprClosedUptoCard : Claim7 := { stood := { row := fnExactExprClosedUptoRow, standIns := [], harness := (true, "58a335ec284b1a1d4405a24cd6b8d73c9dfec05d4026e03a1d74797d1d504c41"), looks := true }, kinds := [], alts := [], laidByText := true, laidKinds := [.data, .data, .data, .sentinel, .sentinel], laidTests := true, laidLooks := .later }
def FnExactExprClosedUptoCardSaid : Prop := Claim7.holds Tryz.pinned (.plain (OpenSpec.upto fnExactExprClosedSpec)) fnExactExprClosedUptoCard

/-- THE SECOND FORM's CARD OF 'laws.FnExactExprPlain'. -/
def fnExactExprPlainUptoCard : Claim7 := { stood := { row := fnExactExprPlainUptoRow, standIns := [], harness := (true, "58a335ec284b1a1d4405a24cd6b8d73c9dfec05d4026e03a1d74797d1d504c41"), looks := true }, kinds := [], alts := [], laidByText := true, laidKinds := [.data, .data, .data, .sentinel, .sentinel], laidTests := true, laidLooks := .later }
def FnExactExprPlainUptoCardSaid : Prop := Claim7.holds Tryz.pinned (.plain (OpenSpec.upto fnExactExprPlainSpec)) fnExactExprPlainUptoCard

/-- THE SECOND FORM's CARD OF 'laws.FnExactExprAlike'. -/
def fnExactExprAlikeUptoCard : Claim7 := { stood := { row := fnExactExprAlikeUptoRow, standIns := [], harness := (true, "58a335ec284b1a1d4405a24cd6b8d73c9dfec05d4026e03a1d74797d1d504c41"), looks := true }, kinds := [], alts := [], laidByText := true, laidKinds := [.data, .data, .data, .sentinel, .sentinel], laidTests := true, laidLooks := .later }
def FnExactExprAlikeUptoCardSaid : Prop := Claim7.holds Tryz.pinned (.plain (OpenSpec.upto fnExactExprAlikeSpec)) fnExactExprAlikeUptoCard

/-- THE SECOND FORM's CARD OF 'laws.FnExactExprPut'. -/
def fnExactExprPutUptoCard : Claim7 := { stood := { row := fnExactExprPutUptoRow, standIns := [], harness := (true, "58a335ec284b1a1d4405a24cd6b8d73c9dfec05d4026e03a1d74797d1d504c41"), looks := true }, kinds := [], alts := [], laidByText := true, laidKinds := [.data, .data, .data, .sentinel, .sentinel], laidTests := true, laidLooks := .later }
def FnExactExprPutUptoCardSaid : Prop := Claim7.holds Tryz.pinned (.plain (OpenSpec.upto fnExactExprPutSpec)) fnExactExprPutUptoCard

/-- THE SECOND FORM's CARD OF 'laws.FnExactExprCount'. -/
def fnExactExprCountUptoCard : Claim7 := { stood := { row := fnExactExprCountUptoRow, standIns := [], harness := (true, "58a335ec284b1a1d4405a24cd6b8d73c9dfec05d4026e03a1d74797d1d504c41"), looks := true }, kinds := [], alts := [], laidByText := true, laidKinds := [.data, .data, .data, .sentinel, .sentinel], laidTests := true, laidLooks := .later }
def FnExactExprCountUptoCardSaid : Prop := Claim7.holds Tryz.pinned (.plain (OpenSpec.upto fnExactExprCountSpec)) fnExactExprCountUptoCard

/-- THE SECOND FORM's CARD OF 'laws.FnExactExprHead'. -/
def fnExactExprHeadUptoCard : Claim7 := { stood := { row := fnExactExprHeadUptoRow, standIns := [], harness := (true, "58a335ec284b1a1d4405a24cd6b8d73c9dfec05d4026e03a1d74797d1d504c41"), looks := true }, kinds := [], alts := [], laidByText := true, laidKinds := [.data, .data, .data, .sentinel, .sentinel], laidTests := true, laidLooks := .later }
def FnExactExprHeadUptoCardSaid : Prop := Claim7.holds Tryz.pinned (.plain (OpenSpec.upto fnExactExprHeadSpec)) fnExactExprHeadUptoCard

/-- THE SECOND FORM's CARD OF 'laws.FnExactExprKids'. -/
def fnExactExprKidsUptoCard : Claim7 := { stood := { row := fnExactExprKidsUptoRow, standIns := [], harness := (true, "58a335ec284b1a1d4405a24cd6b8d73c9dfec05d4026e03a1d74797d1d504c41"), looks := true }, kinds := [], alts := [], laidByText := true, laidKinds := [.data, .data, .data, .sentinel, .sentinel], laidTests := true, laidLooks := .later }
def FnExactExprKidsUptoCardSaid : Prop := Claim7.holds Tryz.pinned (.plain (OpenSpec.upto fnExactExprKidsSpec)) fnExactExprKidsUptoCard
end Rows
end Go.Proofs.YtlinjnflhpldfaaGreatDoor
