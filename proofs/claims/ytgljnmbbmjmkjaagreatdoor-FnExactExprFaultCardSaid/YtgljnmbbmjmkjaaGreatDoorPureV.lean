/- The first fault of a text, the plain mathematics. -/
import Derived.Test.YtgljnmbbmjmkjaaGreatDoorPureT
import Derived.Test.YtgljnmbbmjmkjaaGreatDoorI2p
namespace Go.Proofs.YtgljnmbbmjmkjaaGreatDoor
open Go.RowKit
set_option maxRecDepth 8000
set_option linter.unusedSimpArgs false
set_option linter.unusedVariables false
/-- The text of the first fault of the closed expression that is a text. -/
def faOf (l : List UInt8) : Option Nm :=
  match readCl l with
  | none => none
  | some x => match tyR [] x with
    | .ok _ => none
    | .error f => some (formOf f).text
theorem faOf_none {l : List UInt8} (h : readCl l = none) : faOf l = none := by simp [faOf, h]
theorem faOf_ok {l : List UInt8} {x : Ex} {t : Tr} (h : readCl l = some x) (ht : tyR [] x = .ok t) : faOf l = none := by simp [faOf, h, ht]
theorem faOf_bad {l : List UInt8} {x f : Ex} (h : readCl l = some x) (ht : tyR [] x = .error f) : faOf l = some (formOf f).text := by simp [faOf, h, ht]
theorem readCl_both {l : List UInt8} {x : Ex} (h : readCl l = some x) : readEx l = some x ∧ freeP x = [] := by
  unfold readCl at h
  simp only [Option.filter_eq_some_iff] at h
  exact ⟨h.1, by simpa using h.2⟩
end Go.Proofs.YtgljnmbbmjmkjaaGreatDoor
