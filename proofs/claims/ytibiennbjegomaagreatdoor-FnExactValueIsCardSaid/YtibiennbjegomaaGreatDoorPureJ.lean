/- The plain mathematics of chapter 4: shorts, values. -/
import Derived.Test.YtibiennbjegomaaGreatDoorPureR
namespace Go.Proofs.YtibiennbjegomaaGreatDoor
open Go.RowKit
set_option maxRecDepth 8000
set_option linter.unusedSimpArgs false
set_option linter.unusedVariables false
/-- The short of a number. -/
def shortZ (n : Int) : Int := (n + 500) % 1000 - 500
theorem shortZ_range (n : Int) : -500 ≤ shortZ n ∧ shortZ n ≤ 499 := by unfold shortZ; omega
/-- Is an expression a value? -/
def valB : Ex → Bool
  | .num _ => true
  | .func _ _ _ _ _ => true
  | .two .pair a b => valB a && valB b
  | _ => false
/-- Is a text a value? -/
def valOf (l : List UInt8) : Bool := match readCl l with | none => false | some x => valB x
theorem valOf_none {l : List UInt8} (h : readCl l = none) : valOf l = false := by simp [valOf, h]
theorem valOf_some {l : List UInt8} {x : Ex} (h : readCl l = some x) : valOf l = valB x := by simp [valOf, h]
/-- An expression that is written as what is read as it. -/
def good (x : Ex) : Prop := asEx (formOf x) = some x
theorem good_nm {s : Nm} (h : good (.name s)) : isNm s = true := by
  unfold good at h
  simp only [formOf, asEx, atomEx] at h
  cases hn : numOf s with
  | some n => simp [hn] at h
  | none =>
    simp only [hn] at h
    split at h
    · assumption
    · cases h
theorem good_num {n : Int} (h : good (.num n)) : isNm (Lib.itoa n) = false ∧ numOf (Lib.itoa n) = some n := by
  unfold good at h
  simp only [formOf, asEx, atomEx] at h
  cases hn : numOf (Lib.itoa n) with
  | some m =>
    simp only [hn, Option.some.injEq, Ex.num.injEq] at h
    subst h
    exact ⟨numOf_notNm hn, rfl⟩
  | none =>
    simp only [hn] at h
    split at h <;> cases h
theorem good_of {t : Tr} {x : Ex} (h : asEx t = some x) : good x := by unfold good; rw [formOf_eq _ _ h]; exact h
end Go.Proofs.YtibiennbjegomaaGreatDoor
