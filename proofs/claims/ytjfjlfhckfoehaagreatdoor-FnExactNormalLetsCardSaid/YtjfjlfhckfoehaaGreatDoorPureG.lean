/- Expressions that are written as what is read as them. -/
import Derived.Test.YtjfjlfhckfoehaaGreatDoorPureT
namespace Go.Proofs.YtjfjlfhckfoehaaGreatDoor
open Go.RowKit
set_option maxRecDepth 8000
set_option linter.unusedSimpArgs false
set_option linter.unusedVariables false
theorem good_two (o : Op2) (p q : Ex) : asEx (formOf (.two o p q)) = some (.two o p q) ↔ asEx (formOf p) = some p ∧ asEx (formOf q) = some q := by
  have h1 : op2N o ≠ kLet := by cases o <;> decide
  have h2 : op2N o ≠ kFun := by cases o <;> decide
  simp only [formOf, asEx, asExs]
  rw [if_neg (show ¬ atomOf (Tr.atom (op2N o)) = kLet from h1), if_neg (show ¬ atomOf (Tr.atom (op2N o)) = kFun from h2)]
  simp only [kidsEx, atomOf]
  cases asEx (formOf p) <;> cases asEx (formOf q) <;> cases o <;> simp [mkHead, op2Of, op2N]
theorem good_one (o : Op1) (p : Ex) : asEx (formOf (.one o p)) = some (.one o p) ↔ asEx (formOf p) = some p := by
  have h1 : op1N o ≠ kLet := by cases o <;> decide
  have h2 : op1N o ≠ kFun := by cases o <;> decide
  simp only [formOf, asEx, asExs]
  rw [if_neg (show ¬ atomOf (Tr.atom (op1N o)) = kLet from h1), if_neg (show ¬ atomOf (Tr.atom (op1N o)) = kFun from h2)]
  simp only [kidsEx, atomOf]
  cases asEx (formOf p) <;> cases o <;> simp [mkHead, op1Of, op1N]
theorem good_cond (p q r : Ex) : asEx (formOf (.cond p q r)) = some (.cond p q r) ↔ asEx (formOf p) = some p ∧ asEx (formOf q) = some q ∧ asEx (formOf r) = some r := by
  have h1 : kIf ≠ kLet := by decide
  have h2 : kIf ≠ kFun := by decide
  simp only [formOf, asEx, asExs]
  rw [if_neg (show ¬ atomOf (Tr.atom kIf) = kLet from h1), if_neg (show ¬ atomOf (Tr.atom kIf) = kFun from h2)]
  simp only [kidsEx, atomOf]
  cases asEx (formOf p) <;> cases asEx (formOf q) <;> cases asEx (formOf r) <;> simp [mkHead]
theorem good_lete (s : Nm) (p q : Ex) : asEx (formOf (.lete s p q)) = some (.lete s p q) ↔ isNm s = true ∧ asEx (formOf p) = some p ∧ asEx (formOf q) = some q := by
  simp only [formOf, asEx, asExs]
  rw [if_pos (show atomOf (Tr.atom kLet) = kLet from rfl)]
  simp only [asLetE, atomOf]
  cases asEx (formOf p) <;> cases asEx (formOf q) <;> by_cases hz : isNm s = true <;> simp [hz]
theorem good_func (f s : Nm) (A B : Tr) (p : Ex) : asEx (formOf (.func f s A B p)) = some (.func f s A B p) ↔ (isNm f && isNm s && !(f == s) && isTyL A && isTyL B) = true ∧ asEx (formOf p) = some p := by
  have h1 : kFun ≠ kLet := by decide
  simp only [formOf, asEx, asExs]
  rw [if_neg (show ¬ atomOf (Tr.atom kFun) = kLet from h1), if_pos (show atomOf (Tr.atom kFun) = kFun from rfl)]
  simp only [asFunE]
  show (if (isNm f && isNm s && !(f == s) && isTyL A && isTyL B) = true then (match asEx (formOf p) with | none => none | some e' => some (Ex.func f s A B e')) else none) = some (Ex.func f s A B p) ↔ _
  split
  · rename_i hz
    cases asEx (formOf p) with
    | none => simp
    | some v =>
      simp only [Option.some.injEq, Ex.func.injEq, true_and]
      exact ⟨fun h => ⟨hz, h⟩, fun h => h.2⟩
  · rename_i hz
    exact ⟨(fun h => by cases h), fun h => absurd h.1 hz⟩
/-- An expression that is written as what is read as it. -/
def good (x : Ex) : Prop := asEx (formOf x) = some x
theorem good_nm {s : Nm} (h : good (.name s)) : isNm s = true := by
  unfold good at h
  simp only [formOf, asEx, atomEx] at h
  cases hn : numOf s with
  | some n => simp [hn] at h
  | none =>
    simp only [hn] at h
    split at h
    · assumption
    · cases h
theorem good_num {n : Int} (h : good (.num n)) : isNm (Lib.itoa n) = false ∧ numOf (Lib.itoa n) = some n := by
  unfold good at h
  simp only [formOf, asEx, atomEx] at h
  cases hn : numOf (Lib.itoa n) with
  | some m =>
    simp only [hn, Option.some.injEq, Ex.num.injEq] at h
    subst h
    exact ⟨numOf_notNm hn, rfl⟩
  | none =>
    simp only [hn] at h
    split at h <;> cases h
theorem good_of {t : Tr} {x : Ex} (h : asEx t = some x) : good x := by unfold good; rw [formOf_eq _ _ h]; exact h
end Go.Proofs.YtjfjlfhckfoehaaGreatDoor
