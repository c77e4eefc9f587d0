/- An expression with a closed one put for a name is an expression again, and its text is read as it if it keeps the limits. -/
import Derived.Test.YtibiennbjegomaaDoorPureP
import Derived.Test.YtibiennbjegomaaDoorImpl2y
import Derived.Test.YtibiennbjegomaaDoorSpec2c
namespace Go.Proofs.YtibiennbjegomaaDoor
open Go.RowKit
set_option maxRecDepth 8000
set_option linter.unusedSimpArgs false
set_option linter.unusedVariables false
theorem good_two (o : Op2) (p q : Ex) : asEx (formOf (.two o p q)) = some (.two o p q) ↔ asEx (formOf p) = some p ∧ asEx (formOf q) = some q := by
  have h1 : op2N o ≠ kLet := by cases o <;> decide
  have h2 : op2N o ≠ kFun := by cases o <;> decide
  simp only [formOf, asEx, asExs]
  rw [if_neg (show ¬ atomOf (Tr.atom (op2N o)) = kLet from h1), if_neg (show ¬ atomOf (Tr.atom (op2N o)) = kFun from h2)]
  simp only [kidsEx, atomOf]
  cases asEx (formOf p) <;> cases asEx (formOf q) <;> cases o <;> simp [mkHead, op2Of, op2N]
theorem good_one (o : Op1) (p : Ex) : asEx (formOf (.one o p)) = some (.one o p) ↔ asEx (formOf p) = some p := by
  have h1 : op1N o ≠ kLet := by cases o <;> decide
  have h2 : op1N o ≠ kFun := by cases o <;> decide
  simp only [formOf, asEx, asExs]
  rw [if_neg (show ¬ atomOf (Tr.atom (op1N o)) = kLet from h1), if_neg (show ¬ atomOf (Tr.atom (op1N o)) = kFun from h2)]
  simp only [kidsEx, atomOf]
  cases asEx (formOf p) <;> cases o <;> simp [mkHead, op1Of, op1N]
theorem good_cond (p q r : Ex) : asEx (formOf (.cond p q r)) = some (.cond p q r) ↔ asEx (formOf p) = some p ∧ asEx (formOf q) = some q ∧ asEx (formOf r) = some r := by
  have h1 : kIf ≠ kLet := by decide
  have h2 : kIf ≠ kFun := by decide
  simp only [formOf, asEx, asExs]
  rw [if_neg (show ¬ atomOf (Tr.atom kIf) = kLet from h1), if_neg (show ¬ atomOf (Tr.atom kIf) = kFun from h2)]
  simp only [kidsEx, atomOf]
  cases asEx (formOf p) <;> cases asEx (formOf q) <;> cases asEx (formOf r) <;> simp [mkHead]
theorem good_lete (s : Nm) (p q : Ex) : asEx (formOf (.lete s p q)) = some (.lete s p q) ↔ isNm s = true ∧ asEx (formOf p) = some p ∧ asEx (formOf q) = some q := by
  simp only [formOf, asEx, asExs]
  rw [if_pos (show atomOf (Tr.atom kLet) = kLet from rfl)]
  simp only [asLetE, atomOf]
  cases asEx (formOf p) <;> cases asEx (formOf q) <;> by_cases hz : isNm s = true <;> simp [hz]
theorem good_func (f s : Nm) (A B : Tr) (p : Ex) : asEx (formOf (.func f s A B p)) = some (.func f s A B p) ↔ (isNm f && isNm s && !(f == s) && isTyL A && isTyL B) = true ∧ asEx (formOf p) = some p := by
  have h1 : kFun ≠ kLet := by decide
  simp only [formOf, asEx, asExs]
  rw [if_neg (show ¬ atomOf (Tr.atom kFun) = kLet from h1), if_pos (show atomOf (Tr.atom kFun) = kFun from rfl)]
  simp only [asFunE]
  show (if (isNm f && isNm s && !(f == s) && isTyL A && isTyL B) = true then (match asEx (formOf p) with | none => none | some e' => some (Ex.func f s A B e')) else none) = some (Ex.func f s A B p) ↔ _
  split
  · rename_i hz
    cases asEx (formOf p) with
    | none => simp
    | some v =>
      simp only [Option.some.injEq, Ex.func.injEq, true_and]
      exact ⟨fun h => ⟨hz, h⟩, fun h => h.2⟩
  · rename_i hz
    exact ⟨(fun h => by cases h), fun h => absurd h.1 hz⟩
theorem putE_good {name : Nm} {b : Ex} (hb : asEx (formOf b) = some b) : ∀ x : Ex, asEx (formOf x) = some x → asEx (formOf (putE name b x)) = some (putE name b x)
  | .name s, h => by simp only [putE]; split; exact hb; exact h
  | .num n, h => h
  | .two o x y, h => by
    have h := (good_two o x y).1 h
    exact (good_two o _ _).2 ⟨putE_good hb x h.1, putE_good hb y h.2⟩
  | .one o x, h => (good_one o _).2 (putE_good hb x ((good_one o x).1 h))
  | .cond x y z, h => by
    have h := (good_cond x y z).1 h
    exact (good_cond _ _ _).2 ⟨putE_good hb x h.1, putE_good hb y h.2.1, putE_good hb z h.2.2⟩
  | .lete s x y, h => by
    have h := (good_lete s x y).1 h
    refine (good_lete s _ _).2 ⟨h.1, putE_good hb x h.2.1, ?_⟩
    split; exact h.2.2; exact putE_good hb y h.2.2
  | .func f a A B x, h => by
    have h := (good_func f a A B x).1 h
    refine (good_func f a A B _).2 ⟨h.1, ?_⟩
    split; exact h.2; exact putE_good hb x h.2
/-- Whether the outcome's text is an expression is a matter of the limits. -/
theorem limT_valid {X : Ex} (hw : (formOf X).wf) (hg : asEx (formOf X) = some X) : limT (formOf X) = if (parseE (formOf X).text).isSome then some (formOf X).text else none := by
  have hi : isEx (formOf X) = true := by simp [isEx, hg]
  unfold limT
  by_cases h1 : (formOf X).bytes ≤ 12000 ∧ (formOf X).depth ≤ 60
  · have hp := parse_text hw h1.1 h1.2
    by_cases h2 : (formOf X).size ≤ 120
    · rw [parseE_some hp hi h2]; simp [h1, h2]
    · rw [parseE_long hp h2]; simp [h2]
  · have hp := parse_text_none hw h1
    rw [parseE_none hp]
    rw [if_neg (fun h => h1 h.2)]; simp
end Go.Proofs.YtibiennbjegomaaDoor
