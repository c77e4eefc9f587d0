/- The heads of expressions. -/
import Derived.Test.YtlinjnflhpldfaaGreatDoorPureE
namespace Go.Proofs.YtlinjnflhpldfaaGreatDoor
open Go.RowKit
set_option maxRecDepth 8000
set_option linter.unusedSimpArgs false
set_option linter.unusedVariables false
def sName : List UInt8 := [110, 97, 109, 101]
def sNumber : List UInt8 := [110, 117, 109, 98, 101, 114]
def op2N : Op2 → List UInt8
  | .add => [43] | .sub => [45] | .mul => [42] | .call => [99, 97, 108, 108] | .pair => [112, 97, 105, 114]
def op1N : Op1 → List UInt8
  | .fst => [102, 115, 116] | .snd => [115, 110, 100]
def headOf : Ex → List UInt8
  | .name _ => sName
  | .num _ => sNumber
  | .two o _ _ => op2N o
  | .one o _ => op1N o
  | .cond _ _ _ => kIf
  | .lete _ _ _ => kLet
  | .func _ _ _ _ _ => kFun
/-- The head of an expression, by its tree. -/
def headT : Tr → List UInt8
  | .atom a => if isNm a = true then sName else sNumber
  | .list [] => []
  | .list (h :: _) => atomOf h
theorem numOf_notNm {a : List UInt8} {n : Int} (h : numOf a = some n) : isNm a = false := by
  cases a with
  | nil => rfl
  | cons b r =>
    cases hn : isNm (b :: r) with
    | false => rfl
    | true =>
      exfalso
      simp only [isNm, Bool.and_eq_true, decide_eq_true_eq] at hn
      obtain ⟨⟨_, h1, h2⟩, _⟩ := hn
      have hb45 : b ≠ 45 := fun e => by subst e; exact absurd h1 (by decide)
      have hb48 : b :: r ≠ [48] := fun e => by simp only [List.cons.injEq] at e; rw [e.1] at h1; exact absurd h1 (by decide)
      have hdg : digitsOf (b :: r) = b :: r := by simp [digitsOf, hb45]
      have hdv : Lib.digitVal b = none := by simp only [Lib.digitVal]; rw [if_neg (by omega)]
      have hnone := decFrom_bad (b :: r) 0 0 b rfl hdv
      simp only [numOf, if_neg hb48, hdg, hnone, Option.map_none] at h
      split at h <;> cases h
theorem op2Of_name {h : List UInt8} {o : Op2} (e : op2Of h = some o) : op2N o = h := by
  unfold op2Of at e
  repeat' split at e
  all_goals first | (simp only [Option.some.injEq] at e; subst e; rename_i hh; simp only [op2N]; exact hh.symm) | cases e
theorem op1Of_name {h : List UInt8} {o : Op1} (e : op1Of h = some o) : op1N o = h := by
  unfold op1Of at e
  repeat' split at e
  all_goals first | (simp only [Option.some.injEq] at e; subst e; rename_i hh; simp only [op1N]; exact hh.symm) | cases e
theorem mkHead_head {h : List UInt8} {es : List Ex} {x : Ex} (e : mkHead h es = some x) : headOf x = h := by
  match es, e with
  | [], e => cases e
  | [a], e =>
    simp only [mkHead, Option.map_eq_some_iff] at e
    obtain ⟨o, ho, rfl⟩ := e
    exact op1Of_name ho
  | [a, b], e =>
    simp only [mkHead, Option.map_eq_some_iff] at e
    obtain ⟨o, ho, rfl⟩ := e
    exact op2Of_name ho
  | [a, b, c], e =>
    simp only [mkHead] at e
    split at e
    · rename_i hh
      simp only [Option.some.injEq] at e
      subst e; exact hh.symm
    · cases e
  | _ :: _ :: _ :: _ :: _, e => cases e
theorem asEx_head : ∀ {t : Tr} {x : Ex}, asEx t = some x → headOf x = headT t
  | .atom a, x, h => by
    simp only [asEx, atomEx] at h
    cases hn : numOf a with
    | some n =>
      simp only [hn, Option.some.injEq] at h
      subst h
      simp [headOf, headT, numOf_notNm hn]
    | none =>
      simp only [hn] at h
      split at h
      · rename_i hm
        simp only [Option.some.injEq] at h
        subst h
        simp [headOf, headT, hm]
      · cases h
  | .list [], x, h => by simp [asEx, asExs] at h
  | .list (h0 :: ps), x, h => by
    simp only [asEx, asExs] at h
    split at h
    · rename_i hl
      unfold asLetE at h
      repeat' split at h
      all_goals first | (simp only [Option.some.injEq] at h; subst h; show kLet = atomOf h0; exact hl.symm) | cases h
    · split at h
      · rename_i hl
        unfold asFunE at h
        repeat' split at h
        all_goals first | (simp only [Option.some.injEq] at h; subst h; show kFun = atomOf h0; exact hl.symm) | cases h
      · cases hk : kidsEx ps with
        | none => simp [hk] at h
        | some es => simp only [hk, Option.bind_some] at h; simp only [headT]; exact mkHead_head h
end Go.Proofs.YtlinjnflhpldfaaGreatDoor
