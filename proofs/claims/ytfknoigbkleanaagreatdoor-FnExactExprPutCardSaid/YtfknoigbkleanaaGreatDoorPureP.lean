/- What ExprPut's outcome weighs: leaves of an expression. -/
import Derived.Test.YtfknoigbkleanaaGreatDoorImpl2w
namespace Go.Proofs.YtfknoigbkleanaaGreatDoor
open Go.RowKit
set_option maxRecDepth 8000
set_option linter.unusedSimpArgs false
set_option linter.unusedVariables false
def leafs : Ex → Nat
  | .name _ => 1
  | .num _ => 1
  | .two _ a b => leafs a + leafs b
  | .one _ a => leafs a
  | .cond a b c => leafs a + leafs b + leafs c
  | .lete _ e b => leafs e + leafs b + 1
  | .func _ _ _ _ e => leafs e + 2
/-- Leaves and binders are few, measured by the size. -/
theorem leafs_size : ∀ x : Ex, 3 * leafs x ≤ 2 * (formOf x).size + 1
  | .name s => by simp [leafs, formOf, Tr.size]
  | .num n => by simp [leafs, formOf, Tr.size]
  | .two o a b => by
    have h1 := leafs_size a
    have h2 := leafs_size b
    simp only [leafs, formOf, Tr.size, sizes]; omega
  | .one o a => by
    have h1 := leafs_size a
    simp only [leafs, formOf, Tr.size, sizes]; omega
  | .cond a b c => by
    have h1 := leafs_size a
    have h2 := leafs_size b
    have h3 := leafs_size c
    simp only [leafs, formOf, Tr.size, sizes]; omega
  | .lete s a b => by
    have h1 := leafs_size a
    have h2 := leafs_size b
    simp only [leafs, formOf, Tr.size, sizes]; omega
  | .func f a A B x => by
    have h1 := leafs_size x
    simp only [leafs, formOf, Tr.size, sizes]; omega
theorem putE_weight {name : Nm} {b : Ex} {m : Nat} (hb : (formOf b).bytes ≤ m) : ∀ x : Ex, (formOf (putE name b x)).bytes ≤ (formOf x).bytes + leafs x * m
  | .name s => by
    simp only [putE]
    split
    · simp only [leafs, Nat.one_mul]; omega
    · omega
  | .num n => by simp only [putE]; omega
  | .two o x y => by
    have h1 := putE_weight (name := name) hb x
    have h2 := putE_weight (name := name) hb y
    simp only [putE, formOf, leafs, Tr.bytes, bytess, Nat.add_mul]; omega
  | .one o x => by
    have h1 := putE_weight (name := name) hb x
    simp only [putE, formOf, leafs, Tr.bytes, bytess, Nat.add_mul]; omega
  | .cond x y z => by
    have h1 := putE_weight (name := name) hb x
    have h2 := putE_weight (name := name) hb y
    have h3 := putE_weight (name := name) hb z
    simp only [putE, formOf, leafs, Tr.bytes, bytess, Nat.add_mul]; omega
  | .lete s x y => by
    have h1 := putE_weight (name := name) hb x
    have h2 : (formOf (if s = name then y else putE name b y)).bytes ≤ (formOf y).bytes + leafs y * m := by
      split
      · omega
      · exact putE_weight hb y
    simp only [putE, formOf, leafs, Tr.bytes, bytess, Nat.add_mul]; omega
  | .func f a A B x => by
    have h2 : (formOf (if f = name ∨ a = name then x else putE name b x)).bytes ≤ (formOf x).bytes + leafs x * m := by
      split
      · omega
      · exact putE_weight hb x
    simp only [putE, formOf, leafs, Tr.bytes, bytess, Nat.add_mul]; omega
/-- The text of an outcome is no longer than what can be read. -/
theorem putE_fits {name : Nm} {b x : Ex} (hb : (formOf b).bytes ≤ 12000) (hx : (formOf x).bytes ≤ 12000) (hs : (formOf x).size ≤ 120) : (formOf (putE name b x)).bytes ≤ 972000 := by
  have h1 := putE_weight (name := name) hb x
  have h2 := leafs_size x
  have h3 : leafs x ≤ 80 := by omega
  have h4 : leafs x * 12000 ≤ 80 * 12000 := Nat.mul_le_mul_right _ h3
  omega
end Go.Proofs.YtfknoigbkleanaaGreatDoor
