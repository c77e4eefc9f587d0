/- An expression with a closed one put for a name is an expression again, and its text is read as it if it keeps the limits. The plain mathematics of ExprOf: the plainest expression of a type. -/
import Derived.Test.YtfknoigbkleanaaGreatDoorPureP
import Derived.Test.YtfknoigbkleanaaGreatDoorPureT
import Derived.Test.YtfknoigbkleanaaGreatDoorImpl2y
import Derived.Test.YtfknoigbkleanaaGreatDoorSpec2c
namespace Go.Proofs.YtfknoigbkleanaaGreatDoor
open Go.RowKit
set_option maxRecDepth 8000
set_option linter.unusedSimpArgs false
set_option linter.unusedVariables false
theorem putE_good {name : Nm} {b : Ex} (hb : asEx (formOf b) = some b) : ∀ x : Ex, asEx (formOf x) = some x → asEx (formOf (putE name b x)) = some (putE name b x)
  | .name s, h => by simp only [putE]; split; exact hb; exact h
  | .num n, h => h
  | .two o x y, h => by
    have h := (good_two o x y).1 h
    exact (good_two o _ _).2 ⟨putE_good hb x h.1, putE_good hb y h.2⟩
  | .one o x, h => (good_one o _).2 (putE_good hb x ((good_one o x).1 h))
  | .cond x y z, h => by
    have h := (good_cond x y z).1 h
    exact (good_cond _ _ _).2 ⟨putE_good hb x h.1, putE_good hb y h.2.1, putE_good hb z h.2.2⟩
  | .lete s x y, h => by
    have h := (good_lete s x y).1 h
    refine (good_lete s _ _).2 ⟨h.1, putE_good hb x h.2.1, ?_⟩
    split; exact h.2.2; exact putE_good hb y h.2.2
  | .func f a A B x, h => by
    have h := (good_func f a A B x).1 h
    refine (good_func f a A B _).2 ⟨h.1, ?_⟩
    split; exact h.2; exact putE_good hb x h.2
/-- Whether the outcome's text is an expression is a matter of the limits. -/
theorem limT_valid {X : Ex} (hw : (formOf X).wf) (hg : asEx (formOf X) = some X) : limT (formOf X) = if (parseE (formOf X).text).isSome then some (formOf X).text else none := by
  have hi : isEx (formOf X) = true := by simp [isEx, hg]
  unfold limT
  by_cases h1 : (formOf X).bytes ≤ 12000 ∧ (formOf X).depth ≤ 60
  · have hp := parse_text hw h1.1 h1.2
    by_cases h2 : (formOf X).size ≤ 120
    · rw [parseE_some hp hi h2]; simp [h1, h2]
    · rw [parseE_long hp h2]; simp [h2]
  · have hp := parse_text_none hw h1
    rw [parseE_none hp]
    rw [if_neg (fun h => h1 h.2)]; simp
end Go.Proofs.YtfknoigbkleanaaGreatDoor
namespace Go.Proofs.YtfknoigbkleanaaGreatDoor
open Go.RowKit
set_option maxRecDepth 8000
set_option linter.unusedSimpArgs false
set_option linter.unusedVariables false
/-- The plainest expression of a type. -/
def exOf : Tr → Ex
  | .list [x, a, b] => if atomOf x = [42] then .two .pair (exOf a) (exOf b) else .func [102] [120] a b (exOf b)
  | _ => .num 0
theorem exOf_atom (a : List UInt8) : exOf (.atom a) = .num 0 := by simp [exOf]
theorem exOf_three (x a b : Tr) : exOf (.list [x, a, b]) = if atomOf x = [42] then .two .pair (exOf a) (exOf b) else .func [102] [120] a b (exOf b) := by rw [exOf]
theorem zero_text : formOf (.num 0) = .atom [48] := by simp [formOf, Lib.itoa, dd1]
structure OfOK (t : Tr) : Prop where
  wf : (formOf (exOf t)).wf
  bytes : (formOf (exOf t)).bytes ≤ 100 * t.size
  ok : exOK (exOf t)
  good : asEx (formOf (exOf t)) = some (exOf t)
theorem exOf_ok : ∀ (n : Nat) (t : Tr), t.depth ≤ n → isTyL t = true → OfOK t
  | _, .atom a, _, h => by
    refine ⟨?_, ?_, ?_, ?_⟩
    · rw [exOf_atom, zero_text]; exact ⟨by simp, by decide⟩
    · rw [exOf_atom, zero_text]; simp [Tr.bytes, Tr.size]
    · rw [exOf_atom]; simp [exOK]
    · rw [exOf_atom, zero_text]; simp [asEx, atomEx, numOf]
  | 0, .list ts, hd, h => by
    obtain ⟨x, a, b, rfl, -⟩ := isTy_list (isTyL_got h).1
    have := depths3 x a b
    omega
  | n + 1, .list ts, hd, h => by
    obtain ⟨x, a, b, rfl, hx, -⟩ := isTy_list (isTyL_got h).1
    have hdd := depths3 x a b
    have hsz := (isTyL_got h).2
    have hxc : atomOf x = [42] ∨ (¬ atomOf x = [42] ∧ atomOf x = [62]) := by
      rcases hx with hx | hx
      · exact .inr ⟨by rw [hx]; decide, hx⟩
      · exact .inl hx
    have hab : isTyL a = true ∧ isTyL b = true := by
      rcases hxc with e | ⟨_, e⟩
      · exact sidesTr_ok (c := 42) h (by simp [sidesTr, e])
      · exact sidesTr_ok (c := 62) h (by simp [sidesTr, e])
    have hsz2 : (Tr.list [x, a, b]).size = x.size + (a.size + (b.size + 0)) := by simp only [Tr.size, sizes]
    have hx1 : 1 ≤ x.size := by
      cases x with
      | atom y => simp [Tr.size]
      | list l => rcases hx with hx | hx <;> cases hx
    have kb := exOf_ok n b (by omega) hab.2
    have sa := isTyL_small hab.1
    have sb := isTyL_small hab.2
    rw [hsz2] at hsz
    rcases hxc with e | ⟨e, e2⟩
    · have ka := exOf_ok n a (by omega) hab.1
      have he : exOf (.list [x, a, b]) = .two .pair (exOf a) (exOf b) := by rw [exOf_three, if_pos e]
      refine ⟨?_, ?_, ?_, ?_⟩
      · rw [he]; simp only [formOf, Tr.wf, wfs]; exact ⟨by simp, ⟨by decide, by decide⟩, ka.wf, kb.wf, trivial⟩
      · rw [he, hsz2]
        have h1 := ka.bytes
        have h2 := kb.bytes
        have h3 : (op2N .pair).length = 4 := rfl
        simp only [formOf, Tr.bytes, bytess]; omega
      · rw [he]; exact ⟨ka.ok, kb.ok⟩
      · rw [he]; exact (good_two _ _ _).2 ⟨ka.good, kb.good⟩
    · have he : exOf (.list [x, a, b]) = .func [102] [120] a b (exOf b) := by rw [exOf_three, if_neg e]
      refine ⟨?_, ?_, ?_, ?_⟩
      · rw [he]; simp only [formOf, Tr.wf, wfs]; exact ⟨by simp, ⟨by decide, by decide⟩, ⟨by decide, by decide⟩, ⟨by decide, by decide⟩, sa.1, sb.1, kb.wf, trivial⟩
      · rw [he, hsz2]
        have h2 := kb.bytes
        have h3 : kFun.length = 3 := rfl
        have h4 := sa.2.1
        have h5 := sb.2.1
        have h6 := (isTy_small _ _ (Nat.le_refl _) sa.2.2.2.2).1
        have h7 := (isTy_small _ _ (Nat.le_refl _) sb.2.2.2.2).1
        simp only [formOf, Tr.bytes, bytess, List.length_cons, List.length_nil]; omega
      · rw [he]; exact ⟨by decide, by decide, kb.ok⟩
      · rw [he]; exact (good_func _ _ _ _ _).2 ⟨by rw [hab.1, hab.2]; decide, kb.good⟩
/-- ExprOf's answer. -/
def ofTx (l : List UInt8) : Option (List UInt8) := (readTy l).bind (fun t => limT (formOf (exOf t)))
theorem ofTx_none {l : List UInt8} (h : readTy l = none) : ofTx l = none := by simp [ofTx, h]
theorem ofTx_some {l : List UInt8} {t : Tr} (h : readTy l = some t) : ofTx l = limT (formOf (exOf t)) := by simp [ofTx, h]
theorem readTy_L {l : List UInt8} {t : Tr} (h : readTy l = some t) : isTyL t = true := by
  obtain ⟨_, _, _, _, h1, h2⟩ := readTy_got h
  simp [isTyL, h1, h2]
end Go.Proofs.YtfknoigbkleanaaGreatDoor
