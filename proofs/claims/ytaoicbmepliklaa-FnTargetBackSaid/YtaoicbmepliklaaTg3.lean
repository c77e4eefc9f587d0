/- Target types of types, plain: there and back. -/
import Derived.Test.YtaoicbmepliklaaTg1
namespace Go.Proofs.Ytaoicbmepliklaa
open Go.RowKit
set_option maxRecDepth 8000
set_option linter.unusedSimpArgs false
set_option linter.unusedVariables false
/-- A type with a head and two types. -/
def tyT (c : List UInt8) (a b : Tr) : Tr := .list [.atom c, a, b]
/-- The package of code that needs values of some types, with what it hides. -/
def pk (ns : List Tr) : Tr := .list [.atom [101], .list [.atom [116], .list (.atom [99] :: .atom [118] :: ns), .atom [118]]]
/-- The target type of a type. -/
def tOf : Tr → Tr
  | .list [h, a, b] => if atomOf h = [42] then .list [.atom [116], tOf a, tOf b] else pk [tOf a, pk [tOf b]]
  | _ => .atom [105]
theorem tOf_atom (a : List UInt8) : tOf (.atom a) = .atom [105] := by rw [tOf]; intro _ _ _ h; cases h
theorem tOf_pair (a b : Tr) : tOf (tyT [42] a b) = .list [.atom [116], tOf a, tOf b] := by rw [tyT, tOf, if_pos (show atomOf (Tr.atom [42]) = [42] from rfl)]
theorem tOf_fun (a b : Tr) : tOf (tyT [62] a b) = pk [tOf a, pk [tOf b]] := by rw [tyT, tOf, if_neg (show ¬ atomOf (Tr.atom [62]) = [42] by simp [atomOf])]
/-- A type is i, or two types behind a head. -/
theorem isTy_view (t : Tr) (h : isTy t = true) : t = .atom [105] ∨ ∃ c a b, (c = [62] ∨ c = [42]) ∧ t = tyT c a b ∧ isTy a = true ∧ isTy b = true := by
  match t, h with
  | .atom a, h => rw [isTy_atom] at h; left; rw [beq_iff_eq] at h; rw [h]
  | .list ts, h =>
    right
    by_cases h3 : ts.length = 3
    · obtain ⟨x, a, b, rfl⟩ := three_of h3
      rw [isTy_three, Bool.and_eq_true, Bool.and_eq_true, Bool.or_eq_true, beq_iff_eq, beq_iff_eq] at h
      obtain ⟨⟨hx, ha⟩, hb⟩ := h
      have hxa : x = .atom (atomOf x) := by
        cases x with
        | atom _ => rfl
        | list _ => simp [atomOf] at hx
      refine ⟨atomOf x, a, b, hx, ?_, ha, hb⟩
      rw [tyT, ← hxa]
    · rw [isTy_other _ h3] at h; cases h
theorem isTy_tyT {c : List UInt8} (hc : c = [62] ∨ c = [42]) (a b : Tr) : isTy (tyT c a b) = (isTy a && isTy b) := by
  rw [tyT, isTy_three]; rcases hc with e | e <;> rw [e] <;> simp [atomOf]
theorem tOf_ne {a b : Tr} : tOf (tyT [42] a b) ≠ .atom [105] ∧ tOf (tyT [62] a b) ≠ .atom [105] := by
  rw [tOf_pair, tOf_fun, pk]; exact ⟨by simp, by simp⟩
theorem tOf_inj : ∀ (x y : Tr), isTy x = true → isTy y = true → tOf x = tOf y → x = y
  | x, y, hx, hy, h => by
    rcases isTy_view x hx with rfl | ⟨c, a, b, hc, rfl, ha, hb⟩
    · rcases isTy_view y hy with rfl | ⟨d, a2, b2, hd, rfl, _, _⟩
      · rfl
      · rw [tOf_atom] at h
        rcases hd with rfl | rfl
        · exact absurd h.symm (tOf_ne).2
        · exact absurd h.symm (tOf_ne).1
    · rcases isTy_view y hy with rfl | ⟨d, a2, b2, hd, rfl, ha2, hb2⟩
      · rw [tOf_atom] at h
        rcases hc with rfl | rfl
        · exact absurd h (tOf_ne).2
        · exact absurd h (tOf_ne).1
      · have s1 : a.bytes < (tyT c a b).bytes := by simp only [tyT, Tr.bytes, bytess]; omega
        have s2 : b.bytes < (tyT c a b).bytes := by simp only [tyT, Tr.bytes, bytess]; omega
        rcases hc with rfl | rfl <;> rcases hd with rfl | rfl
        · rw [tOf_fun, tOf_fun, pk, pk, pk, pk] at h
          simp only [Tr.list.injEq, List.cons.injEq, and_true, true_and] at h
          rw [tOf_inj a a2 ha ha2 h.1, tOf_inj b b2 hb hb2 h.2]
        · rw [tOf_fun, tOf_pair, pk] at h; simp at h
        · rw [tOf_fun, tOf_pair, pk] at h; simp at h
        · rw [tOf_pair, tOf_pair] at h
          simp only [Tr.list.injEq, List.cons.injEq, and_true, true_and] at h
          rw [tOf_inj a a2 ha ha2 h.1, tOf_inj b b2 hb hb2 h.2]
termination_by x => x.bytes
/-- What a package of code needs. -/
def pkNeeds : Tr → Option (List Tr)
  | .list [.atom x, .list [.atom y, .list (.atom z :: .atom v :: ns), .atom v']] => if x = [101] ∧ y = [116] ∧ z = [99] ∧ v = [118] ∧ v' = [118] then some ns else none
  | _ => none
theorem pkNeeds_pk (ns : List Tr) : pkNeeds (pk ns) = some ns := by simp [pk, pkNeeds]
theorem pkNeeds_some {f : Tr} {ns : List Tr} (h : pkNeeds f = some ns) : f = pk ns := by
  unfold pkNeeds at h
  split at h
  · split at h
    · rename_i hc
      obtain ⟨rfl, rfl, rfl, rfl, rfl⟩ := hc
      simp only [Option.some.injEq] at h
      rw [h, pk]
    · cases h
  · cases h
/-- The type of which a form is the target type. -/
def src : Nat → Tr → Option Tr
  | 0, _ => none
  | _ + 1, .atom a => if a = [105] then some (.atom a) else none
  | n + 1, .list ts =>
    match ts with
    | [h, a, b] => if atomOf h = [116] then (match src n a, src n b with | some x, some y => some (tyT [42] x y) | _, _ => none) else none
    | _ => match pkNeeds (.list ts) with
      | some [a, k] => (match pkNeeds k with
        | some [b] => (match src n a, src n b with | some x, some y => some (tyT [62] x y) | _, _ => none)
        | _ => none)
      | _ => none
end Go.Proofs.Ytaoicbmepliklaa
