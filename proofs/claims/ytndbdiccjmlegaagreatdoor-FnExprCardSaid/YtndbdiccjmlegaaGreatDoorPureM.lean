/- The plain mathematics of chapter 3: how many expressions an expression has; environments, types, the first fault. -/
import Derived.Test.YtndbdiccjmlegaaGreatDoorPureT
import Derived.Test.YtndbdiccjmlegaaGreatDoorS2f
namespace Go.Proofs.YtndbdiccjmlegaaGreatDoor
open Go.RowKit
set_option maxRecDepth 8000
set_option linter.unusedSimpArgs false
set_option linter.unusedVariables false
/-- How many of an expression and its parts there are. -/
def manyE : Ex → Nat
  | .name _ => 1
  | .num _ => 1
  | .two _ a b => 1 + manyE a + manyE b
  | .one _ a => 1 + manyE a
  | .cond a b c => 1 + manyE a + manyE b + manyE c
  | .lete _ e b => 1 + manyE e + manyE b
  | .func _ _ _ _ e => 1 + manyE e
def sumM : List Ex → Nat
  | [] => 0
  | k :: ks => manyE k + sumM ks
theorem sumM_snoc (e : Ex) : ∀ ks : List Ex, sumM (ks ++ [e]) = sumM ks + manyE e
  | [] => by simp [sumM]
  | k :: ks => by simp only [List.cons_append, sumM, sumM_snoc e ks]; omega
theorem sumM_take (ks : List Ex) (j : Nat) (h : j < ks.length) : sumM (ks.take (j + 1)) = sumM (ks.take j) + manyE ks[j] := by
  rw [List.take_succ_eq_append_getElem h, sumM_snoc]
theorem sumM_take_le : ∀ (ks : List Ex) (j : Nat), sumM (ks.take j) ≤ sumM ks
  | [], j => by simp [sumM]
  | k :: ks, 0 => by simp [sumM]
  | k :: ks, j + 1 => by have := sumM_take_le ks j; simp only [List.take_succ_cons, sumM]; omega
theorem many_kids : ∀ x : Ex, manyE x = 1 + sumM (kidsE x)
  | .name _ => by simp [manyE, kidsE, sumM]
  | .num _ => by simp [manyE, kidsE, sumM]
  | .two _ a b => by simp only [manyE, kidsE, sumM]; omega
  | .one _ a => by simp only [manyE, kidsE, sumM]; omega
  | .cond a b c => by simp only [manyE, kidsE, sumM]; omega
  | .lete x e b => by simp only [manyE, kidsE, sumM]; omega
  | .func f x _ _ e => by simp only [manyE, kidsE, sumM]; omega
theorem many_le : ∀ (n : Nat) (t : Tr) (x : Ex), t.depth < n → t.wf → asEx t = some x → manyE x ≤ t.size
  | 0, t, x, h, _, _ => by omega
  | n + 1, .atom a, x, _, _, h => by
    simp only [asEx, atomEx] at h
    simp only [Tr.size]
    split at h
    · simp only [Option.some.injEq] at h; subst h; simp [manyE]
    · split at h
      · simp only [Option.some.injEq] at h; subst h; simp [manyE]
      · cases h
  | n + 1, .list [], x, _, hw, h => by simp [Tr.wf] at hw
  | n + 1, .list (h :: ps), x, hd, hw, e => by
    obtain ⟨a, V⟩ := kidView e
    simp only [Tr.wf] at hw
    have hh := size_pos h hw.2.1
    have hstep : ∀ j, j ≤ (kidsE x).length → 1 + sumM ((kidsE x).take j) ≤ sizes ((h :: ps).take (a + j)) := by
      intro j
      induction j with
      | zero =>
        intro _
        obtain ⟨b, rfl⟩ : ∃ b, a = b + 1 := ⟨a - 1, by have := V.pos; omega⟩
        simp only [Nat.add_zero, List.take_zero, sumM, List.take_succ_cons, sizes]; omega
      | succ j ih =>
        intro hj
        have hj' : j < (kidsE x).length := by omega
        have hb := kids_bound V hj'
        have h1 := ih (by omega)
        have h2 := V.kid j hj' hb
        have h3 := many_le n _ _ (by have := depth_lt hb; omega) (wf_get hw.2 hb) h2
        have h5 := sizes_take (h :: ps) (a + j) hb
        rw [sumM_take _ _ hj', show a + (j + 1) = a + j + 1 by omega, h5]
        omega
    have h1 := hstep _ (Nat.le_refl _)
    rw [List.take_length] at h1
    have h2 := sizes_take_le (h :: ps) (a + (kidsE x).length)
    have h3 := many_kids x
    simp only [Tr.size] at *
    omega
theorem readEx_many {l : List UInt8} {x : Ex} (h : readEx l = some x) : manyE x ≤ 120 := by
  cases hp : parse l with
  | none => rw [readEx_none hp] at h; cases h
  | some t =>
    rw [readEx_some hp] at h
    split at h
    · rename_i hs
      have := many_le (t.depth + 1) t x (by omega) (parse_got hp).1 h
      omega
    · cases h
/-- ExprMany's answer. -/
def manyOf (l : List UInt8) : Int := match readEx l with | none => -1 | some x => (manyE x : Nat)
theorem manyOf_none {l : List UInt8} (h : readEx l = none) : manyOf l = -1 := by simp [manyOf, h]
theorem manyOf_some {l : List UInt8} {x : Ex} (h : readEx l = some x) : manyOf l = (manyE x : Nat) := by simp [manyOf, h]
end Go.Proofs.YtndbdiccjmlegaaGreatDoor
