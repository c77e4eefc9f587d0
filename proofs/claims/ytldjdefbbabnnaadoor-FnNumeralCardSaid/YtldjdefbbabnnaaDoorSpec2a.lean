/- The reference model's names and heads. -/
import Derived.Test.YtldjdefbbabnnaaDoorNumS
import Derived.Test.YtldjdefbbabnnaaDoorB3
namespace Go.Proofs.YtldjdefbbabnnaaDoor
open Go.RowKit
set_option maxRecDepth 8000
set_option linter.unusedSimpArgs false
set_option linter.unusedVariables false
theorem isNm_len {l : List UInt8} (h : ¬ (1 ≤ l.length ∧ l.length ≤ 4)) : isNm l = false := by
  cases l with
  | nil => rfl
  | cons b r =>
    simp only [isNm, List.length_cons] at h ⊢
    have : decide (r.length ≤ 3) = false := by simp; omega
    simp [this]
theorem isNm_first {l : List UInt8} {b : UInt8} (hb : l[0]? = some b) (h : ¬ (97 ≤ b.toNat ∧ b.toNat ≤ 122)) : isNm l = false := by
  cases l with
  | nil => rfl
  | cons c r =>
    simp only [List.getElem?_cons_zero, Option.some.injEq] at hb
    subst hb
    have : (decide (97 ≤ c.toNat) && decide (c.toNat ≤ 122)) = false := by
      rw [Bool.and_eq_false_iff]
      by_cases h1 : 97 ≤ c.toNat
      · right; simp; omega
      · left; simp; omega
    simp [isNm, this]
theorem isNm_rest {l : List UInt8} {b : UInt8} (hb : l[0]? = some b) (hl : l.length ≤ 4) (h : 97 ≤ b.toNat ∧ b.toNat ≤ 122) : isNm l = (Lib.decFrom 0 (l.drop 1)).isSome := by
  cases l with
  | nil => simp at hb
  | cons c r =>
    simp only [List.getElem?_cons_zero, Option.some.injEq] at hb
    subst hb
    simp only [List.length_cons] at hl
    simp [isNm, h.1, h.2, show r.length ≤ 3 by omega]
theorem first_of (s : ByteArray) (h : 0 < s.size) : s.data.toList[0]? = some s[0] := by rw [List.getElem?_eq_getElem (by simpa using h)]; rfl
end Go.Proofs.YtldjdefbbabnnaaDoor
