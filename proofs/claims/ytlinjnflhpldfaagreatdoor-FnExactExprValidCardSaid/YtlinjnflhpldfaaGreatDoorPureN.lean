/- Numerals: what they are, and their numbers. -/
import Derived.WalkKit
import Derived.Lib.Atoi
import Derived.Shelf.Strings.Prefix
namespace Go.Proofs.YtlinjnflhpldfaaGreatDoor
set_option linter.unusedSimpArgs false
set_option linter.unusedVariables false
/-- The digits of a text that may begin with a minus. -/
def digitsOf : List UInt8 → List UInt8
  | [] => []
  | b :: r => if b = 45 then r else b :: r
def signOf : List UInt8 → Int
  | [] => 1
  | b :: _ => if b = 45 then -1 else 1
/-- The number of a numeral. -/
def numOf (l : List UInt8) : Option Int :=
  if l = [48] then some 0
  else if 1 ≤ (digitsOf l).length ∧ (digitsOf l).length ≤ 3 ∧ (digitsOf l).head? ≠ some 48 then (Lib.decFrom 0 (digitsOf l)).map (fun (m : Nat) => signOf l * (m : Int))
  else none
theorem digitsOf_len (l : List UInt8) : (digitsOf l).length ≤ l.length ∧ l.length ≤ (digitsOf l).length + 1 := by
  cases l with
  | nil => simp [digitsOf]
  | cons b r => simp only [digitsOf]; split <;> simp
theorem decFrom_bad : ∀ (l : List UInt8) (acc k : Nat) (b : UInt8), l[k]? = some b → Lib.digitVal b = none → Lib.decFrom acc l = none
  | [], acc, k, b, h, _ => by simp at h
  | a :: l, acc, 0, b, h, hb => by
    simp only [List.getElem?_cons_zero, Option.some.injEq] at h
    subst h
    simp [Lib.decFrom, hb]
  | a :: l, acc, k + 1, b, h, hb => by
    simp only [List.getElem?_cons_succ] at h
    simp only [Lib.decFrom]
    split
    · exact decFrom_bad l _ k b h hb
    · rfl
theorem decFrom_bound : ∀ (l : List UInt8) (acc m : Nat), Lib.decFrom acc l = some m → m < (acc + 1) * 10 ^ l.length
  | [], acc, m, h => by simp only [Lib.decFrom, Option.some.injEq] at h; subst h; simp
  | b :: l, acc, m, h => by
    simp only [Lib.decFrom] at h
    split at h
    · rename_i d hd
      have hd9 : d ≤ 9 := by
        unfold Lib.digitVal at hd
        split at hd
        · simp only [Option.some.injEq] at hd; omega
        · cases hd
      have ih := decFrom_bound l _ m h
      have e : (acc * 10 + d + 1) ≤ (acc + 1) * 10 := by omega
      have h2 := Nat.mul_le_mul_right (10 ^ l.length) e
      rw [List.length_cons, Nat.pow_succ, Nat.mul_comm (10 ^ l.length) 10, ← Nat.mul_assoc]
      omega
    · cases h
theorem atoi_num {l : List UInt8} {m : Nat} (hne : l ≠ [48]) (hd : digitsOf l ≠ []) (hm : Lib.decFrom 0 (digitsOf l) = some m) : Lib.atoi l = some (signOf l * (m : Int)) := by
  cases l with
  | nil => simp [digitsOf] at hd
  | cons b r =>
    simp only [Lib.atoi, digitsOf, signOf] at hd hm ⊢
    by_cases h45 : b = 45
    · subst h45
      simp only [if_true] at hd hm
      have : r.isEmpty = false := by simpa using hd
      simp [Lib.decNat, this, hm]
    · rw [if_neg h45] at hd hm
      have h1 : (b == 45) = false := by simpa using h45
      have h43 : (b == 43) = false := by
        simp only [beq_eq_false_iff_ne, ne_eq]
        intro e
        subst e
        simp [Lib.decFrom, Lib.digitVal] at hm
      simp [h1, h43, Lib.decNat, hm, h45]
theorem trim_minus (l : List UInt8) : Lib.trimPrefix l [45] = digitsOf l := by
  cases l with
  | nil => rfl
  | cons b r =>
    by_cases h : b = 45
    · subst h; simp [digitsOf, Lib.trimPrefix, Lib.hasPrefix]
    · simp [digitsOf, Lib.trimPrefix, Lib.hasPrefix, h]; try exact fun e => h e.symm
theorem numOf_zero : numOf [48] = some 0 := by simp [numOf]
theorem numOf_no {l : List UInt8} (h0 : l ≠ [48]) (h : ¬ (1 ≤ (digitsOf l).length ∧ (digitsOf l).length ≤ 3 ∧ (digitsOf l).head? ≠ some 48)) : numOf l = none := by rw [numOf, if_neg h0, if_neg h]
theorem numOf_yes {l : List UInt8} (h0 : l ≠ [48]) (h : 1 ≤ (digitsOf l).length ∧ (digitsOf l).length ≤ 3 ∧ (digitsOf l).head? ≠ some 48) : numOf l = (Lib.decFrom 0 (digitsOf l)).map (fun (m : Nat) => signOf l * (m : Int)) := by rw [numOf, if_neg h0, if_pos h]
theorem signOf_cases (l : List UInt8) : signOf l = 1 ∨ signOf l = -1 := by
  cases l with
  | nil => exact .inl rfl
  | cons b r => simp only [signOf]; split <;> simp
end Go.Proofs.YtlinjnflhpldfaaGreatDoor
