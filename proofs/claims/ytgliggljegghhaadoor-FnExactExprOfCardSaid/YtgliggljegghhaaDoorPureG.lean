/- The form that an expression is written as; numerals are written as they are read. -/
import Derived.Test.YtgliggljegghhaaDoorB3
import Derived.Lib.ItoaNum
namespace Go.Proofs.YtgliggljegghhaaDoor
open Go.RowKit
set_option maxRecDepth 8000
set_option linter.unusedSimpArgs false
set_option linter.unusedVariables false
def formOf : Ex → Tr
  | .name s => .atom s
  | .num n => .atom (Lib.itoa n)
  | .two o a b => .list [.atom (op2N o), formOf a, formOf b]
  | .one o a => .list [.atom (op1N o), formOf a]
  | .cond a b c => .list [.atom kIf, formOf a, formOf b, formOf c]
  | .lete x e b => .list [.atom kLet, .atom x, formOf e, formOf b]
  | .func f x A B e => .list [.atom kFun, .atom f, .atom x, A, B, formOf e]
theorem dd1 (u : Nat) (h : u < 10) : Lib.decDigits u = [UInt8.ofNat (48 + u)] := by rw [Lib.decDigits, dif_pos h]
theorem dd2 (d1 d2 : Nat) (h1 : 1 ≤ d1) (h1' : d1 < 10) (h2 : d2 < 10) : Lib.decDigits (d1 * 10 + d2) = [UInt8.ofNat (48 + d1), UInt8.ofNat (48 + d2)] := by
  rw [Lib.decDigits, dif_neg (by omega), show (d1 * 10 + d2) / 10 = d1 by omega, show (d1 * 10 + d2) % 10 = d2 by omega, dd1 d1 h1']; rfl
theorem dd3 (d1 d2 d3 : Nat) (h1 : 1 ≤ d1) (h1' : d1 < 10) (h2 : d2 < 10) (h3 : d3 < 10) : Lib.decDigits ((d1 * 10 + d2) * 10 + d3) = [UInt8.ofNat (48 + d1), UInt8.ofNat (48 + d2), UInt8.ofNat (48 + d3)] := by
  rw [Lib.decDigits, dif_neg (by omega), show ((d1 * 10 + d2) * 10 + d3) / 10 = d1 * 10 + d2 by omega, show ((d1 * 10 + d2) * 10 + d3) % 10 = d3 by omega, dd2 d1 d2 h1 h1' h2]; rfl
theorem digit_back {b : UInt8} {d : Nat} (h : Lib.digitVal b = some d) : d < 10 ∧ UInt8.ofNat (48 + d) = b := by
  unfold Lib.digitVal at h
  split at h
  · rename_i hb
    simp only [Option.some.injEq] at h
    refine ⟨by omega, ?_⟩
    rw [← h, show 48 + (b.toNat - 48) = b.toNat by omega]
    exact UInt8.ofNat_toNat
  · cases h
theorem dec_back {l : List UInt8} {m : Nat} (h1 : 1 ≤ l.length) (h3 : l.length ≤ 3) (h0 : l.head? ≠ some 48) (h : Lib.decFrom 0 l = some m) : Lib.decDigits m = l ∧ 1 ≤ m := by
  match l, h1, h3 with
  | [a], _, _ =>
    simp only [Lib.decFrom] at h
    cases ha : Lib.digitVal a with
    | none => simp [ha] at h
    | some d =>
      simp only [ha, Option.some.injEq] at h
      obtain ⟨e1, e2⟩ := digit_back ha
      have hd : d ≠ 0 := fun e => by subst e; apply h0; rw [← e2]; rfl
      subst h
      rw [show 0 * 10 + d = d by omega, dd1 d e1, e2]
      exact ⟨rfl, by omega⟩
  | [a, b], _, _ =>
    simp only [Lib.decFrom] at h
    cases ha : Lib.digitVal a with
    | none => simp [ha] at h
    | some d =>
      cases hb : Lib.digitVal b with
      | none => simp [ha, hb] at h
      | some f =>
        simp only [ha, hb, Option.some.injEq] at h
        obtain ⟨e1, e2⟩ := digit_back ha
        obtain ⟨f1, f2⟩ := digit_back hb
        have hd : d ≠ 0 := fun e => by subst e; apply h0; rw [← e2]; rfl
        subst h
        rw [show (0 * 10 + d) * 10 + f = d * 10 + f by omega, dd2 d f (by omega) e1 f1, e2, f2]
        exact ⟨rfl, by omega⟩
  | [a, b, c], _, _ =>
    simp only [Lib.decFrom] at h
    cases ha : Lib.digitVal a with
    | none => simp [ha] at h
    | some d =>
      cases hb : Lib.digitVal b with
      | none => simp [ha, hb] at h
      | some f =>
        cases hc : Lib.digitVal c with
        | none => simp [ha, hb, hc] at h
        | some g =>
          simp only [ha, hb, hc, Option.some.injEq] at h
          obtain ⟨e1, e2⟩ := digit_back ha
          obtain ⟨f1, f2⟩ := digit_back hb
          obtain ⟨g1, g2⟩ := digit_back hc
          have hd : d ≠ 0 := fun e => by subst e; apply h0; rw [← e2]; rfl
          subst h
          rw [show ((0 * 10 + d) * 10 + f) * 10 + g = (d * 10 + f) * 10 + g by omega, dd3 d f g (by omega) e1 f1 g1, e2, f2, g2]
          exact ⟨rfl, by omega⟩
theorem numOf_itoa {a : List UInt8} {n : Int} (h : numOf a = some n) : Lib.itoa n = a := by
  unfold numOf at h
  split at h
  · rename_i ha
    simp only [Option.some.injEq] at h
    subst h; subst ha
    rw [Lib.itoa, if_neg (by omega)]
    exact dd1 0 (by omega)
  · split at h
    · rename_i hd
      simp only [Option.map_eq_some_iff] at h
      obtain ⟨m, hm, rfl⟩ := h
      obtain ⟨e1, e2⟩ := dec_back hd.1 hd.2.1 hd.2.2 hm
      cases a with
      | nil => simp [digitsOf] at hd
      | cons b r =>
        simp only [digitsOf, signOf] at e1 ⊢
        by_cases hb : b = 45
        · subst hb
          simp only [if_true] at e1 ⊢
          rw [Lib.itoa, if_pos (by omega), show (-1 * (m : Int)).natAbs = m by omega, e1]
        · rw [if_neg hb] at e1 ⊢
          rw [Lib.itoa, if_neg (by omega), show (1 * (m : Int)).toNat = m by omega, e1]
    · cases h
theorem numOf_range {a : List UInt8} {n : Int} (h : numOf a = some n) : -1000 < n ∧ n < 1000 := by
  unfold numOf at h
  split at h
  · simp only [Option.some.injEq] at h; omega
  · split at h
    · rename_i hd
      simp only [Option.map_eq_some_iff] at h
      obtain ⟨m, hm, rfl⟩ := h
      have hb := decFrom_bound _ _ _ hm
      have hl : 10 ^ (digitsOf a).length ≤ 10 ^ 3 := Nat.pow_le_pow_right (by omega) hd.2.1
      have : m < 1000 := by omega
      unfold signOf
      split
      · omega
      · split <;> omega
    · cases h
theorem atom_of {t : Tr} (h : atomOf t ≠ []) : t = .atom (atomOf t) := by
  cases t with
  | atom a => rfl
  | list ts => exact absurd rfl h
theorem nm_ne {a : List UInt8} (h : isNm a = true) : a ≠ [] := fun e => by subst e; cases h
theorem op2N_ne (o : Op2) : op2N o ≠ [] := by cases o <;> simp [op2N]
theorem op1N_ne (o : Op1) : op1N o ≠ [] := by cases o <;> simp [op1N]
mutual
theorem formOf_eq : ∀ (t : Tr) (x : Ex), asEx t = some x → formOf x = t
  | .atom a, x, h => by
    simp only [asEx, atomEx] at h
    cases hn : numOf a with
    | some n =>
      simp only [hn, Option.some.injEq] at h
      subst h
      simp only [formOf, numOf_itoa hn]
    | none =>
      simp only [hn] at h
      split at h
      · simp only [Option.some.injEq] at h; subst h; rfl
      · cases h
  | .list [], x, h => by simp [asEx, asExs] at h
  | .list (h0 :: ps), x, h => by
    simp only [asEx, asExs] at h
    split at h
    · rename_i hl
      have hh := atom_of (t := h0) (by rw [hl]; simp [kLet])
      rw [hl] at hh
      subst hh
      match ps, h with
      | [x0, e0, b0], h =>
        simp only [asLetE] at h
        split at h
        · rename_i hx
          split at h
          · cases h
          · rename_i e' he
            split at h
            · cases h
            · rename_i b' hb
              simp only [Option.some.injEq] at h
              subst h
              simp only [formOf, formOf_eq e0 e' he, formOf_eq b0 b' hb]
              rw [← atom_of (nm_ne hx)]
        · cases h
      | [], h => cases h
      | [_], h => cases h
      | [_, _], h => cases h
      | _ :: _ :: _ :: _ :: _, h => cases h
    · split at h
      · rename_i hl
        have hh := atom_of (t := h0) (by rw [hl]; simp [kFun])
        rw [hl] at hh
        subst hh
        match ps, h with
        | [f0, x0, A0, B0, e0], h =>
          simp only [asFunE] at h
          split at h
          · rename_i hx
            simp only [Bool.and_eq_true] at hx
            split at h
            · cases h
            · rename_i e' he
              simp only [Option.some.injEq] at h
              subst h
              simp only [formOf, formOf_eq e0 e' he]
              rw [← atom_of (nm_ne hx.1.1.1.1), ← atom_of (nm_ne hx.1.1.1.2)]
          · cases h
        | [], h => cases h
        | [_], h => cases h
        | [_, _], h => cases h
        | [_, _, _], h => cases h
        | [_, _, _, _], h => cases h
        | _ :: _ :: _ :: _ :: _ :: _ :: _, h => cases h
      · cases hk : kidsEx ps with
        | none => simp [hk] at h
        | some es =>
          simp only [hk, Option.bind_some] at h
          have hp := formsOf_eq ps es hk
          match es, h, hp with
          | [], h, hp => cases h
          | [a], h, hp =>
            simp only [mkHead, Option.map_eq_some_iff] at h
            obtain ⟨o, ho, rfl⟩ := h
            have hn := op1Of_name ho
            have hh := atom_of (t := h0) (by rw [← hn]; exact op1N_ne o)
            rw [hh, ← hp, ← hn]; rfl
          | [a, b], h, hp =>
            simp only [mkHead, Option.map_eq_some_iff] at h
            obtain ⟨o, ho, rfl⟩ := h
            have hn := op2Of_name ho
            have hh := atom_of (t := h0) (by rw [← hn]; exact op2N_ne o)
            rw [hh, ← hp, ← hn]; rfl
          | [a, b, c], h, hp =>
            simp only [mkHead] at h
            split at h
            · rename_i hi
              simp only [Option.some.injEq] at h
              subst h
              have hh := atom_of (t := h0) (by rw [hi]; simp [kIf])
              rw [hh, ← hp, hi]; rfl
            · cases h
          | _ :: _ :: _ :: _ :: _, h, hp => cases h
theorem formsOf_eq : ∀ (ts : List Tr) (es : List Ex), kidsEx ts = some es → es.map formOf = ts
  | [], es, h => by simp only [kidsEx, Option.some.injEq] at h; subst h; rfl
  | t :: ts, es, h => by
    simp only [kidsEx] at h
    split at h
    · cases h
    · rename_i e he
      split at h
      · cases h
      · rename_i es' hs
        simp only [Option.some.injEq] at h
        subst h
        simp only [List.map_cons, formOf_eq t e he, formsOf_eq ts es' hs]
end
end Go.Proofs.YtgliggljegghhaaDoor
