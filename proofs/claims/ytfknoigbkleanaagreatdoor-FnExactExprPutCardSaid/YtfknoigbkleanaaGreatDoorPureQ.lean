/- What l2Put makes of a list: its parts, one kid after another. -/
import Derived.Test.YtfknoigbkleanaaGreatDoorPureP
import Derived.Test.YtfknoigbkleanaaGreatDoorImpl2u
namespace Go.Proofs.YtfknoigbkleanaaGreatDoor
open Go.RowKit
set_option maxRecDepth 8000
set_option linter.unusedSimpArgs false
set_option linter.unusedVariables false
/-- What a kid becomes. -/
def pkE (name : Nm) (b x : Ex) (j : Nat) : Ex := match (kidsE x)[j]? with | none => .num 0 | some k => if name ∈ bindE x j then k else putE name b k
/-- A list, the first kids of which have been replaced. -/
def setKs (f : Nat → Tr) (ts : List Tr) (a : Nat) : Nat → List Tr
  | 0 => ts
  | j + 1 => (setKs f ts a j).set (a + j) (f j)
theorem setKs_len (f : Nat → Tr) (ts : List Tr) (a : Nat) : ∀ j, (setKs f ts a j).length = ts.length
  | 0 => rfl
  | j + 1 => by simp only [setKs, List.length_set]; exact setKs_len f ts a j
theorem pkE_some {name : Nm} {b x : Ex} {j : Nat} (hj : j < (kidsE x).length) : pkE name b x j = if name ∈ bindE x j then (kidsE x)[j] else putE name b ((kidsE x)[j]) := by
  unfold pkE; rw [List.getElem?_eq_getElem hj]
theorem putE_parts {name : Nm} {b x : Ex} {h : Tr} {ps : List Tr} {a : Nat} (V : KidView h ps x a) (hx : asEx (.list (h :: ps)) = some x) :
    formOf (putE name b x) = .list (setKs (fun j => formOf (pkE name b x j)) (h :: ps) a (kidsE x).length) := by
  have hf := formOf_eq _ _ hx
  have hlen := V.len
  have hnn := V.nn
  clear V hx
  cases x with
  | name s => exact absurd hnn (by simp [notName])
  | num n => simp [formOf] at hf
  | two o p q =>
    simp only [formOf, Tr.list.injEq, List.cons.injEq] at hf
    obtain ⟨rfl, rfl⟩ := hf
    obtain rfl : a = 1 := by simp [kidsE] at hlen; omega
    simp [putE, formOf, setKs, pkE, kidsE, bindE]
  | one o p =>
    simp only [formOf, Tr.list.injEq, List.cons.injEq] at hf
    obtain ⟨rfl, rfl⟩ := hf
    obtain rfl : a = 1 := by simp [kidsE] at hlen; omega
    simp [putE, formOf, setKs, pkE, kidsE, bindE]
  | cond p q r =>
    simp only [formOf, Tr.list.injEq, List.cons.injEq] at hf
    obtain ⟨rfl, rfl⟩ := hf
    obtain rfl : a = 1 := by simp [kidsE] at hlen; omega
    simp [putE, formOf, setKs, pkE, kidsE, bindE]
  | lete s p q =>
    simp only [formOf, Tr.list.injEq, List.cons.injEq] at hf
    obtain ⟨rfl, rfl⟩ := hf
    obtain rfl : a = 2 := by simp [kidsE] at hlen; omega
    by_cases e : s = name
    · simp [putE, formOf, setKs, pkE, kidsE, bindE, e]
    · have e2 : ¬ name = s := fun q => e q.symm
      simp [putE, formOf, setKs, pkE, kidsE, bindE, e, e2]
  | func f s A B p =>
    simp only [formOf, Tr.list.injEq, List.cons.injEq] at hf
    obtain ⟨rfl, rfl⟩ := hf
    obtain rfl : a = 5 := by simp [kidsE] at hlen; omega
    by_cases e : f = name ∨ s = name
    · have e2 : name = f ∨ name = s := e.imp Eq.symm Eq.symm
      simp [putE, formOf, setKs, pkE, kidsE, bindE, e, e2]
    · have e2 : ¬ (name = f ∨ name = s) := fun q => e (q.imp Eq.symm Eq.symm)
      simp [putE, formOf, setKs, pkE, kidsE, bindE, e, e2]
/-- One node of a row is written anew. -/
theorem FVs.setS {w : World} {ok : Nat → Prop} : ∀ {ts : List Tr} {xs : List Value}, FVs nS w ok ts xs → ∀ (k : Nat), k < ts.length → ∀ {t : Tr} {u : Value}, FV nS w ok t (nS t u) → FVs nS w ok (ts.set k t) ((xs.set (k * 2) (.string (bs (atomOf t)))).set (k * 2 + 1) u)
  | [], xs, h, k, hk, t, u, ht => by simp at hk
  | t0 :: ts, xs, h, 0, hk, t, u, ht => by
    simp only [FVs] at h
    obtain ⟨c, d, rfl, h1, h2⟩ := h
    obtain ⟨p, m, c', rfl⟩ := h1.node
    simp only [List.set_cons_zero, FVs]
    exact ⟨_, d, rfl, ht, h2⟩
  | t0 :: ts, xs, h, k + 1, hk, t, u, ht => by
    simp only [FVs] at h
    obtain ⟨c, d, rfl, h1, h2⟩ := h
    obtain ⟨p, m, c', rfl⟩ := h1.node
    have := FVs.setS h2 k (by simpa using hk) ht
    simp only [List.set_cons_succ, FVs]
    refine ⟨_, _, ?_, h1, this⟩
    simp [nS, show (k + 1) * 2 = k * 2 + 1 + 1 by omega]
end Go.Proofs.YtfknoigbkleanaaGreatDoor
