/- The different atoms of a form. -/
import Derived.Test.YtlinjnflhpldfaaGreatDoorPure3
namespace Go.Proofs.YtlinjnflhpldfaaGreatDoor
open Go.RowKit
set_option maxRecDepth 8000
set_option linter.unusedSimpArgs false
set_option linter.unusedVariables false
def addA (l : List (List UInt8)) (a : List UInt8) : List (List UInt8) := if a ∈ l then l else l ++ [a]
mutual
def atoms : Tr → List (List UInt8) → List (List UInt8)
  | .atom a, l => addA l a
  | .list ts, l => atomss ts l
def atomss : List Tr → List (List UInt8) → List (List UInt8)
  | [], l => l
  | t :: ts, l => atomss ts (atoms t l)
end
theorem atoms_atom (a : List UInt8) (l : List (List UInt8)) : atoms (.atom a) l = addA l a := by simp only [atoms]
theorem atoms_list (ts : List Tr) (l : List (List UInt8)) : atoms (.list ts) l = atomss ts l := by simp only [atoms]
theorem atomss_snoc : ∀ (ts : List Tr) (t : Tr) (l : List (List UInt8)), atomss (ts ++ [t]) l = atoms t (atomss ts l)
  | [], t, l => by simp only [List.nil_append, atomss]
  | a :: ts, t, l => by simp only [List.cons_append, atomss]; exact atomss_snoc ts t _
theorem atomss_take (ts : List Tr) (l : List (List UInt8)) (k : Nat) (h : k < ts.length) : atomss (ts.take (k + 1)) l = atoms ts[k] (atomss (ts.take k) l) := by rw [take_snoc' _ _ h, atomss_snoc]
theorem addA_len (l : List (List UInt8)) (a : List UInt8) : l.length ≤ (addA l a).length ∧ (addA l a).length ≤ l.length + 1 := by
  unfold addA; split <;> simp
mutual
theorem atoms_len : ∀ (t : Tr) (l : List (List UInt8)), t.wf → l.length ≤ (atoms t l).length ∧ (atoms t l).length ≤ l.length + t.size
  | .atom a, l, _ => by rw [atoms_atom]; have := addA_len l a; simp only [Tr.size]; omega
  | .list ts, l, h => by rw [atoms_list]; have := atomss_len ts l h.2; simp only [Tr.size]; omega
theorem atomss_len : ∀ (ts : List Tr) (l : List (List UInt8)), wfs ts → l.length ≤ (atomss ts l).length ∧ (atomss ts l).length ≤ l.length + sizes ts
  | [], l, _ => by simp [atomss, sizes]
  | t :: ts, l, h => by
    have h1 := atoms_len t l h.1
    have h2 := atomss_len ts (atoms t l) h.2
    simp only [atomss, sizes]; omega
end
/-- The different atoms of a text that is a form. -/
def atomsOf (s : List UInt8) : Option (List (List UInt8)) := (parse s).map (fun t => atoms t [])
theorem atomsOf_none {s : List UInt8} (h : parse s = none) : atomsOf s = none := by simp [atomsOf, h]
theorem atomsOf_some {s : List UInt8} {t : Tr} (h : parse s = some t) : atomsOf s = some (atoms t []) := by simp [atomsOf, h]
theorem wfs_take6 {ts : List Tr} (h : wfs ts) (k : Nat) : wfs (ts.take k) := by
  induction ts generalizing k with
  | nil => simp [wfs]
  | cons a ts ih => cases k with
    | zero => simp [wfs]
    | succ k => exact ⟨h.1, ih h.2 k⟩
theorem atomss_take_len (ts : List Tr) (l : List (List UInt8)) (k : Nat) (h : wfs ts) : l.length ≤ (atomss (ts.take k) l).length ∧ (atomss (ts.take k) l).length ≤ l.length + sizes (ts.take k) := atomss_len _ _ (wfs_take6 h k)
end Go.Proofs.YtlinjnflhpldfaaGreatDoor
