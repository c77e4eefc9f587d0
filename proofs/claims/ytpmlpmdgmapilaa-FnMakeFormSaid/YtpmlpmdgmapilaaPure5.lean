/- Forms made of parts that are texts. -/
import Derived.Test.YtpmlpmdgmapilaaB1
import Derived.Test.YtpmlpmdgmapilaaStrs2
import Derived.Test.YtpmlpmdgmapilaaS1z
namespace Go.Proofs.Ytpmlpmdgmapilaa
open Go.RowKit
set_option maxRecDepth 8000
set_option linter.unusedSimpArgs false
set_option linter.unusedVariables false
/-- The trees of parts that are forms. -/
def partsOK : List (List UInt8) → Option (List Tr)
  | [] => some []
  | x :: l => match parse x, partsOK l with
    | some t, some ts => some (t :: ts)
    | _, _ => none
/-- The form with some parts, if it is one. -/
def listOf (ts : List Tr) : Option Tr := if ts ≠ [] ∧ (Tr.list ts).bytes ≤ 12000 ∧ (Tr.list ts).depth ≤ 60 then some (.list ts) else none
def makeOf (l : List (List UInt8)) : Option Tr := (partsOK l).bind listOf
theorem partsOK_cons {x : List UInt8} {l : List (List UInt8)} {ts : List Tr} : partsOK (x :: l) = some ts ↔ ∃ t ts', parse x = some t ∧ partsOK l = some ts' ∧ ts = t :: ts' := by
  simp only [partsOK]
  cases hx : parse x with
  | none => simp
  | some t =>
    cases hl : partsOK l with
    | none => simp
    | some ts' => simp only [Option.some.injEq]; exact ⟨fun h => ⟨t, ts', rfl, rfl, h.symm⟩, fun ⟨a, b, h1, h2, h3⟩ => by rw [h3, ← h1, ← h2]⟩
theorem partsOK_step : ∀ (l : List (List UInt8)) (k : Nat) (h : k < l.length) (ts : List Tr) (t : Tr), partsOK (l.take k) = some ts → parse l[k] = some t → partsOK (l.take (k + 1)) = some (ts ++ [t])
  | x :: l, 0, _, ts, t, h1, h2 => by
    simp only [List.take_zero, partsOK, Option.some.injEq] at h1
    subst h1
    simp only [List.getElem_cons_zero] at h2
    simp [partsOK, h2]
  | x :: l, k + 1, h, ts, t, h1, h2 => by
    rw [List.take_succ_cons] at h1 ⊢
    obtain ⟨t', ts', e1, e2, e3⟩ := partsOK_cons.1 h1
    have ih := partsOK_step l k (by simpa using h) ts' t e2 (by simpa using h2)
    exact partsOK_cons.2 ⟨t', ts' ++ [t], e1, ih, by rw [e3]; rfl⟩
theorem partsOK_none : ∀ (l : List (List UInt8)) (k : Nat) (h : k < l.length), parse l[k] = none → partsOK l = none
  | x :: l, 0, _, h2 => by simp only [List.getElem_cons_zero] at h2; simp [partsOK, h2]
  | x :: l, k + 1, h, h2 => by
    have ih := partsOK_none l k (by simpa using h) (by simpa using h2)
    simp only [partsOK, ih]
    cases parse x <;> rfl
theorem partsOK_got : ∀ (l : List (List UInt8)) (ts : List Tr), partsOK l = some ts → wfs ts ∧ ts.length = l.length ∧ bytess ts = l.length + lens l
  | [], ts, h => by simp only [partsOK, Option.some.injEq] at h; subst h; exact ⟨trivial, rfl, by simp [bytess, lens]⟩
  | x :: l, ts, h => by
    obtain ⟨t, ts', e1, e2, rfl⟩ := partsOK_cons.1 h
    obtain ⟨i1, i2, i3⟩ := partsOK_got l ts' e2
    have g := parse_got e1
    have hl := text_length t g.1
    rw [← g.2.2.2] at hl
    exact ⟨⟨g.1, i1⟩, by simp [i2], by simp only [bytess, lens, i3, List.length_cons, hl]; omega⟩
theorem makeOf_none {l : List (List UInt8)} (h : partsOK l = none) : makeOf l = none := by simp [makeOf, h]
theorem makeOf_some {l : List (List UInt8)} {ts : List Tr} (h : partsOK l = some ts) : makeOf l = listOf ts := by simp [makeOf, h]
theorem makeOf_long {l : List (List UInt8)} (h : 11999 < l.length + lens l) : makeOf l = none := by
  cases hp : partsOK l with
  | none => exact makeOf_none hp
  | some ts =>
    have g := partsOK_got l ts hp
    rw [makeOf_some hp, listOf, if_neg]
    intro q
    have := q.2.1
    simp only [Tr.bytes] at this
    omega
theorem makeOf_empty : makeOf [] = none := rfl
/-- The text so far. -/
theorem texts_grow (ts : List Tr) (t : Tr) (k : Nat) (hk : ts.length = k) : 40 :: texts (ts ++ [t]) = (if k = 0 then 40 :: texts ts else (40 :: texts ts) ++ [32]) ++ t.text := by
  rw [texts_snocS]
  by_cases h : k = 0
  · subst hk
    have : ts = [] := List.eq_nil_of_length_eq_zero h
    subst this
    simp [texts]
  · have : ts ≠ [] := by intro e; subst e; simp at hk; exact h hk.symm
    rw [if_neg h, if_neg this]; simp
theorem texts_len (ts : List Tr) (h : wfs ts) : (texts ts).length ≤ bytess ts := by
  by_cases hn : ts = []
  · subst hn; simp [texts]
  · have := texts_length ts h hn; omega
end Go.Proofs.Ytpmlpmdgmapilaa
