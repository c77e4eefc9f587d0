/- Consequences of what forms and types are, for the general laws of chapter 1. -/
import Derived.Test.YtldjdefbbabnnaaDoorB1
import Derived.Test.YtldjdefbbabnnaaDoorB3
import Derived.Test.YtldjdefbbabnnaaDoorPureT
namespace Go.Proofs.YtldjdefbbabnnaaDoor
open Go.RowKit
set_option maxRecDepth 8000
set_option linter.unusedSimpArgs false
set_option linter.unusedVariables false
theorem parse_paren {l : List UInt8} {t : Tr} (h : parse l = some t) : parse (l ++ [41]) = none := by
  obtain ⟨h1, h2, h3, rfl⟩ := parse_got h
  unfold parse
  split
  · rfl
  · rw [read_text 61 t h1 (by omega) [41] (stop_of (by decide))]
theorem size_of_parse {l : List UInt8} {t : Tr} (h : parse l = some t) : sizeOfText l = (t.size : Int) := by simp [sizeOfText, h]
theorem depth_of_parse {l : List UInt8} {t : Tr} (h : parse l = some t) : depthOfText l = (t.depth : Int) := by simp [depthOfText, h]
theorem size_ge {l : List UInt8} {t : Tr} (h : parse l = some t) : 1 ≤ t.size ∧ t.size ≤ l.length := by
  obtain ⟨h1, h2, h3, rfl⟩ := parse_got h
  have := size_le t h1
  have := text_length t h1
  omega
theorem atoms_range {l : List UInt8} {t : Tr} (h : parse l = some t) : 1 ≤ (atoms t []).length ∧ (atoms t []).length ≤ t.size := by
  obtain ⟨h1, h2, h3, rfl⟩ := parse_got h
  have h4 := atoms_len t [] h1
  refine ⟨?_, by simpa using h4.2⟩
  have h5 : ∀ (t : Tr) (l : List (List UInt8)), t.wf → 1 ≤ (atoms t l).length := by
    intro t
    induction t using Tr.rec (motive_2 := fun ts => ∀ (l : List (List UInt8)), wfs ts → ts ≠ [] → 1 ≤ (atomss ts l).length) with
    | atom a =>
      intro l _
      rw [atoms_atom]
      unfold addA
      split
      · rename_i h; exact List.length_pos_of_mem h
      · simp
    | list ts ih => intro l h; rw [atoms_list]; exact ih l h.2 h.1
    | nil => rename_i h; exact absurd rfl h
    | cons a ts ih1 ih2 =>
      rename_i l h _
      simp only [atomss]
      have h6 := ih1 l h.1
      have h7 := (atomss_len ts (atoms a l) h.2).1
      omega
  exact h5 t [] h1
/-- A type of chapter 1 that is a text, taken apart. -/
theorem ty_sides {l : List UInt8} {t : Tr} (h : readTy l = some t) : (l = [105] ∧ sidesOf [62] l = none ∧ sidesOf [42] l = none) ∨ ∃ c x a b, (c = 62 ∨ c = 42) ∧ t = .list [x, a, b] ∧ atomOf x = [c] ∧ sidesOf [c] l = some (a.text, b.text) ∧ (∀ d, d ≠ c → sidesOf [d] l = none) ∧ isTy a = true ∧ isTy b = true ∧ l ≠ [105] ∧ a.size + b.size + 1 ≤ 16 ∧ l = 40 :: c :: 32 :: (a.text ++ 32 :: (b.text ++ [41])) := by
  obtain ⟨g1, g2, g3, g4, g5, g6⟩ := readTy_got h
  cases t with
  | atom a =>
    rw [isTy_atom] at g5
    simp only [beq_iff_eq] at g5
    subst g5
    exact .inl ⟨g4, sides_atom _ h, sides_atom _ h⟩
  | list ts =>
    obtain ⟨x, a, b, rfl, hx, ha, hb⟩ := isTy_list g5
    obtain ⟨c, hc, hxc⟩ : ∃ c : UInt8, (c = 62 ∨ c = 42) ∧ atomOf x = [c] := by rcases hx with hx | hx; exact ⟨62, .inl rfl, hx⟩; exact ⟨42, .inr rfl, hx⟩
    have hxa : x = .atom [c] := by
      cases x with
      | atom s => simp only [atomOf] at hxc; rw [hxc]
      | list s => simp [atomOf] at hxc
    have hl : l = 40 :: c :: 32 :: (a.text ++ 32 :: (b.text ++ [41])) := by rw [g4, hxa]; exact made_text c a b
    refine .inr ⟨c, x, a, b, hc, rfl, hxc, sides_yes _ h hxc, fun d hd => sides_no _ h (by rw [hxc]; simpa using fun e => hd e.symm), ha, hb, ?_, ?_, hl⟩
    · rw [hl]; intro e; simp at e
    · rw [hxa] at g6; simp only [Tr.size, sizes] at g6; omega
theorem readTy_part {a : Tr} (ha : isTy a = true) (hs : a.size ≤ 16) : readTy a.text = some a := by
  obtain ⟨h1, h2, h3⟩ := isTy_small _ a (Nat.le_refl _) ha
  have hp := parse_text h3 (by omega) (by omega)
  rw [readTy_some hp, if_pos (by simp [ha, hs])]
theorem orderOf_some {l : List UInt8} {t : Tr} (h : readTy l = some t) : orderOf l = (tyOrder t : Int) := by simp [orderOf, h]
end Go.Proofs.YtldjdefbbabnnaaDoor
