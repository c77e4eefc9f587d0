/- What is written is read back. -/
import Derived.Test.YtlinjnflhpldfaaGreatDoorPure2
namespace Go.Proofs.YtlinjnflhpldfaaGreatDoor
open Go.RowKit
set_option maxRecDepth 8000
set_option linter.unusedSimpArgs false
set_option linter.unusedVariables false
theorem takeWhile_all {p : UInt8 → Bool} : ∀ {a r : List UInt8}, (∀ b ∈ a, p b = true) → (∀ c r', r = c :: r' → p c = false) → (a ++ r).takeWhile p = a ∧ (a ++ r).dropWhile p = r
  | [], [], _, _ => by simp
  | [], c :: r', _, hr => by simp [hr c r' rfl]
  | a :: as, r, ha, hr => by
    have h1 := ha a (by simp)
    have ih := takeWhile_all (a := as) (r := r) (fun b hb => ha b (by simp [hb])) hr
    simp only [List.cons_append, List.takeWhile_cons, List.dropWhile_cons, h1, if_true, ih.1, ih.2, and_self]
def Stop (t : Tr) (r : List UInt8) : Prop := ∀ a, t = .atom a → ∀ c r', r = c :: r' → isAB c = false
theorem stop_of {t : Tr} {c : UInt8} {r : List UInt8} (h : isAB c = false) : Stop t (c :: r) := fun _ _ c' r' e => by simp only [List.cons.injEq] at e; rw [← e.1]; exact h
theorem items_text {d : Nat} (h : ∀ t : Tr, t.wf → t.depth < d → ∀ r, Stop t r → read d (t.text ++ r) = some (t, r)) :
    ∀ (ts : List Tr) (n : Nat) (r : List UInt8), ts ≠ [] → wfs ts → depths ts ≤ d → (texts ts ++ 41 :: r).length < n → items (read d) n (texts ts ++ 41 :: r) = some (ts, r)
  | [], _, _, h0, _, _, _ => absurd rfl h0
  | _, 0, _, _, _, _, hn => by omega
  | [t], n + 1, r, _, hw, hd, hn => by
    simp only [depths] at hd
    rw [items]
    simp only [texts]
    rw [h t hw.1 (by omega) _ (stop_of (by decide))]
    simp
  | t :: t' :: ts, n + 1, r, _, hw, hd, hn => by
    rw [items]
    have hd' := hd
    simp only [depths] at hd'
    simp only [texts, List.append_assoc, List.cons_append] at hn ⊢
    rw [h t hw.1 (by omega) _ (stop_of (by decide))]
    have hlt := size_le t hw.1
    have htl := text_length t hw.1
    have ih := items_text h (t' :: ts) n r (by simp) hw.2 (by simp only [depths] at hd ⊢; omega) (by simp only [List.length_append, List.length_cons] at hn ⊢; omega)
    simp [ih]
theorem read_text : ∀ (d : Nat) (t : Tr), t.wf → t.depth < d → ∀ r, Stop t r → read d (t.text ++ r) = some (t, r)
  | 0, _, _, h, _, _ => by omega
  | d + 1, .atom a, hw, hd, r, hs => by
    have h1 := takeWhile_all (p := isAB) (a := a) (r := r) hw.2 (hs a rfl)
    obtain ⟨c, a', rfl⟩ : ∃ c a', a = c :: a' := by
      cases a with
      | nil => exact absurd rfl hw.1
      | cons c a' => exact ⟨c, a', rfl⟩
    simp only [Tr.text, List.cons_append] at h1 ⊢
    rw [read_else _ _ _ (by intro e; have := hw.2 c (by simp); rw [e] at this; revert this; decide)]
    unfold readAtom
    rw [h1.1, h1.2, if_neg (by simp)]
  | d + 1, .list ts, hw, hd, r, hs => by
    simp only [Tr.text, List.cons_append, List.append_assoc, List.nil_append]
    rw [read_open]
    simp only [Tr.depth] at hd
    rw [items_text (read_text d) ts _ r hw.1 hw.2 (by omega) (by omega)]
    simp
/-- A form that is in its limits is read back. -/
theorem parse_text {t : Tr} (hw : t.wf) (hb : t.bytes ≤ 12000) (hd : t.depth ≤ 60) : parse t.text = some t := by
  have h := read_text 61 t hw (by omega) [] (fun _ _ c r' e => by cases e)
  rw [List.append_nil] at h
  have hl := text_length t hw
  unfold parse
  rw [if_neg (by omega), h]
/-- And only such a one. -/
theorem parse_text_none {t : Tr} (hw : t.wf) (h : ¬ (t.bytes ≤ 12000 ∧ t.depth ≤ 60)) : parse t.text = none := by
  have hl := text_length t hw
  cases hp : parse t.text with
  | none => rfl
  | some t' =>
    obtain ⟨g1, g2, g3, g4⟩ := parse_got hp
    exfalso
    -- the two trees have one text; both are read back by a reader that is deep enough
    have e1 := read_text (t.depth + t'.depth + 1) t hw (by omega) [] (fun _ _ c r' e => by cases e)
    have e2 := read_text (t.depth + t'.depth + 1) t' g1 (by omega) [] (fun _ _ c r' e => by cases e)
    rw [← g4, e1] at e2
    simp only [Option.some.injEq, Prod.mk.injEq, and_true] at e2
    subst e2
    exact h ⟨g2, g3⟩
theorem isTy_small : ∀ (n : Nat) (t : Tr), t.depth ≤ n → isTy t = true → t.bytes ≤ 5 * t.size ∧ t.depth ≤ t.size ∧ t.wf
  | _, .atom a, _, h => by
    rw [isTy_atom] at h
    simp only [beq_iff_eq] at h
    subst h
    exact ⟨by simp [Tr.bytes, Tr.size], by simp [Tr.depth], by simp, by decide⟩
  | 0, .list ts, hd, h => by
    match ts, h with
    | [], h => simp [isTy] at h
    | t :: ts, _ => simp only [Tr.depth, depths] at hd; omega
  | n + 1, .list ts, hd, h => by
    obtain ⟨x, a, b, rfl, hx, ha, hb⟩ := isTy_list h
    have hdd := depths3 x a b
    obtain ⟨a1, a2, a3⟩ := isTy_small n a (by omega) ha
    obtain ⟨b1, b2, b3⟩ := isTy_small n b (by omega) hb
    have hxa : ∃ c, x = .atom [c] ∧ isAB c = true := by
      match x, hx with
      | .atom y, hx => rcases hx with hx | hx <;> simp only [atomOf] at hx <;> subst hx <;> exact ⟨_, rfl, by decide⟩
      | .list _, hx => rcases hx with hx | hx <;> cases hx
    obtain ⟨c, rfl, hc⟩ := hxa
    refine ⟨?_, ?_, ?_⟩
    · simp only [Tr.bytes, bytess, Tr.size, sizes, List.length_cons, List.length_nil] at *; omega
    · simp only [Tr.depth, depths, Tr.size, sizes] at *; omega
    · exact ⟨by simp, ⟨by simp, by simpa using hc⟩, a3, b3, trivial⟩
/-- The type that is made of two, by its head. -/
def makeT (c : UInt8) (a b : List UInt8) : Option Tr :=
  match readTy a, readTy b with
  | some ta, some tb => if 1 + ta.size + tb.size ≤ 16 then some (.list [.atom [c], ta, tb]) else none
  | _, _ => none
theorem makeT_left {c : UInt8} {a : List UInt8} (b : List UInt8) (h : readTy a = none) : makeT c a b = none := by simp [makeT, h]
theorem makeT_right {c : UInt8} (a : List UInt8) {b : List UInt8} (h : readTy b = none) : makeT c a b = none := by unfold makeT; rw [h]; cases readTy a <;> rfl
theorem makeT_some {c : UInt8} {a b : List UInt8} {ta tb : Tr} (ha : readTy a = some ta) (hb : readTy b = some tb) : makeT c a b = if 1 + ta.size + tb.size ≤ 16 then some (.list [.atom [c], ta, tb]) else none := by simp [makeT, ha, hb]
theorem made_text (c : UInt8) (ta tb : Tr) : (Tr.list [.atom [c], ta, tb]).text = 40 :: c :: 32 :: (ta.text ++ 32 :: (tb.text ++ [41])) := by simp [Tr.text, texts]
theorem made_ty {c : UInt8} (hc : c = 62 ∨ c = 42) {ta tb : Tr} (ha : isTy ta = true) (hb : isTy tb = true) : isTy (.list [.atom [c], ta, tb]) = true := by
  rw [isTy_three, ha, hb]
  rcases hc with rfl | rfl <;> rfl
theorem readTy_made {c : UInt8} (hc : c = 62 ∨ c = 42) {a b : List UInt8} {ta tb : Tr} (ha : readTy a = some ta) (hb : readTy b = some tb) :
    readTy (40 :: c :: 32 :: (a ++ 32 :: (b ++ [41]))) = if 1 + ta.size + tb.size ≤ 16 then some (.list [.atom [c], ta, tb]) else none := by
  obtain ⟨a1, a2, a3, a4, a5, a6⟩ := readTy_got ha
  obtain ⟨b1, b2, b3, b4, b5, b6⟩ := readTy_got hb
  have hty := made_ty hc a5 b5
  obtain ⟨s1, s2, s3⟩ := isTy_small _ _ (Nat.le_refl _) hty
  have hsz : (Tr.list [.atom [c], ta, tb]).size = 1 + ta.size + tb.size := by simp only [Tr.size, sizes]; omega
  rw [a4, b4, ← made_text, readTy_some (parse_text s3 (by omega) (by omega)), hty, hsz]
  by_cases h : 1 + ta.size + tb.size ≤ 16
  · simp [h]
  · simp [h]
def MakePost (r : Option Tr) (e : Ending) : Prop :=
  match r with
  | none => e = .returned (.tuple #[.string ⟨#[]⟩, .bool false])
  | some t => e = .returned (.tuple #[.string (bs t.text), .bool true])

theorem makePost_some {t : Tr} {x : ByteArray} (h : bs t.text = x) : MakePost (some t) (.returned (.tuple #[.string x, .bool true])) := by subst h; rfl
theorem makePost_shape (r : Option Tr) : ∃ x z, ∀ e, MakePost r e → e = .returned (.tuple #[.string x, .bool z]) := by
  cases r with
  | none => exact ⟨_, _, fun e h => h⟩
  | some t => exact ⟨_, _, fun e h => h⟩
end Go.Proofs.YtlinjnflhpldfaaGreatDoor
