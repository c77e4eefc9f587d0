/- A zero put for each free name closes an expression. -/
import Derived.Test.YtjncmmnbdabjnaaGreatDoorSpec2iM
import Derived.Test.YtjncmmnbdabjnaaGreatDoorPureA
import Derived.Test.YtjncmmnbdabjnaaGreatDoorPureL
namespace Go.Proofs.YtjncmmnbdabjnaaGreatDoor
open Go.RowKit
set_option maxRecDepth 8000
set_option linter.unusedSimpArgs false
set_option linter.unusedVariables false
theorem goodZ : good (.num 0) := by unfold good; rw [zero_text]; simp [asEx, atomEx, numOf]
theorem putZ_same (n : Nm) : ∀ x : Ex, (formOf (putE n (.num 0) x)).size = (formOf x).size ∧ (formOf (putE n (.num 0) x)).depth = (formOf x).depth
  | .name s => by
    simp only [putE]
    split
    · simp [zero_text, formOf, Tr.size, Tr.depth]
    · simp
  | .num m => by simp [putE]
  | .two o a b => by
    obtain ⟨h1, h2⟩ := putZ_same n a
    obtain ⟨h3, h4⟩ := putZ_same n b
    simp only [putE, formOf, Tr.size, sizes, Tr.depth, depths, h1, h2, h3, h4, and_self]
  | .one o a => by
    obtain ⟨h1, h2⟩ := putZ_same n a
    simp only [putE, formOf, Tr.size, sizes, Tr.depth, depths, h1, h2, and_self]
  | .cond a b c => by
    obtain ⟨h1, h2⟩ := putZ_same n a
    obtain ⟨h3, h4⟩ := putZ_same n b
    obtain ⟨h5, h6⟩ := putZ_same n c
    simp only [putE, formOf, Tr.size, sizes, Tr.depth, depths, h1, h2, h3, h4, h5, h6, and_self]
  | .lete x e b => by
    obtain ⟨h1, h2⟩ := putZ_same n e
    obtain ⟨h3, h4⟩ := putZ_same n b
    simp only [putE]
    split <;> simp only [formOf, Tr.size, sizes, Tr.depth, depths, h1, h2, h3, h4, and_self]
  | .func f x A B e => by
    obtain ⟨h1, h2⟩ := putZ_same n e
    simp only [putE]
    split <;> simp only [formOf, Tr.size, sizes, Tr.depth, depths, h1, h2, and_self]
theorem putZ_free (n s : Nm) : ∀ x : Ex, s ∈ freeP (putE n (.num 0) x) ↔ s ∈ freeP x ∧ s ≠ n
  | .name t => by
    simp only [putE]
    split
    · rename_i h
      subst h
      simp [freeP]
    · rename_i h
      simp only [freeP, List.mem_singleton]
      constructor
      · intro e; subst e; exact ⟨rfl, h⟩
      · exact fun e => e.1
  | .num m => by simp [putE, freeP]
  | .two o a b => by
    simp only [putE, freeP, List.mem_append, putZ_free n s a, putZ_free n s b, or_and_right]
  | .one o a => by simp only [putE, freeP, putZ_free n s a]
  | .cond a b c => by
    simp only [putE, freeP, List.mem_append, putZ_free n s a, putZ_free n s b, putZ_free n s c, or_and_right]
  | .lete x e b => by
    have h1 := putZ_free n s e
    have h2 := putZ_free n s b
    by_cases hx : x = n
    · subst hx
      simp only [putE, if_true, freeP, List.mem_append, inRm, List.mem_singleton, h1]
      constructor
      · rintro (h | h); exact ⟨.inl h.1, h.2⟩; exact ⟨.inr h, h.2⟩
      · rintro ⟨h | h, h3⟩; exact .inl ⟨h, h3⟩; exact .inr h
    · simp only [putE, if_neg hx, freeP, List.mem_append, inRm, List.mem_singleton, h1, h2]
      constructor
      · rintro (h | h); exact ⟨.inl h.1, h.2⟩; exact ⟨.inr ⟨h.1.1, h.2⟩, h.1.2⟩
      · rintro ⟨h | h, h3⟩; exact .inl ⟨h, h3⟩; exact .inr ⟨⟨h.1, h3⟩, h.2⟩
  | .func f x A B e => by
    have h1 := putZ_free n s e
    by_cases hx : f = n ∨ x = n
    · simp only [putE, if_pos hx, freeP, inRm, List.mem_cons, List.not_mem_nil, or_false, not_or]
      constructor
      · intro h
        refine ⟨h, fun e => ?_⟩
        subst e
        rcases hx with hx | hx
        · exact h.2.1 hx.symm
        · exact h.2.2 hx.symm
      · exact fun h => h.1
    · simp only [putE, if_neg hx, freeP, inRm, List.mem_cons, List.not_mem_nil, or_false, not_or, h1]
      constructor
      · intro h; exact ⟨⟨h.1.1, h.2⟩, h.1.2⟩
      · intro h; exact ⟨⟨h.1.1, h.2⟩, h.1.2⟩
theorem free_nm : ∀ (x : Ex), good x → ∀ s ∈ freeP x, isNm s = true
  | .name t, h, s, hs => by
    simp only [freeP, List.mem_singleton] at hs
    subst hs
    exact good_nm h
  | .num m, h, s, hs => by simp [freeP] at hs
  | .two o a b, h, s, hs => by
    obtain ⟨h1, h2⟩ := (good_two _ _ _).1 h
    simp only [freeP, List.mem_append] at hs
    rcases hs with hs | hs
    · exact free_nm a h1 s hs
    · exact free_nm b h2 s hs
  | .one o a, h, s, hs => free_nm a ((good_one _ _).1 h) s hs
  | .cond a b c, h, s, hs => by
    obtain ⟨h1, h2, h3⟩ := (good_cond _ _ _).1 h
    simp only [freeP, List.mem_append] at hs
    rcases hs with (hs | hs) | hs
    · exact free_nm a h1 s hs
    · exact free_nm b h2 s hs
    · exact free_nm c h3 s hs
  | .lete x e b, h, s, hs => by
    obtain ⟨h1, h2, h3⟩ := (good_lete _ _ _).1 h
    simp only [freeP, List.mem_append, inRm] at hs
    rcases hs with hs | hs
    · exact free_nm e h2 s hs
    · exact free_nm b h3 s hs.1
  | .func f x A B e, h, s, hs => by
    obtain ⟨h1, h2⟩ := (good_func _ _ _ _ _).1 h
    simp only [freeP, inRm] at hs
    exact free_nm e h2 s hs.1
/-- Zeros put for some names, one behind the other. -/
def putAll : List Nm → Ex → Ex
  | [], x => x
  | n :: ns, x => putAll ns (putE n (.num 0) x)
theorem putAll_snoc (n : Nm) : ∀ (ns : List Nm) (x : Ex), putAll (ns ++ [n]) x = putE n (.num 0) (putAll ns x)
  | [], x => rfl
  | m :: ns, x => by simp only [List.cons_append, putAll]; exact putAll_snoc n ns _
theorem putAll_same : ∀ (ns : List Nm) (x : Ex), (formOf (putAll ns x)).size = (formOf x).size ∧ (formOf (putAll ns x)).depth = (formOf x).depth
  | [], x => ⟨rfl, rfl⟩
  | n :: ns, x => by
    obtain ⟨h1, h2⟩ := putAll_same ns (putE n (.num 0) x)
    obtain ⟨h3, h4⟩ := putZ_same n x
    simp only [putAll]
    exact ⟨h1.trans h3, h2.trans h4⟩
theorem putAll_good : ∀ (ns : List Nm) (x : Ex), good x → good (putAll ns x)
  | [], x, h => h
  | n :: ns, x, h => putAll_good ns _ (putE_good goodZ x h)
theorem putAll_free (s : Nm) : ∀ (ns : List Nm) (x : Ex), s ∈ freeP (putAll ns x) ↔ s ∈ freeP x ∧ s ∉ ns
  | [], x => by simp [putAll]
  | n :: ns, x => by
    simp only [putAll, putAll_free s ns, putZ_free, List.mem_cons, not_or, and_assoc]
theorem zero_cl : readCl [48] = some (.num 0) := by
  refine readCl_some ?_ rfl
  have hp : parse (Tr.atom [48]).text = some (.atom [48]) := parse_text ⟨by decide, by decide⟩ (by decide) (by decide)
  have hp2 : parse [48] = some (.atom [48]) := hp
  rw [readEx_some hp2, if_pos (by simp [Tr.size])]
  simp [asEx, atomEx, numOf]
/-- What FnFree's first loop asks of the texts. -/
theorem putAll_text {l : List UInt8} {x : Ex} (h : readEx l = some x) (ns : List Nm) : readEx (formOf (putAll ns x)).text = some (putAll ns x) ∧ (formOf (putAll ns x)).text.length ≤ 12000 := by
  obtain ⟨-, -, h1, h2, h3, h4, h5⟩ := readA_all h
  obtain ⟨s1, s2⟩ := putAll_same ns x
  have hg := putAll_good ns x h5
  have hb := good_bytes _ hg
  refine ⟨readA_made (by omega) (by omega) hg, ?_⟩
  rw [text_length _ (good_wf _ hg)]
  omega
theorem putAll_step {l : List UInt8} {x : Ex} (h : readEx l = some x) (ns : List Nm) {n : Nm} (hn : isNm n = true) : putTx (formOf (putAll ns x)).text n [48] = some (formOf (putAll (ns ++ [n]) x)).text := by
  obtain ⟨-, -, h1, h2, h3, h4, h5⟩ := readA_all h
  unfold putTx
  rw [(putAll_text h ns).1]
  simp only [hn, if_true, zero_cl]
  rw [← putAll_snoc]
  obtain ⟨s1, s2⟩ := putAll_same (ns ++ [n]) x
  have hb := good_bytes _ (putAll_good (ns ++ [n]) x h5)
  unfold limT
  rw [if_pos ⟨by omega, by omega, by omega⟩]
theorem putAll_end {l : List UInt8} {x : Ex} (h : readEx l = some x) : readCl (formOf (putAll ((freeP x).foldl addA []) x)).text = some (putAll ((freeP x).foldl addA []) x) := by
  refine readCl_some (putAll_text h _).1 ?_
  rw [List.eq_nil_iff_forall_not_mem]
  intro s hs
  obtain ⟨h1, h2⟩ := (putAll_free s _ x).1 hs
  exact h2 ((memA_foldA s _ []).2 (.inr h1))
theorem foldA_nodup : ∀ (P l : List Nm), l.Nodup → (P.foldl addA l).Nodup
  | [], l, h => h
  | a :: P, l, h => foldA_nodup P _ (addA_nodup h a)
theorem nodup_take {l : List Nm} (h : l.Nodup) {j : Nat} (hj : j < l.length) : l[j] ∉ l.take j := by
  intro hm
  have h1 : (l.take (j + 1)).Nodup := List.Pairwise.sublist (List.take_sublist _ _) h
  rw [List.take_succ_eq_append_getElem hj] at h1
  exact (List.nodup_append.1 h1).2.2 _ hm _ (List.mem_singleton.2 rfl) rfl
end Go.Proofs.YtjncmmnbdabjnaaGreatDoor
