/- What atoms stand in a form, before and after a replacement. -/
import Derived.Test.YtpmlpmdgmapilaaPureL1
import Derived.Test.YtpmlpmdgmapilaaPure4
namespace Go.Proofs.Ytpmlpmdgmapilaa
open Go.RowKit
set_option maxRecDepth 8000
set_option linter.unusedSimpArgs false
set_option linter.unusedVariables false
mutual
def occ (y : Nm) : Tr → Bool
  | .atom a => decide (y = a)
  | .list ts => occs y ts
def occs (y : Nm) : List Tr → Bool
  | [] => false
  | t :: ts => occ y t || occs y ts
end
mutual
theorem mem_atoms (y : Nm) : ∀ (t : Tr) (l : List Nm), y ∈ atoms t l ↔ y ∈ l ∨ occ y t = true
  | .atom a, l => by
    rw [atoms_atom]
    unfold addA
    simp only [occ, decide_eq_true_eq]
    split
    · rename_i h
      constructor
      · exact .inl
      · rintro (h2 | rfl); exact h2; exact h
    · simp [List.mem_append]
  | .list ts, l => by rw [atoms_list, mem_atomss y ts l]; simp only [occ]
theorem mem_atomss (y : Nm) : ∀ (ts : List Tr) (l : List Nm), y ∈ atomss ts l ↔ y ∈ l ∨ occs y ts = true
  | [], l => by simp [atomss, occs]
  | t :: ts, l => by simp only [atomss, mem_atomss y ts, mem_atoms y t, occs, Bool.or_eq_true, or_assoc]
end
mutual
theorem occ_subst (a : Nm) (b : Tr) : ∀ t : Tr, occ a (t.subst (rep a b)) = (occ a t && occ a b)
  | .atom x => by
    simp only [Tr.subst, rep, occ]
    by_cases h : x = a
    · rw [if_pos h]; simp [h]
    · rw [if_neg h]; simp only [occ]
      have : ¬ a = x := fun e => h e.symm
      simp [this]
  | .list ts => by simp only [Tr.subst, occ]; exact occs_subst a b ts
theorem occs_subst (a : Nm) (b : Tr) : ∀ ts : List Tr, occs a (substs (rep a b) ts) = (occs a ts && occ a b)
  | [] => by simp [substs, occs]
  | t :: ts => by simp only [substs, occs, occ_subst a b t, occs_subst a b ts, Bool.and_or_distrib_right]
end
mutual
theorem subst_out (a : Nm) (b : Tr) : ∀ t : Tr, occ a t = false → t.subst (rep a b) = t
  | .atom x, h => by
    simp only [occ, decide_eq_false_iff_not] at h
    simp only [Tr.subst, rep]
    rw [if_neg (fun e => h e.symm)]
  | .list ts, h => by simp only [occ] at h; simp only [Tr.subst]; rw [substs_out a b ts h]
theorem substs_out (a : Nm) (b : Tr) : ∀ ts : List Tr, occs a ts = false → substs (rep a b) ts = ts
  | [], _ => rfl
  | t :: ts, h => by
    simp only [occs, Bool.or_eq_false_iff] at h
    simp only [substs]
    rw [subst_out a b t h.1, substs_out a b ts h.2]
end
mutual
theorem subst_self (a : Nm) : ∀ t : Tr, t.subst (rep a (.atom a)) = t
  | .atom x => by
    simp only [Tr.subst, rep]
    by_cases h : x = a
    · rw [if_pos h, h]
    · rw [if_neg h]
  | .list ts => by simp only [Tr.subst]; rw [substs_self a ts]
theorem substs_self (a : Nm) : ∀ ts : List Tr, substs (rep a (.atom a)) ts = ts
  | [] => rfl
  | t :: ts => by simp only [substs]; rw [subst_self a t, substs_self a ts]
end
mutual
theorem occ_wf (y : Nm) : ∀ t : Tr, t.wf → occ y t = true → (Tr.atom y).wf ∧ y.length ≤ t.bytes
  | .atom a, h, ho => by
    simp only [occ, decide_eq_true_eq] at ho
    subst ho
    exact ⟨h, by simp [Tr.bytes]⟩
  | .list ts, h, ho => by
    simp only [occ] at ho
    obtain ⟨h1, h2⟩ := occs_wf y ts h.2 ho
    exact ⟨h1, by simp only [Tr.bytes]; omega⟩
theorem occs_wf (y : Nm) : ∀ ts : List Tr, wfs ts → occs y ts = true → (Tr.atom y).wf ∧ y.length ≤ bytess ts
  | [], _, h => by simp [occs] at h
  | t :: ts, h, ho => by
    simp only [occs, Bool.or_eq_true] at ho
    rcases ho with ho | ho
    · obtain ⟨h1, h2⟩ := occ_wf y t h.1 ho
      exact ⟨h1, by simp only [bytess]; omega⟩
    · obtain ⟨h1, h2⟩ := occs_wf y ts h.2 ho
      exact ⟨h1, by simp only [bytess]; omega⟩
end
theorem addA_nodup {l : List Nm} (h : l.Nodup) (a : Nm) : (addA l a).Nodup := by
  unfold addA
  split
  · exact h
  · rename_i hn
    exact List.nodup_append.2 ⟨h, by simp, fun x hx y hy e => by simp only [List.mem_singleton] at hy; subst hy; exact hn (e ▸ hx)⟩
mutual
theorem atoms_nodup : ∀ (t : Tr) (l : List Nm), l.Nodup → (atoms t l).Nodup
  | .atom a, l, h => by rw [atoms_atom]; exact addA_nodup h a
  | .list ts, l, h => by rw [atoms_list]; exact atomss_nodup ts l h
theorem atomss_nodup : ∀ (ts : List Tr) (l : List Nm), l.Nodup → (atomss ts l).Nodup
  | [], l, h => h
  | t :: ts, l, h => by simp only [atomss]; exact atomss_nodup ts _ (atoms_nodup t l h)
end
theorem parse_atom {y : Nm} (h : (Tr.atom y).wf) (hl : y.length ≤ 12000) : parse y = some (.atom y) := parse_text (t := .atom y) h (by simpa [Tr.bytes] using hl) (by simp [Tr.depth])
/-- What a replacement that succeeds says. -/
theorem replOf_got {s a y : List UInt8} {T : Tr} (h : replOf s a y = some T) : ∃ t b, parse s = some t ∧ parse y = some b ∧ parse T.text = some T ∧ (occ a T = (occ a t && occ a b)) ∧ (occ a t = false → T.text = s) := by
  cases h1 : parse s with
  | none => rw [replOf_1 a y h1] at h; cases h
  | some t =>
    cases h2 : parse a with
    | none => rw [replOf_2 s y h2] at h; cases h
    | some u =>
      cases u with
      | list us => rw [replOf_4 s y h2] at h; cases h
      | atom x =>
        cases h3 : parse y with
        | none => rw [replOf_3 s a h3] at h; cases h
        | some b =>
          rw [replOf_some h1 h2 h3] at h
          split at h
          · rename_i hb
            simp only [Option.some.injEq] at h
            subst h
            have hx : a = x := (parse_got h2).2.2.2
            subst hx
            have gt := parse_got h1
            have gb := parse_got h3
            exact ⟨t, b, rfl, rfl, parse_text (repl_wf gb.1 t gt.1) hb.1 hb.2, occ_subst a b t, fun ho => by rw [repl, subst_out a b t ho]; exact gt.2.2.2.symm⟩
          · cases h
theorem replOf_self {s : List UInt8} {t : Tr} {a : Nm} (h : parse s = some t) (ha : occ a t = true) : replOf s a a = some t ∧ depthOfText a = 0 := by
  have g := parse_got h
  obtain ⟨h1, h2⟩ := occ_wf a t g.1 ha
  have hp := parse_atom h1 (by omega)
  have e : repl a (.atom a) t = t := subst_self a t
  rw [replOf_some h hp hp, e, if_pos ⟨g.2.1, g.2.2.1⟩]
  exact ⟨rfl, by rw [depth_of_parse hp]; simp [Tr.depth]⟩
end Go.Proofs.Ytpmlpmdgmapilaa
