/- Atoms replaced by a form. Consequences of what forms and types are, for the general laws of chapter 1. What atoms stand in a form, before and after a replacement. -/
import Derived.Test.YtjncmmnbdabjnaaGreatDoorB1
import Derived.Test.YtjncmmnbdabjnaaGreatDoorB3
import Derived.Test.YtjncmmnbdabjnaaGreatDoorPureT
namespace Go.Proofs.YtjncmmnbdabjnaaGreatDoor
open Go.RowKit
set_option maxRecDepth 8000
set_option linter.unusedSimpArgs false
set_option linter.unusedVariables false
mutual
/-- Each atom replaced by a form. -/
def Tr.subst (f : List UInt8 → Tr) : Tr → Tr
  | .atom x => f x
  | .list ts => .list (substs f ts)
def substs (f : List UInt8 → Tr) : List Tr → List Tr
  | [] => []
  | t :: ts => t.subst f :: substs f ts
end
def rep (a : List UInt8) (b : Tr) (x : List UInt8) : Tr := if x = a then b else .atom x
def repl (a : List UInt8) (b : Tr) (t : Tr) : Tr := t.subst (rep a b)
def repls (a : List UInt8) (b : Tr) (ts : List Tr) : List Tr := substs (rep a b) ts
theorem substs_map (f : List UInt8 → Tr) : ∀ ts : List Tr, substs f ts = ts.map (Tr.subst f)
  | [] => rfl
  | t :: ts => by rw [substs, List.map_cons, substs_map f ts]
theorem repls_length (a : List UInt8) (b : Tr) (ts : List Tr) : (repls a b ts).length = ts.length := by rw [repls, substs_map]; simp
theorem repls_take (a : List UInt8) (b : Tr) (ts : List Tr) (k : Nat) (h : k < ts.length) : repls a b (ts.take (k + 1)) = repls a b (ts.take k) ++ [repl a b ts[k]] := by
  rw [take_snoc' _ _ h, repls, repls, substs_map, substs_map, List.map_append]; rfl
theorem repl_atom_yes {a x : List UInt8} (b : Tr) (h : x = a) : repl a b (Tr.atom x) = b := by rw [repl, Tr.subst, rep, if_pos h]
theorem repl_atom_no {a x : List UInt8} (b : Tr) (h : ¬ x = a) : repl a b (Tr.atom x) = .atom x := by rw [repl, Tr.subst, rep, if_neg h]
theorem repl_list (a : List UInt8) (b : Tr) (ts : List Tr) : repl a b (Tr.list ts) = .list (repls a b ts) := by rw [repl, Tr.subst, repls]
mutual
theorem subst_wf {f : List UInt8 → Tr} (hf : ∀ x, (Tr.atom x).wf → (f x).wf) : ∀ t : Tr, t.wf → (t.subst f).wf
  | .atom x, h => by rw [Tr.subst]; exact hf x h
  | .list ts, h => by
    rw [Tr.subst]
    refine ⟨?_, substs_wf hf ts h.2⟩
    rw [substs_map]; simpa using h.1
theorem substs_wf {f : List UInt8 → Tr} (hf : ∀ x, (Tr.atom x).wf → (f x).wf) : ∀ ts : List Tr, wfs ts → wfs (substs f ts)
  | [], _ => trivial
  | t :: ts, h => ⟨subst_wf hf t h.1, substs_wf hf ts h.2⟩
end
mutual
theorem subst_bytes {f : List UInt8 → Tr} {m : Nat} (hm : 1 ≤ m) (hf : ∀ x, (Tr.atom x).wf → (f x).bytes ≤ m * x.length) : ∀ t : Tr, t.wf → (t.subst f).bytes ≤ m * t.bytes
  | .atom x, h => by rw [Tr.subst]; exact hf x h
  | .list ts, h => by
    have := substs_bytes hm hf ts h.2
    rw [Tr.subst]
    simp only [Tr.bytes, Nat.mul_add]; omega
theorem substs_bytes {f : List UInt8 → Tr} {m : Nat} (hm : 1 ≤ m) (hf : ∀ x, (Tr.atom x).wf → (f x).bytes ≤ m * x.length) : ∀ ts : List Tr, wfs ts → bytess (substs f ts) ≤ m * bytess ts
  | [], _ => by simp [substs, bytess]
  | t :: ts, h => by
    have h1 := subst_bytes hm hf t h.1
    have h2 := substs_bytes hm hf ts h.2
    simp only [substs, bytess, Nat.mul_add]; omega
end
mutual
theorem subst_depth {f : List UInt8 → Tr} {d : Nat} (hf : ∀ x, (f x).depth ≤ d) : ∀ t : Tr, (t.subst f).depth ≤ t.depth + d
  | .atom x => by rw [Tr.subst]; have := hf x; simp only [Tr.depth]; omega
  | .list ts => by rw [Tr.subst]; exact substs_depth hf ts
theorem substs_depth {f : List UInt8 → Tr} {d : Nat} (hf : ∀ x, (f x).depth ≤ d) : ∀ ts : List Tr, depths (substs f ts) ≤ depths ts + d
  | [] => by simp [substs, depths]
  | t :: ts => by
    have h1 := subst_depth hf t
    have h2 := substs_depth hf ts
    simp only [substs, depths]; omega
end
theorem repl_wf {a : List UInt8} {b : Tr} (hb : b.wf) (t : Tr) (h : t.wf) : (repl a b t).wf := subst_wf (fun x hx => by unfold rep; split; exact hb; exact hx) t h
theorem repls_wf {a : List UInt8} {b : Tr} (hb : b.wf) (ts : List Tr) (h : wfs ts) : wfs (repls a b ts) := substs_wf (fun x hx => by unfold rep; split; exact hb; exact hx) ts h
theorem rep_bytes {a : List UInt8} {b : Tr} {m : Nat} (hb : b.bytes ≤ m) (hm : 1 ≤ m) (x : List UInt8) (hx : (Tr.atom x).wf) : (rep a b x).bytes ≤ m * x.length := by
  have h1 : 1 ≤ x.length := by have := hx.1; cases x with | nil => exact absurd rfl this | cons c l => simp
  have h2 : m * 1 ≤ m * x.length := Nat.mul_le_mul_left m h1
  have h3 : 1 * x.length ≤ m * x.length := Nat.mul_le_mul_right _ hm
  unfold rep; split
  · omega
  · simp only [Tr.bytes]; omega
theorem repl_bytes {a : List UInt8} {b : Tr} {m : Nat} (hb : b.bytes ≤ m) (hm : 1 ≤ m) (t : Tr) (h : t.wf) : (repl a b t).bytes ≤ m * t.bytes := subst_bytes hm (rep_bytes hb hm) t h
theorem repls_bytes {a : List UInt8} {b : Tr} {m : Nat} (hb : b.bytes ≤ m) (hm : 1 ≤ m) (ts : List Tr) (h : wfs ts) : bytess (repls a b ts) ≤ m * bytess ts := substs_bytes hm (rep_bytes hb hm) ts h
theorem repl_depth (a : List UInt8) (b : Tr) (t : Tr) : (repl a b t).depth ≤ t.depth + b.depth := subst_depth (fun x => by unfold rep; split; exact Nat.le_refl _; simp only [Tr.depth]; omega) t
/-- The form with an atom replaced, if it is one. -/
def replOf (s a y : List UInt8) : Option Tr :=
  match parse s, parse a, parse y with
  | some t, some (.atom x), some b => if (repl x b t).bytes ≤ 12000 ∧ (repl x b t).depth ≤ 60 then some (repl x b t) else none
  | _, _, _ => none
theorem replOf_1 {s : List UInt8} (a y : List UInt8) (h : parse s = none) : replOf s a y = none := by simp [replOf, h]
theorem replOf_2 (s : List UInt8) {a : List UInt8} (y : List UInt8) (h : parse a = none) : replOf s a y = none := by unfold replOf; rw [h]; cases parse s <;> rfl
theorem replOf_3 (s a : List UInt8) {y : List UInt8} (h : parse y = none) : replOf s a y = none := by
  unfold replOf; rw [h]
  cases parse s with
  | none => rfl
  | some t => cases parse a with
    | none => rfl
    | some x => cases x <;> rfl
theorem replOf_4 (s : List UInt8) {a : List UInt8} (y : List UInt8) {ts : List Tr} (h : parse a = some (.list ts)) : replOf s a y = none := by
  unfold replOf; rw [h]; cases parse s <;> rfl
theorem replOf_some {s a y x : List UInt8} {t b : Tr} (h1 : parse s = some t) (h2 : parse a = some (.atom x)) (h3 : parse y = some b) :
    replOf s a y = if (repl x b t).bytes ≤ 12000 ∧ (repl x b t).depth ≤ 60 then some (repl x b t) else none := by simp [replOf, h1, h2, h3]
end Go.Proofs.YtjncmmnbdabjnaaGreatDoor
namespace Go.Proofs.YtjncmmnbdabjnaaGreatDoor
open Go.RowKit
set_option maxRecDepth 8000
set_option linter.unusedSimpArgs false
set_option linter.unusedVariables false
theorem parse_paren {l : List UInt8} {t : Tr} (h : parse l = some t) : parse (l ++ [41]) = none := by
  obtain ⟨h1, h2, h3, rfl⟩ := parse_got h
  unfold parse
  split
  · rfl
  · rw [read_text 61 t h1 (by omega) [41] (stop_of (by decide))]
theorem size_of_parse {l : List UInt8} {t : Tr} (h : parse l = some t) : sizeOfText l = (t.size : Int) := by simp [sizeOfText, h]
theorem depth_of_parse {l : List UInt8} {t : Tr} (h : parse l = some t) : depthOfText l = (t.depth : Int) := by simp [depthOfText, h]
theorem size_ge {l : List UInt8} {t : Tr} (h : parse l = some t) : 1 ≤ t.size ∧ t.size ≤ l.length := by
  obtain ⟨h1, h2, h3, rfl⟩ := parse_got h
  have := size_le t h1
  have := text_length t h1
  omega
theorem atoms_range {l : List UInt8} {t : Tr} (h : parse l = some t) : 1 ≤ (atoms t []).length ∧ (atoms t []).length ≤ t.size := by
  obtain ⟨h1, h2, h3, rfl⟩ := parse_got h
  have h4 := atoms_len t [] h1
  refine ⟨?_, by simpa using h4.2⟩
  have h5 : ∀ (t : Tr) (l : List (List UInt8)), t.wf → 1 ≤ (atoms t l).length := by
    intro t
    induction t using Tr.rec (motive_2 := fun ts => ∀ (l : List (List UInt8)), wfs ts → ts ≠ [] → 1 ≤ (atomss ts l).length) with
    | atom a =>
      intro l _
      rw [atoms_atom]
      unfold addA
      split
      · rename_i h; exact List.length_pos_of_mem h
      · simp
    | list ts ih => intro l h; rw [atoms_list]; exact ih l h.2 h.1
    | nil => rename_i h; exact absurd rfl h
    | cons a ts ih1 ih2 =>
      rename_i l h _
      simp only [atomss]
      have h6 := ih1 l h.1
      have h7 := (atomss_len ts (atoms a l) h.2).1
      omega
  exact h5 t [] h1
/-- A type of chapter 1 that is a text, taken apart. -/
theorem ty_sides {l : List UInt8} {t : Tr} (h : readTy l = some t) : (l = [105] ∧ sidesOf [62] l = none ∧ sidesOf [42] l = none) ∨ ∃ c x a b, (c = 62 ∨ c = 42) ∧ t = .list [x, a, b] ∧ atomOf x = [c] ∧ sidesOf [c] l = some (a.text, b.text) ∧ (∀ d, d ≠ c → sidesOf [d] l = none) ∧ isTy a = true ∧ isTy b = true ∧ l ≠ [105] ∧ a.size + b.size + 1 ≤ 16 ∧ l = 40 :: c :: 32 :: (a.text ++ 32 :: (b.text ++ [41])) := by
  obtain ⟨g1, g2, g3, g4, g5, g6⟩ := readTy_got h
  cases t with
  | atom a =>
    rw [isTy_atom] at g5
    simp only [beq_iff_eq] at g5
    subst g5
    exact .inl ⟨g4, sides_atom _ h, sides_atom _ h⟩
  | list ts =>
    obtain ⟨x, a, b, rfl, hx, ha, hb⟩ := isTy_list g5
    obtain ⟨c, hc, hxc⟩ : ∃ c : UInt8, (c = 62 ∨ c = 42) ∧ atomOf x = [c] := by rcases hx with hx | hx; exact ⟨62, .inl rfl, hx⟩; exact ⟨42, .inr rfl, hx⟩
    have hxa : x = .atom [c] := by
      cases x with
      | atom s => simp only [atomOf] at hxc; rw [hxc]
      | list s => simp [atomOf] at hxc
    have hl : l = 40 :: c :: 32 :: (a.text ++ 32 :: (b.text ++ [41])) := by rw [g4, hxa]; exact made_text c a b
    refine .inr ⟨c, x, a, b, hc, rfl, hxc, sides_yes _ h hxc, fun d hd => sides_no _ h (by rw [hxc]; simpa using fun e => hd e.symm), ha, hb, ?_, ?_, hl⟩
    · rw [hl]; intro e; simp at e
    · rw [hxa] at g6; simp only [Tr.size, sizes] at g6; omega
theorem readTy_part {a : Tr} (ha : isTy a = true) (hs : a.size ≤ 16) : readTy a.text = some a := by
  obtain ⟨h1, h2, h3⟩ := isTy_small _ a (Nat.le_refl _) ha
  have hp := parse_text h3 (by omega) (by omega)
  rw [readTy_some hp, if_pos (by simp [ha, hs])]
theorem orderOf_some {l : List UInt8} {t : Tr} (h : readTy l = some t) : orderOf l = (tyOrder t : Int) := by simp [orderOf, h]
end Go.Proofs.YtjncmmnbdabjnaaGreatDoor
namespace Go.Proofs.YtjncmmnbdabjnaaGreatDoor
open Go.RowKit
set_option maxRecDepth 8000
set_option linter.unusedSimpArgs false
set_option linter.unusedVariables false
mutual
def occ (y : Nm) : Tr → Bool
  | .atom a => decide (y = a)
  | .list ts => occs y ts
def occs (y : Nm) : List Tr → Bool
  | [] => false
  | t :: ts => occ y t || occs y ts
end
mutual
theorem mem_atoms (y : Nm) : ∀ (t : Tr) (l : List Nm), y ∈ atoms t l ↔ y ∈ l ∨ occ y t = true
  | .atom a, l => by
    rw [atoms_atom]
    unfold addA
    simp only [occ, decide_eq_true_eq]
    split
    · rename_i h
      constructor
      · exact .inl
      · rintro (h2 | rfl); exact h2; exact h
    · simp [List.mem_append]
  | .list ts, l => by rw [atoms_list, mem_atomss y ts l]; simp only [occ]
theorem mem_atomss (y : Nm) : ∀ (ts : List Tr) (l : List Nm), y ∈ atomss ts l ↔ y ∈ l ∨ occs y ts = true
  | [], l => by simp [atomss, occs]
  | t :: ts, l => by simp only [atomss, mem_atomss y ts, mem_atoms y t, occs, Bool.or_eq_true, or_assoc]
end
mutual
theorem occ_subst (a : Nm) (b : Tr) : ∀ t : Tr, occ a (t.subst (rep a b)) = (occ a t && occ a b)
  | .atom x => by
    simp only [Tr.subst, rep, occ]
    by_cases h : x = a
    · rw [if_pos h]; simp [h]
    · rw [if_neg h]; simp only [occ]
      have : ¬ a = x := fun e => h e.symm
      simp [this]
  | .list ts => by simp only [Tr.subst, occ]; exact occs_subst a b ts
theorem occs_subst (a : Nm) (b : Tr) : ∀ ts : List Tr, occs a (substs (rep a b) ts) = (occs a ts && occ a b)
  | [] => by simp [substs, occs]
  | t :: ts => by simp only [substs, occs, occ_subst a b t, occs_subst a b ts, Bool.and_or_distrib_right]
end
mutual
theorem subst_out (a : Nm) (b : Tr) : ∀ t : Tr, occ a t = false → t.subst (rep a b) = t
  | .atom x, h => by
    simp only [occ, decide_eq_false_iff_not] at h
    simp only [Tr.subst, rep]
    rw [if_neg (fun e => h e.symm)]
  | .list ts, h => by simp only [occ] at h; simp only [Tr.subst]; rw [substs_out a b ts h]
theorem substs_out (a : Nm) (b : Tr) : ∀ ts : List Tr, occs a ts = false → substs (rep a b) ts = ts
  | [], _ => rfl
  | t :: ts, h => by
    simp only [occs, Bool.or_eq_false_iff] at h
    simp only [substs]
    rw [subst_out a b t h.1, substs_out a b ts h.2]
end
mutual
theorem subst_self (a : Nm) : ∀ t : Tr, t.subst (rep a (.atom a)) = t
  | .atom x => by
    simp only [Tr.subst, rep]
    by_cases h : x = a
    · rw [if_pos h, h]
    · rw [if_neg h]
  | .list ts => by simp only [Tr.subst]; rw [substs_self a ts]
theorem substs_self (a : Nm) : ∀ ts : List Tr, substs (rep a (.atom a)) ts = ts
  | [] => rfl
  | t :: ts => by simp only [substs]; rw [subst_self a t, substs_self a ts]
end
mutual
theorem occ_wf (y : Nm) : ∀ t : Tr, t.wf → occ y t = true → (Tr.atom y).wf ∧ y.length ≤ t.bytes
  | .atom a, h, ho => by
    simp only [occ, decide_eq_true_eq] at ho
    subst ho
    exact ⟨h, by simp [Tr.bytes]⟩
  | .list ts, h, ho => by
    simp only [occ] at ho
    obtain ⟨h1, h2⟩ := occs_wf y ts h.2 ho
    exact ⟨h1, by simp only [Tr.bytes]; omega⟩
theorem occs_wf (y : Nm) : ∀ ts : List Tr, wfs ts → occs y ts = true → (Tr.atom y).wf ∧ y.length ≤ bytess ts
  | [], _, h => by simp [occs] at h
  | t :: ts, h, ho => by
    simp only [occs, Bool.or_eq_true] at ho
    rcases ho with ho | ho
    · obtain ⟨h1, h2⟩ := occ_wf y t h.1 ho
      exact ⟨h1, by simp only [bytess]; omega⟩
    · obtain ⟨h1, h2⟩ := occs_wf y ts h.2 ho
      exact ⟨h1, by simp only [bytess]; omega⟩
end
theorem addA_nodup {l : List Nm} (h : l.Nodup) (a : Nm) : (addA l a).Nodup := by
  unfold addA
  split
  · exact h
  · rename_i hn
    exact List.nodup_append.2 ⟨h, by simp, fun x hx y hy e => by simp only [List.mem_singleton] at hy; subst hy; exact hn (e ▸ hx)⟩
mutual
theorem atoms_nodup : ∀ (t : Tr) (l : List Nm), l.Nodup → (atoms t l).Nodup
  | .atom a, l, h => by rw [atoms_atom]; exact addA_nodup h a
  | .list ts, l, h => by rw [atoms_list]; exact atomss_nodup ts l h
theorem atomss_nodup : ∀ (ts : List Tr) (l : List Nm), l.Nodup → (atomss ts l).Nodup
  | [], l, h => h
  | t :: ts, l, h => by simp only [atomss]; exact atomss_nodup ts _ (atoms_nodup t l h)
end
theorem parse_atom {y : Nm} (h : (Tr.atom y).wf) (hl : y.length ≤ 12000) : parse y = some (.atom y) := parse_text (t := .atom y) h (by simpa [Tr.bytes] using hl) (by simp [Tr.depth])
/-- What a replacement that succeeds says. -/
theorem replOf_got {s a y : List UInt8} {T : Tr} (h : replOf s a y = some T) : ∃ t b, parse s = some t ∧ parse y = some b ∧ parse T.text = some T ∧ (occ a T = (occ a t && occ a b)) ∧ (occ a t = false → T.text = s) := by
  cases h1 : parse s with
  | none => rw [replOf_1 a y h1] at h; cases h
  | some t =>
    cases h2 : parse a with
    | none => rw [replOf_2 s y h2] at h; cases h
    | some u =>
      cases u with
      | list us => rw [replOf_4 s y h2] at h; cases h
      | atom x =>
        cases h3 : parse y with
        | none => rw [replOf_3 s a h3] at h; cases h
        | some b =>
          rw [replOf_some h1 h2 h3] at h
          split at h
          · rename_i hb
            simp only [Option.some.injEq] at h
            subst h
            have hx : a = x := (parse_got h2).2.2.2
            subst hx
            have gt := parse_got h1
            have gb := parse_got h3
            exact ⟨t, b, rfl, rfl, parse_text (repl_wf gb.1 t gt.1) hb.1 hb.2, occ_subst a b t, fun ho => by rw [repl, subst_out a b t ho]; exact gt.2.2.2.symm⟩
          · cases h
theorem replOf_self {s : List UInt8} {t : Tr} {a : Nm} (h : parse s = some t) (ha : occ a t = true) : replOf s a a = some t ∧ depthOfText a = 0 := by
  have g := parse_got h
  obtain ⟨h1, h2⟩ := occ_wf a t g.1 ha
  have hp := parse_atom h1 (by omega)
  have e : repl a (.atom a) t = t := subst_self a t
  rw [replOf_some h hp hp, e, if_pos ⟨g.2.1, g.2.2.1⟩]
  exact ⟨rfl, by rw [depth_of_parse hp]; simp [Tr.depth]⟩
end Go.Proofs.YtjncmmnbdabjnaaGreatDoor
