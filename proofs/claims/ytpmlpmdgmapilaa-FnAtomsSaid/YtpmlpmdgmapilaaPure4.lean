/- Atoms replaced by a form. -/
import Derived.Test.YtpmlpmdgmapilaaB1
namespace Go.Proofs.Ytpmlpmdgmapilaa
open Go.RowKit
set_option maxRecDepth 8000
set_option linter.unusedSimpArgs false
set_option linter.unusedVariables false
mutual
/-- Each atom replaced by a form. -/
def Tr.subst (f : List UInt8 → Tr) : Tr → Tr
  | .atom x => f x
  | .list ts => .list (substs f ts)
def substs (f : List UInt8 → Tr) : List Tr → List Tr
  | [] => []
  | t :: ts => t.subst f :: substs f ts
end
def rep (a : List UInt8) (b : Tr) (x : List UInt8) : Tr := if x = a then b else .atom x
def repl (a : List UInt8) (b : Tr) (t : Tr) : Tr := t.subst (rep a b)
def repls (a : List UInt8) (b : Tr) (ts : List Tr) : List Tr := substs (rep a b) ts
theorem substs_map (f : List UInt8 → Tr) : ∀ ts : List Tr, substs f ts = ts.map (Tr.subst f)
  | [] => rfl
  | t :: ts => by rw [substs, List.map_cons, substs_map f ts]
theorem repls_length (a : List UInt8) (b : Tr) (ts : List Tr) : (repls a b ts).length = ts.length := by rw [repls, substs_map]; simp
theorem repls_take (a : List UInt8) (b : Tr) (ts : List Tr) (k : Nat) (h : k < ts.length) : repls a b (ts.take (k + 1)) = repls a b (ts.take k) ++ [repl a b ts[k]] := by
  rw [take_snoc' _ _ h, repls, repls, substs_map, substs_map, List.map_append]; rfl
theorem repl_atom_yes {a x : List UInt8} (b : Tr) (h : x = a) : repl a b (Tr.atom x) = b := by rw [repl, Tr.subst, rep, if_pos h]
theorem repl_atom_no {a x : List UInt8} (b : Tr) (h : ¬ x = a) : repl a b (Tr.atom x) = .atom x := by rw [repl, Tr.subst, rep, if_neg h]
theorem repl_list (a : List UInt8) (b : Tr) (ts : List Tr) : repl a b (Tr.list ts) = .list (repls a b ts) := by rw [repl, Tr.subst, repls]
mutual
theorem subst_wf {f : List UInt8 → Tr} (hf : ∀ x, (Tr.atom x).wf → (f x).wf) : ∀ t : Tr, t.wf → (t.subst f).wf
  | .atom x, h => by rw [Tr.subst]; exact hf x h
  | .list ts, h => by
    rw [Tr.subst]
    refine ⟨?_, substs_wf hf ts h.2⟩
    rw [substs_map]; simpa using h.1
theorem substs_wf {f : List UInt8 → Tr} (hf : ∀ x, (Tr.atom x).wf → (f x).wf) : ∀ ts : List Tr, wfs ts → wfs (substs f ts)
  | [], _ => trivial
  | t :: ts, h => ⟨subst_wf hf t h.1, substs_wf hf ts h.2⟩
end
mutual
theorem subst_bytes {f : List UInt8 → Tr} {m : Nat} (hm : 1 ≤ m) (hf : ∀ x, (Tr.atom x).wf → (f x).bytes ≤ m * x.length) : ∀ t : Tr, t.wf → (t.subst f).bytes ≤ m * t.bytes
  | .atom x, h => by rw [Tr.subst]; exact hf x h
  | .list ts, h => by
    have := substs_bytes hm hf ts h.2
    rw [Tr.subst]
    simp only [Tr.bytes, Nat.mul_add]; omega
theorem substs_bytes {f : List UInt8 → Tr} {m : Nat} (hm : 1 ≤ m) (hf : ∀ x, (Tr.atom x).wf → (f x).bytes ≤ m * x.length) : ∀ ts : List Tr, wfs ts → bytess (substs f ts) ≤ m * bytess ts
  | [], _ => by simp [substs, bytess]
  | t :: ts, h => by
    have h1 := subst_bytes hm hf t h.1
    have h2 := substs_bytes hm hf ts h.2
    simp only [substs, bytess, Nat.mul_add]; omega
end
mutual
theorem subst_depth {f : List UInt8 → Tr} {d : Nat} (hf : ∀ x, (f x).depth ≤ d) : ∀ t : Tr, (t.subst f).depth ≤ t.depth + d
  | .atom x => by rw [Tr.subst]; have := hf x; simp only [Tr.depth]; omega
  | .list ts => by rw [Tr.subst]; exact substs_depth hf ts
theorem substs_depth {f : List UInt8 → Tr} {d : Nat} (hf : ∀ x, (f x).depth ≤ d) : ∀ ts : List Tr, depths (substs f ts) ≤ depths ts + d
  | [] => by simp [substs, depths]
  | t :: ts => by
    have h1 := subst_depth hf t
    have h2 := substs_depth hf ts
    simp only [substs, depths]; omega
end
theorem repl_wf {a : List UInt8} {b : Tr} (hb : b.wf) (t : Tr) (h : t.wf) : (repl a b t).wf := subst_wf (fun x hx => by unfold rep; split; exact hb; exact hx) t h
theorem repls_wf {a : List UInt8} {b : Tr} (hb : b.wf) (ts : List Tr) (h : wfs ts) : wfs (repls a b ts) := substs_wf (fun x hx => by unfold rep; split; exact hb; exact hx) ts h
theorem rep_bytes {a : List UInt8} {b : Tr} {m : Nat} (hb : b.bytes ≤ m) (hm : 1 ≤ m) (x : List UInt8) (hx : (Tr.atom x).wf) : (rep a b x).bytes ≤ m * x.length := by
  have h1 : 1 ≤ x.length := by have := hx.1; cases x with | nil => exact absurd rfl this | cons c l => simp
  have h2 : m * 1 ≤ m * x.length := Nat.mul_le_mul_left m h1
  have h3 : 1 * x.length ≤ m * x.length := Nat.mul_le_mul_right _ hm
  unfold rep; split
  · omega
  · simp only [Tr.bytes]; omega
theorem repl_bytes {a : List UInt8} {b : Tr} {m : Nat} (hb : b.bytes ≤ m) (hm : 1 ≤ m) (t : Tr) (h : t.wf) : (repl a b t).bytes ≤ m * t.bytes := subst_bytes hm (rep_bytes hb hm) t h
theorem repls_bytes {a : List UInt8} {b : Tr} {m : Nat} (hb : b.bytes ≤ m) (hm : 1 ≤ m) (ts : List Tr) (h : wfs ts) : bytess (repls a b ts) ≤ m * bytess ts := substs_bytes hm (rep_bytes hb hm) ts h
theorem repl_depth (a : List UInt8) (b : Tr) (t : Tr) : (repl a b t).depth ≤ t.depth + b.depth := subst_depth (fun x => by unfold rep; split; exact Nat.le_refl _; simp only [Tr.depth]; omega) t
/-- The form with an atom replaced, if it is one. -/
def replOf (s a y : List UInt8) : Option Tr :=
  match parse s, parse a, parse y with
  | some t, some (.atom x), some b => if (repl x b t).bytes ≤ 12000 ∧ (repl x b t).depth ≤ 60 then some (repl x b t) else none
  | _, _, _ => none
theorem replOf_1 {s : List UInt8} (a y : List UInt8) (h : parse s = none) : replOf s a y = none := by simp [replOf, h]
theorem replOf_2 (s : List UInt8) {a : List UInt8} (y : List UInt8) (h : parse a = none) : replOf s a y = none := by unfold replOf; rw [h]; cases parse s <;> rfl
theorem replOf_3 (s a : List UInt8) {y : List UInt8} (h : parse y = none) : replOf s a y = none := by
  unfold replOf; rw [h]
  cases parse s with
  | none => rfl
  | some t => cases parse a with
    | none => rfl
    | some x => cases x <;> rfl
theorem replOf_4 (s : List UInt8) {a : List UInt8} (y : List UInt8) {ts : List Tr} (h : parse a = some (.list ts)) : replOf s a y = none := by
  unfold replOf; rw [h]; cases parse s <;> rfl
theorem replOf_some {s a y x : List UInt8} {t b : Tr} (h1 : parse s = some t) (h2 : parse a = some (.atom x)) (h3 : parse y = some b) :
    replOf s a y = if (repl x b t).bytes ≤ 12000 ∧ (repl x b t).depth ≤ 60 then some (repl x b t) else none := by simp [replOf, h1, h2, h3]
end Go.Proofs.Ytpmlpmdgmapilaa
