/- The program's expressions by head. The program reads an expression: the parts with names, and the atoms. The program reads an expression. The program reads whole texts as expressions. -/
import Derived.Test.YtibiennbjegomaaDoorImpl2d
import Derived.Deep.RegionHeld3
import Derived.Deep.LoopGhost
namespace Go.Proofs.YtibiennbjegomaaDoor
open Go.RowKit
set_option maxRecDepth 8000
set_option linter.unusedSimpArgs false
set_option linter.unusedVariables false
/-- The values of expressions, in order. -/
def EVs (w : World) (ok : Nat → Prop) : List Ex → List Value → Prop
  | [], vs => vs = []
  | e :: es, vs => ∃ v us, vs = v :: us ∧ EV w ok e v ∧ EVs w ok es us
theorem EVs.move {w w' : World} {ok ok' : Nat → Prop} (hk : ∀ k, ok k → ok' k) (hb : ∀ k, ok k → w'.heap[k]? = w.heap[k]?) : ∀ (es : List Ex) (vs : List Value), EVs w ok es vs → EVs w' ok' es vs
  | [], vs, h => h
  | e :: es, vs, h => by
    simp only [EVs] at h ⊢
    obtain ⟨v, us, rfl, h1, h2⟩ := h
    exact ⟨v, us, rfl, EV.move hk hb e v h1, EVs.move hk hb es us h2⟩
theorem EVs.snoc {w : World} {ok : Nat → Prop} {e : Ex} {v : Value} (hv : EV w ok e v) : ∀ {es : List Ex} {vs : List Value}, EVs w ok es vs → EVs w ok (es ++ [e]) (vs ++ [v])
  | [], vs, h => by simp only [EVs] at h; subst h; exact ⟨v, [], rfl, hv, rfl⟩
  | a :: es, vs, h => by
    simp only [EVs] at h
    obtain ⟨u, us, rfl, h1, h2⟩ := h
    exact ⟨u, us ++ [v], rfl, h1, EVs.snoc hv h2⟩
theorem EVs.length {w : World} {ok : Nat → Prop} : ∀ {es : List Ex} {vs : List Value}, EVs w ok es vs → vs.length = es.length
  | [], vs, h => by simp only [EVs] at h; subst h; rfl
  | a :: es, vs, h => by
    simp only [EVs] at h
    obtain ⟨u, us, rfl, h1, h2⟩ := h
    simp [EVs.length h2]
theorem below_drewI (w : World) (n : Nat) : Below w.heap.size w (w.drewN n) := ⟨rfl, rfl, rfl, Nat.le_refl _, fun _ _ => rfl⟩
end Go.Proofs.YtibiennbjegomaaDoor
namespace Go.Proofs.YtibiennbjegomaaDoor
open Go.RowKit
set_option linter.unusedSimpArgs false
set_option linter.unusedVariables false
theorem asLetE_other {ps : List Tr} (h : ps.length ≠ 3) : asLetE ps = none := by
  match ps, h with
  | [], _ => rfl
  | [_], _ => rfl
  | [_, _], _ => rfl
  | [_, _, _], h => exact absurd rfl h
  | _ :: _ :: _ :: _ :: _, _ => rfl
theorem asFunE_other {ps : List Tr} (h : ps.length ≠ 5) : asFunE ps = none := by
  match ps, h with
  | [], _ => rfl
  | [_], _ => rfl
  | [_, _], _ => rfl
  | [_, _, _], _ => rfl
  | [_, _, _, _], _ => rfl
  | [_, _, _, _, _], h => exact absurd rfl h
  | _ :: _ :: _ :: _ :: _ :: _ :: _, _ => rfl
theorem exPost_shape {ok : Nat → Prop} {res : Option Ex} {e : Ending} {w' : World} (hq : ExPost ok res e w') : ∃ x z, e = .returned (.tuple #[x, .bool z]) := by
  unfold ExPost at hq
  split at hq
  · rcases hq with hq | ⟨T, u, hq⟩ <;> exact ⟨_, _, hq⟩
  · obtain ⟨v, hq, _⟩ := hq; exact ⟨_, _, hq⟩
theorem five_ofI {ps : List Tr} (h : ps.length = 5) : ∃ a b c d e, ps = [a, b, c, d, e] := by
  match ps, h with
  | [a, b, c, d, e], _ => exact ⟨a, b, c, d, e, rfl⟩
end Go.Proofs.YtibiennbjegomaaDoor
namespace Go.Proofs.YtibiennbjegomaaDoor
open Go.RowKit
set_option linter.unusedSimpArgs false
set_option linter.unusedVariables false
theorem row_rest {w : World} {ok : Nat → Prop} {h : Tr} {ps : List Tr} {xs : List Value} {r off : Nat} (h6 : FVs nI w ok (h :: ps) xs) (h5 : hasRow w r off xs) :
    ∃ ys, FVs nI w ok ps ys ∧ hasRow w r (off + 5) ys ∧ w.cell? ⟨r, off, none⟩ = some (.string (bs (atomOf h))) := by
  obtain ⟨cs, g1, g2⟩ := FVs.get nI_len h6 h5 0 (by simp)
  simp only [FVs] at h6
  obtain ⟨a, b, rfl, k2, k3⟩ := h6
  have hla : a.length = 5 := by obtain ⟨p, n, c, rfl⟩ := k2.node; rfl
  refine ⟨b, k3, fun j v hj => ?_, ?_⟩
  · have := h5 (5 + j) v (by rw [List.getElem?_append_right (by omega)]; rw [hla]; simpa using hj)
    rw [show off + 5 + j = off + (5 + j) from by omega]; exact this
  · obtain ⟨p, n, c, rfl⟩ := g1.node
    have := g2 0 _ rfl
    simpa using this
theorem Tryd.infoExpr : (Tryd.prog.info? 39).map (fun i => (i.zero, i.size, i.bytes)) = some (some .nilIface, 1, 16) := by kernel_rfl
theorem kids_none : ∀ {ps : List Tr} {k : Nat} (hk : k < ps.length), asEx ps[k] = none → kidsEx ps = none
  | t :: ts, 0, _, h => by simp only [List.getElem_cons_zero] at h; simp [kidsEx, h]
  | t :: ts, k + 1, hk, h => by
    have := kids_none (ps := ts) (k := k) (by simpa using hk) (by simpa using h)
    simp only [kidsEx, this]
    cases asEx t <;> rfl
theorem kids_snoc : ∀ {ps : List Tr} {es : List Ex} {x : Ex} {t : Tr}, kidsEx ps = some es → asEx t = some x → kidsEx (ps ++ [t]) = some (es ++ [x])
  | [], es, x, t, h, hx => by simp only [kidsEx, Option.some.injEq] at h; subst h; simp [kidsEx, hx]
  | a :: ps, es, x, t, h, hx => by
    simp only [kidsEx, List.cons_append] at h ⊢
    cases ha : asEx a with
    | none => simp [ha] at h
    | some e =>
      simp only [ha] at h ⊢
      cases hk : kidsEx ps with
      | none => simp [hk] at h
      | some es2 =>
        simp only [hk, Option.some.injEq] at h
        subst h
        rw [kids_snoc hk hx]; rfl
theorem kids_step {ps : List Tr} {es : List Ex} {x : Ex} {k : Nat} (hk : k < ps.length) (h : kidsEx (ps.take k) = some es) (hx : asEx ps[k] = some x) : kidsEx (ps.take (k + 1)) = some (es ++ [x]) := by
  rw [List.take_add_one, List.getElem?_eq_getElem hk]; exact kids_snoc h hx
theorem asExs_kids {h : Tr} {ps : List Tr} (h1 : atomOf h ≠ kLet) (h2 : atomOf h ≠ kFun) : asExs (h :: ps) = (kidsEx ps).bind (mkHead (atomOf h)) := by simp only [asExs, if_neg h1, if_neg h2]
end Go.Proofs.YtibiennbjegomaaDoor
namespace Go.Proofs.YtibiennbjegomaaDoor
open Go.RowKit
set_option linter.unusedSimpArgs false
set_option linter.unusedVariables false
theorem asExs_one (h : Tr) : asExs [h] = none := by
  simp only [asExs]
  by_cases h1 : atomOf h = kLet
  · rw [if_pos h1]; rfl
  · rw [if_neg h1]
    by_cases h2 : atomOf h = kFun
    · rw [if_pos h2]; rfl
    · rw [if_neg h2]; rfl
/-- What reading a whole text as an expression hands back. -/
def RdPost (B : Nat) (res : Option Ex) (e : Ending) (w' : World) : Prop :=
  match res with
  | none => e = .returned (.tuple #[.nilIface, .bool false]) ∨ ∃ T u, e = .returned (.tuple #[.iface T u, .bool false])
  | some x => ∃ v, e = .returned (.tuple #[v, .bool true]) ∧ EV w' (fun k => B ≤ k ∧ k < w'.heap.size) x v
theorem rdPost_shape {B : Nat} {res : Option Ex} {e : Ending} {w' : World} (hq : RdPost B res e w') : ∃ x, e = .returned (.tuple #[x, .bool res.isSome]) := by
  unfold RdPost at hq
  cases res with
  | none => rcases hq with hq | ⟨T, u, hq⟩ <;> exact ⟨_, hq⟩
  | some x => obtain ⟨v, hq, _⟩ := hq; exact ⟨_, hq⟩
theorem rdPost_of {B : Nat} {ok : Nat → Prop} {res : Option Ex} {e : Ending} {w' : World} (h : ExPost ok res e w') (hk : ∀ k, ok k → B ≤ k ∧ k < w'.heap.size) : RdPost B res e w' := by
  unfold ExPost at h
  cases res with
  | none => exact h
  | some x => obtain ⟨v, hq, hv⟩ := h; exact ⟨v, hq, EV.move hk (fun _ _ => rfl) x v hv⟩
end Go.Proofs.YtibiennbjegomaaDoor
