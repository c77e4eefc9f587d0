/- The law FnExactEnvValid: for every input the call returns true, and each argument reads afterwards as it read before. No condition. -/
import Derived.Test.YtgliggljegghhaaRows
import Derived.Test.YtgliggljegghhaaOpenS
import Derived.Test.YtgliggljegghhaaLawP
import Derived.WalkKit
import Derived.ProofKit
import Derived.OpenShut
import Derived.ShutString
namespace Go.Proofs.Ytgliggljegghhaa.fnExactEnvValid
open Go.ChangeShapes Go.WideShapes Go.ChangeAt Go.RowKit
open Go.ChangeMaps (open_string shut_string)
set_option linter.unusedVariables false

theorem own : ownKnob Try.prog.godebug = none := by kernel_rfl

set_option maxRecDepth 100000 in
theorem lifted (os : Os) (started : os.Started) (H : Type) (enc : TypeId × Value → H) :
    ReturnsInHanded {} Try.checked os 6 .any (Rows.fnExactEnvValidSpec.pre6 enc Try.prog Try.f6 Rows.fnExactEnvValidRow.domain false) (Rows.fnExactEnvValidSpec.post enc Try.prog Try.f6 false true false false) := by
  refine returnsInHanded_of_change (C := Try.checked) own started (by kernel_rfl) Try.func6
    (ChangeSpec.witness6 (enc := enc) (C := Try.checked) false ⟨#[], #[.slice none 0 0, .slice none 0 0], []⟩ 8 (by kernel_rfl) (by kernel_rfl) (by kernel_rfl) (by kernel_rfl)) ?_
  intro W base args ds gs before hval0 hW hcnd _
  have hval : ∀ (j : Nat) t v, Try.f6.params[j]? = some t → args[j]? = some v → Value.okWide Try.prog W .any base t v := hval0
  have hW' := hW
  obtain ⟨p, q, hA0, hV, rfl, hfz, hnd⟩ := hW
  have hA : DataW.TrodAll enc Try.prog W 0 (fun _ => true) true Try.f6.params.toList args.toList ds p := hA0
  rw [Try.params6] at hA hval
  obtain ⟨v0, vs0, d0, ds0, p0, q0, hargs, rfl, rfl, h0, r0⟩ := trodAll_cons hA
  obtain ⟨v1, vs1, d1, ds1, p1, q1, rfl, rfl, rfl, h1, r1⟩ := trodAll_cons r0
  obtain ⟨rfl, rfl, rfl⟩ := trodAll_nil r1
  obtain rfl : args = #[v0, v1] := by cases args; simp_all
  obtain ⟨rfl, rfl⟩ := trodVars_none hV
  have hk0 := h0
  obtain ⟨a0, w0, m0⟩ := open_texts (okWide_slice Try.underlying28 (hval 0 28 v0 rfl rfl)) h0
  have hk1 := h1
  obtain ⟨a1, w1, m1⟩ := open_texts (okWide_slice Try.underlying28 (hval 1 28 v1 rfl rfl)) h1
  clear hA0 hval0
  simp only [List.append_nil] at hW'
  refine (walk_FnExactEnvValid W v0 a0 w0 m0 v1 a1 w1 m1).mono fun e W' ⟨he, hg⟩ => ?_
  subst he
  exact ⟨_, rfl, _, _, _, [], p0 ++ p1, [], hW', (trodAll_cons_mk (shut_bool Try.underlying4 _) trodAll_mk0), (by have hh := (trodAll_cons_mk (shut_texts hk0 hg (fun x hx => by simpa using hW'.lt x (by simp [hx]))) (trodAll_cons_mk (shut_texts hk1 hg (fun x hx => by simpa using hW'.lt x (by simp [hx]))) trodAll_mk0)); simp only [List.append_nil] at hh; exact hh), rfl, hg.frame _, fun h => by cases h⟩

theorem over : Rows.fnExactEnvValidRow.holds Try.pinned (OpenSpec.ofChange Rows.fnExactEnvValidSpec) :=
  OpenClaim.holds_of_wide 6 Try.f6 rfl rfl rfl rfl rfl rfl rfl ⟨rfl, rfl, rfl, rfl, rfl⟩ rfl rfl rfl rfl rfl (by kernel_rfl) Try.func6 (by kernel_rfl)
    (of_decide_eq_true (by kernel_rfl)) (by unfold Func.isWrapper; rw [if_neg (of_decide_eq_false (by kernel_rfl))]; exact ⟨rfl, rfl⟩)
    (fun os started H enc _ => lifted os started H enc)
end Go.Proofs.Ytgliggljegghhaa.fnExactEnvValid
namespace Go.Proofs.Ytgliggljegghhaa
/-- The statement. -/
theorem proved_FnExactEnvValid : Rows.FnExactEnvValidSaid := fnExactEnvValid.over
end Go.Proofs.Ytgliggljegghhaa
