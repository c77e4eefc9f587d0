/- How an expression's form lies in the reference model's memory, by its kind. -/
import Derived.Test.YtjfjlfhckfoehaaGreatDoorPureG
import Derived.Test.YtjfjlfhckfoehaaGreatDoorS2f
namespace Go.Proofs.YtjfjlfhckfoehaaGreatDoor
open Go.RowKit
set_option maxRecDepth 8000
set_option linter.unusedSimpArgs false
set_option linter.unusedVariables false
/-- A node of a form as two cells, with its parts. -/
def NodeS (w : World) (ok : Nat → Prop) (r o : Nat) (t : Tr) (p : Option Addr) (m c : Nat) : Prop :=
  w.cell? ⟨r, o, none⟩ = some (.string (bs (atomOf t))) ∧ w.cell? ⟨r, o + 1, none⟩ = some (.slice p m c) ∧ FV nS w ok t (nS t (.slice p m c))
theorem NodeS.below {w w' : World} {ok : Nat → Prop} {r o : Nat} {t : Tr} {p : Option Addr} {m c : Nat} (h : NodeS w ok r o t p m c) (hb : Below w.heap.size w w') (hok : ∀ k, ok k → k < w.heap.size) (hr : r < w.heap.size) : NodeS w' ok r o t p m c :=
  ⟨(hb.cell (p := ⟨r, o, none⟩) hr).trans h.1, (hb.cell (p := ⟨r, o + 1, none⟩) hr).trans h.2.1, h.2.2.below hb hok⟩
theorem view_list {w : World} {ok : Nat → Prop} {ts : List Tr} {cs : List Value} (h : FV nS w ok (.list ts) cs) :
    ∃ r off c, cs = [.string (bs []), .slice (some ⟨r, off, none⟩) ts.length c] ∧ ok r ∧ ts.length ≤ c ∧ c ≤ maxLen ∧ ∀ i (hi : i < ts.length), ∃ p m c', NodeS w ok r (off + i * 2) ts[i] p m c' := by
  simp only [FV] at h
  obtain ⟨r, off, cap, xs, rfl, h2, h3, h4, h5, h6⟩ := h
  refine ⟨r, off, cap, rfl, h2, h3, h4, fun i hi => ?_⟩
  obtain ⟨p, m, c, q1, q2, q3⟩ := kid_S h6 h5 i hi
  exact ⟨p, m, c, q2, q3, q1⟩
theorem view_one {w : World} {ok : Nat → Prop} {o : Op1} {a : Ex} {cs : List Value} (h : FV nS w ok (formOf (.one o a)) cs) :
    ∃ r off c pa ma ca, cs = [.string (bs []), .slice (some ⟨r, off, none⟩) 2 c] ∧ ok r ∧ 2 ≤ c ∧ c ≤ maxLen ∧ w.cell? ⟨r, off, none⟩ = some (.string (bs (op1N o))) ∧ NodeS w ok r (off + 2) (formOf a) pa ma ca := by
  obtain ⟨r, off, c, rfl, h2, h3, h4, h5⟩ := view_list h
  obtain ⟨_, _, _, e0, _, _⟩ := h5 0 (by simp)
  obtain ⟨pa, ma, ca, ha⟩ := h5 1 (by simp)
  exact ⟨r, off, c, pa, ma, ca, rfl, h2, h3, h4, e0, ha⟩
theorem view_two {w : World} {ok : Nat → Prop} {o : Op2} {a b : Ex} {cs : List Value} (h : FV nS w ok (formOf (.two o a b)) cs) :
    ∃ r off c pa ma ca pb mb cb, cs = [.string (bs []), .slice (some ⟨r, off, none⟩) 3 c] ∧ ok r ∧ 3 ≤ c ∧ c ≤ maxLen ∧ w.cell? ⟨r, off, none⟩ = some (.string (bs (op2N o))) ∧ NodeS w ok r (off + 2) (formOf a) pa ma ca ∧ NodeS w ok r (off + 4) (formOf b) pb mb cb := by
  obtain ⟨r, off, c, rfl, h2, h3, h4, h5⟩ := view_list h
  obtain ⟨_, _, _, e0, _, _⟩ := h5 0 (by simp)
  obtain ⟨pa, ma, ca, ha⟩ := h5 1 (by simp)
  obtain ⟨pb, mb, cb, hb⟩ := h5 2 (by simp)
  exact ⟨r, off, c, pa, ma, ca, pb, mb, cb, rfl, h2, h3, h4, e0, ha, hb⟩
theorem view_cond {w : World} {ok : Nat → Prop} {a b d : Ex} {cs : List Value} (h : FV nS w ok (formOf (.cond a b d)) cs) :
    ∃ r off c pa ma ca pb mb cb pd md cd, cs = [.string (bs []), .slice (some ⟨r, off, none⟩) 4 c] ∧ ok r ∧ 4 ≤ c ∧ c ≤ maxLen ∧ w.cell? ⟨r, off, none⟩ = some (.string (bs kIf)) ∧ NodeS w ok r (off + 2) (formOf a) pa ma ca ∧ NodeS w ok r (off + 4) (formOf b) pb mb cb ∧ NodeS w ok r (off + 6) (formOf d) pd md cd := by
  obtain ⟨r, off, c, rfl, h2, h3, h4, h5⟩ := view_list h
  obtain ⟨_, _, _, e0, _, _⟩ := h5 0 (by simp)
  obtain ⟨pa, ma, ca, ha⟩ := h5 1 (by simp)
  obtain ⟨pb, mb, cb, hb⟩ := h5 2 (by simp)
  obtain ⟨pd, md, cd, hd⟩ := h5 3 (by simp)
  exact ⟨r, off, c, pa, ma, ca, pb, mb, cb, pd, md, cd, rfl, h2, h3, h4, e0, ha, hb, hd⟩
theorem view_lete {w : World} {ok : Nat → Prop} {x : Nm} {a b : Ex} {cs : List Value} (h : FV nS w ok (formOf (.lete x a b)) cs) :
    ∃ r off c px mx cx pa ma ca pb mb cb, cs = [.string (bs []), .slice (some ⟨r, off, none⟩) 4 c] ∧ ok r ∧ 4 ≤ c ∧ c ≤ maxLen ∧ w.cell? ⟨r, off, none⟩ = some (.string (bs kLet)) ∧ NodeS w ok r (off + 2) (.atom x) px mx cx ∧ NodeS w ok r (off + 4) (formOf a) pa ma ca ∧ NodeS w ok r (off + 6) (formOf b) pb mb cb := by
  obtain ⟨r, off, c, rfl, h2, h3, h4, h5⟩ := view_list h
  obtain ⟨_, _, _, e0, _, _⟩ := h5 0 (by simp)
  obtain ⟨px, mx, cx, hx⟩ := h5 1 (by simp)
  obtain ⟨pa, ma, ca, ha⟩ := h5 2 (by simp)
  obtain ⟨pb, mb, cb, hb⟩ := h5 3 (by simp)
  exact ⟨r, off, c, px, mx, cx, pa, ma, ca, pb, mb, cb, rfl, h2, h3, h4, e0, hx, ha, hb⟩
theorem view_func {w : World} {ok : Nat → Prop} {f x : Nm} {A B : Tr} {e : Ex} {cs : List Value} (h : FV nS w ok (formOf (.func f x A B e)) cs) :
    ∃ r off c pf mf cf px mx cx pA mA cA pB mB cB pe me ce, cs = [.string (bs []), .slice (some ⟨r, off, none⟩) 6 c] ∧ ok r ∧ 6 ≤ c ∧ c ≤ maxLen ∧ w.cell? ⟨r, off, none⟩ = some (.string (bs kFun)) ∧ NodeS w ok r (off + 2) (.atom f) pf mf cf ∧ NodeS w ok r (off + 4) (.atom x) px mx cx ∧ NodeS w ok r (off + 6) A pA mA cA ∧ NodeS w ok r (off + 8) B pB mB cB ∧ NodeS w ok r (off + 10) (formOf e) pe me ce := by
  obtain ⟨r, off, c, rfl, h2, h3, h4, h5⟩ := view_list h
  obtain ⟨_, _, _, e0, _, _⟩ := h5 0 (by simp)
  obtain ⟨pf, mf, cf, hf⟩ := h5 1 (by simp)
  obtain ⟨px, mx, cx, hx⟩ := h5 2 (by simp)
  obtain ⟨pA, mA, cA, hA⟩ := h5 3 (by simp)
  obtain ⟨pB, mB, cB, hB⟩ := h5 4 (by simp)
  obtain ⟨pe, me, ce, he⟩ := h5 5 (by simp)
  exact ⟨r, off, c, pf, mf, cf, px, mx, cx, pA, mA, cA, pB, mB, cB, pe, me, ce, rfl, h2, h3, h4, e0, hf, hx, hA, hB, he⟩
end Go.Proofs.YtjfjlfhckfoehaaGreatDoor
