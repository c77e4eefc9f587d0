/- The program's expressions by head. -/
import Derived.Test.YtlinjnflhpldfaaGreatDoorImpl2d
import Derived.Deep.RegionHeld3
namespace Go.Proofs.YtlinjnflhpldfaaGreatDoor
open Go.RowKit
set_option maxRecDepth 8000
set_option linter.unusedSimpArgs false
set_option linter.unusedVariables false
/-- The values of expressions, in order. -/
def EVs (w : World) (ok : Nat → Prop) : List Ex → List Value → Prop
  | [], vs => vs = []
  | e :: es, vs => ∃ v us, vs = v :: us ∧ EV w ok e v ∧ EVs w ok es us
theorem EVs.move {w w' : World} {ok ok' : Nat → Prop} (hk : ∀ k, ok k → ok' k) (hb : ∀ k, ok k → w'.heap[k]? = w.heap[k]?) : ∀ (es : List Ex) (vs : List Value), EVs w ok es vs → EVs w' ok' es vs
  | [], vs, h => h
  | e :: es, vs, h => by
    simp only [EVs] at h ⊢
    obtain ⟨v, us, rfl, h1, h2⟩ := h
    exact ⟨v, us, rfl, EV.move hk hb e v h1, EVs.move hk hb es us h2⟩
theorem EVs.snoc {w : World} {ok : Nat → Prop} {e : Ex} {v : Value} (hv : EV w ok e v) : ∀ {es : List Ex} {vs : List Value}, EVs w ok es vs → EVs w ok (es ++ [e]) (vs ++ [v])
  | [], vs, h => by simp only [EVs] at h; subst h; exact ⟨v, [], rfl, hv, rfl⟩
  | a :: es, vs, h => by
    simp only [EVs] at h
    obtain ⟨u, us, rfl, h1, h2⟩ := h
    exact ⟨u, us ++ [v], rfl, h1, EVs.snoc hv h2⟩
theorem EVs.length {w : World} {ok : Nat → Prop} : ∀ {es : List Ex} {vs : List Value}, EVs w ok es vs → vs.length = es.length
  | [], vs, h => by simp only [EVs] at h; subst h; rfl
  | a :: es, vs, h => by
    simp only [EVs] at h
    obtain ⟨u, us, rfl, h1, h2⟩ := h
    simp [EVs.length h2]
theorem below_drewI (w : World) (n : Nat) : Below w.heap.size w (w.drewN n) := ⟨rfl, rfl, rfl, Nat.le_refl _, fun _ _ => rfl⟩
set_option maxHeartbeats 400000 in
theorem headExpr_other (h : List UInt8) (p : Option Addr) (m c : Nat) (h1 : m ≠ 1) (h2 : m ≠ 2) (h3 : m = 3 → h ≠ kIf) (hm : m ≤ 1000000000) (w : World) :
    Calls Tryz.prog 83 #[.string (bs h), .slice p m c] w fun e w' => e = .returned (.tuple #[.nilIface, .bool false]) ∧ Below w.heap.size w w' := by
  have a1 : ((m : Int) == 1) = false := by simp; omega
  have a2 : ((m : Int) == 2) = false := by simp; omega
  have b1 : ¬ (m : Int) = 1 := by omega
  have b2 : ¬ (m : Int) = 2 := by omega
  by_cases q : m = 3
  · have a3 : ((bs h).toList == [105, 102]) = false := by rw [bs_toList]; simpa [kIf] using h3 q
    subst q
    clear h1 h2 h3 a1 a2 b1 b2
    go_enter Tryz.func83, Tryz.ntmps83
    go_wp2_with fail
    go_ret2
    exact ⟨rfl, Below.refl _ _⟩
  · have a3 : ((m : Int) == 3) = false := by simp; omega
    have b3 : ¬ (m : Int) = 3 := by omega
    clear h1 h2 h3
    go_enter Tryz.func83, Tryz.ntmps83
    go_wp2_with fail
    go_ret2
    exact ⟨rfl, Below.refl _ _⟩
set_option maxHeartbeats 400000 in
theorem headExpr_1 (h : List UInt8) (a : Ex) (v : Value) (ok : Nat → Prop) (c r off : Nat) (w : World) (hv : EV w ok a v) (hok : ∀ k, ok k → k < w.heap.size) (e0 : w.cell? ⟨r, off, none⟩ = some v) (hc : 1 ≤ c) (hc2 : c ≤ maxLen) :
    Calls Tryz.prog 83 #[.string (bs h), .slice (some ⟨r, off, none⟩) 1 c] w fun e w' => ExPost ok (mkHead h [a]) e w' ∧ Below w.heap.size w w' := by
  have hc3 := maxLen_le hc2
  have C : Hid (Calls Tryz.prog 105 #[.string (bs h), .agg #[v]] w fun e w' => ExPost ok (mkHead h [a]) e w' ∧ Below w.heap.size w w') := Lib.hid (oneExpr_c h a v ok w (fun w' hw => hv.below hw hok))
  obtain ⟨T, u, rfl⟩ := hv.iface
  have hcx : Hid (∀ e w', ExPost ok (mkHead h [a]) e w' → (∃ x z, e = .returned (.tuple #[x, .bool z]))) := Lib.hid (fun e w' hq => by
    unfold ExPost at hq
    split at hq
    · rcases hq with hq | ⟨T, u, hq⟩ <;> exact ⟨_, _, hq⟩
    · obtain ⟨v, hq, _⟩ := hq; exact ⟨_, _, hq⟩)
  clear hv
  generalize mkHead h [a] = R at *
  go_enter Tryz.func83, Tryz.ntmps83
  go_wp2_with (go_at_call 105; go_must (refine (C.out).mono ?_; rintro e w1 ⟨hp, hb1⟩; obtain ⟨x, z, rfl⟩ := hcx.out _ _ hp))
  go_ret2
  exact ⟨hp, hb1⟩
set_option maxHeartbeats 1000000 in
theorem headExpr_2 (h : List UInt8) (a b : Ex) (v1 v2 : Value) (ok : Nat → Prop) (c r off : Nat) (w : World) (hv1 : EV w ok a v1) (hv2 : EV w ok b v2) (hok : ∀ k, ok k → k < w.heap.size) (hr : r < w.heap.size) (e0 : w.cell? ⟨r, off, none⟩ = some v1) (e1 : w.cell? ⟨r, off + 1, none⟩ = some v2) (hc : 2 ≤ c) (hc2 : c ≤ maxLen) :
    Calls Tryz.prog 83 #[.string (bs h), .slice (some ⟨r, off, none⟩) 2 c] w fun e w' => ExPost ok (mkHead h [a, b]) e w' ∧ Below w.heap.size w w' := by
  have hc3 := maxLen_le hc2
  have C : Hid (∀ W, Below w.heap.size w W → Calls Tryz.prog 106 #[.string (bs h), .agg #[v1, v2]] W fun e w' => ExPost ok (mkHead h [a, b]) e w' ∧ Below W.heap.size W w') := Lib.hid (fun W hW => twoExpr_c h a b v1 v2 ok W (fun w' hw => hv1.below (hW.trans (hw.mono hW.size)) hok) (fun w' hw => hv2.below (hW.trans (hw.mono hW.size)) hok))
  obtain ⟨T1, u1, rfl⟩ := hv1.iface
  obtain ⟨T2, u2, rfl⟩ := hv2.iface
  have hcx : Hid (∀ e w', ExPost ok (mkHead h [a, b]) e w' → (∃ x z, e = .returned (.tuple #[x, .bool z]))) := Lib.hid (fun e w' hq => by
    unfold ExPost at hq
    split at hq
    · rcases hq with hq | ⟨T, u, hq⟩ <;> exact ⟨_, _, hq⟩
    · obtain ⟨v, hq, _⟩ := hq; exact ⟨_, _, hq⟩)
  clear hv1 hv2
  generalize mkHead h [a, b] = R at *
  have K : Hid (∀ W, Below w.heap.size w W → (fun W => Below w.heap.size w W ∧ W.cell? ⟨r, off, none⟩ = some (.iface T1 u1) ∧ W.cell? ⟨r, off + 1, none⟩ = some (.iface T2 u2)) W) := Lib.hid (fun W hW => ⟨hW, (hW.cell (p := ⟨r, off, none⟩) hr).trans e0, (hW.cell (p := ⟨r, off + 1, none⟩) hr).trans e1⟩)
  have S0 := Lib.hid (K.out _ ((Below.refl _ _).drew))
  have hs21 : ((2 : Int) == 1) = false := rfl
  clear e0 e1
  go_enter Tryz.func83, Tryz.ntmps83
  go_wp2_with fail
  go_region_held3 (fun W => Below w.heap.size w W ∧ W.cell? ⟨r, off, none⟩ = some (.iface T1 u1) ∧ W.cell? ⟨r, off + 1, none⟩ = some (.iface T2 u2)) (first | exact S0.out | assumption | fail)
    (first | (go_at_call 106; have hh := And.left (by assumption : Below w.heap.size w _ ∧ _); (refine (C.out _ hh).mono ?_); rintro e w1 ⟨hp, hb1⟩; obtain ⟨x, z, rfl⟩ := hcx.out _ _ hp; have hw1 := hh.trans (hb1.mono hh.size); have hS2 := K.out _ hw1) | fail)
  all_goals
    go_wp2_with fail
    go_ret2
    exact ⟨hp, hw1⟩
set_option maxHeartbeats 1000000 in
theorem headExpr_3 (a b d : Ex) (v1 v2 v3 : Value) (ok : Nat → Prop) (c r off : Nat) (w : World) (hv1 : EV w ok a v1) (hv2 : EV w ok b v2) (hv3 : EV w ok d v3) (hok : ∀ k, ok k → k < w.heap.size) (hr : r < w.heap.size) (e0 : w.cell? ⟨r, off, none⟩ = some v1) (e1 : w.cell? ⟨r, off + 1, none⟩ = some v2) (e2 : w.cell? ⟨r, off + 2, none⟩ = some v3) (hc : 3 ≤ c) (hc2 : c ≤ maxLen) :
    Calls Tryz.prog 83 #[.string (bs kIf), .slice (some ⟨r, off, none⟩) 3 c] w fun e w' => ExPost ok (mkHead kIf [a, b, d]) e w' ∧ Below w.heap.size w w' := by
  have hc3 := maxLen_le hc2
  have HA := Lib.hid (show mkHead kIf [a, b, d] = some (.cond a b d) from rfl)
  have HV := Lib.hid (fun W (hW : Below w.heap.size w W) => (⟨hv1.below hW hok, hv2.below hW hok, hv3.below hW hok⟩ : EV W ok a v1 ∧ EV W ok b v2 ∧ EV W ok d v3))
  obtain ⟨T1, u1, rfl⟩ := hv1.iface
  obtain ⟨T2, u2, rfl⟩ := hv2.iface
  obtain ⟨T3, u3, rfl⟩ := hv3.iface
  clear hv1 hv2 hv3
  rw [show bs kIf = ⟨#[105, 102]⟩ from rfl]
  go_enter Tryz.func83, Tryz.ntmps83
  go_wp2_with fail
  go_quiet (fail)
  go_wp2_with fail
  go_ret2
  exact ⟨ExPost.some HA.out ⟨_, _, _, rfl, HV.out _ (below_drewI _ _)⟩, below_drewI _ _⟩
end Go.Proofs.YtlinjnflhpldfaaGreatDoor
