/- The program's ExprFault. -/
import Derived.Test.YtgljnmbbmjmkjaaGreatDoorImpl3y
import Derived.Test.YtgljnmbbmjmkjaaGreatDoorLook3
import Derived.Test.YtgljnmbbmjmkjaaGreatDoorPureV
namespace Go.Proofs.YtgljnmbbmjmkjaaGreatDoor
open Go.RowKit
set_option maxRecDepth 8000
set_option linter.unusedSimpArgs false
set_option linter.unusedVariables false
theorem orBad_bad {x f : Ex} {o : Option Tr} (h : orBad x o = .error f) : f = x := by cases o <;> simp [orBad] at h; exact h.symm
theorem part_ok : ∀ (x : Ex) (env : List (Nm × Tr)) (f : Ex), tyR env x = .error f → (formOf x).wf ∧ exOK x → ((formOf f).wf ∧ exOK f) ∧ (formOf f).bytes ≤ (formOf x).bytes
  | .name s, env, f, h, hw => by simp only [tyR] at h; rw [orBad_bad h]; exact ⟨hw, Nat.le_refl _⟩
  | .num n, env, f, h, hw => by simp [tyR] at h
  | .two o a b, env, f, h, hw => by
    have hw' := hw
    simp only [formOf, Tr.wf, wfs, exOK] at hw
    have e1 : (formOf (.two o a b)).bytes = (formOf (.two o a b)).bytes := rfl
    simp only [tyR] at h
    split at h
    · rename_i g h1; simp only [Except.error.injEq] at h; subst h
      obtain ⟨q1, q2⟩ := part_ok a env _ h1 ⟨hw.1.2.2.1, hw.2.1⟩
      exact ⟨q1, by simp only [formOf, Tr.bytes, bytess]; omega⟩
    · split at h
      · rename_i g h1; simp only [Except.error.injEq] at h; subst h
        obtain ⟨q1, q2⟩ := part_ok b env _ h1 ⟨hw.1.2.2.2.1, hw.2.2⟩
        exact ⟨q1, by simp only [formOf, Tr.bytes, bytess]; omega⟩
      · rw [orBad_bad h]; exact ⟨hw', Nat.le_refl _⟩
  | .one o a, env, f, h, hw => by
    have hw' := hw
    simp only [formOf, Tr.wf, wfs, exOK] at hw
    simp only [tyR] at h
    split at h
    · rename_i g h1; simp only [Except.error.injEq] at h; subst h
      obtain ⟨q1, q2⟩ := part_ok a env _ h1 ⟨hw.1.2.2.1, hw.2⟩
      exact ⟨q1, by simp only [formOf, Tr.bytes, bytess]; omega⟩
    · rw [orBad_bad h]; exact ⟨hw', Nat.le_refl _⟩
  | .cond a b c, env, f, h, hw => by
    have hw' := hw
    simp only [formOf, Tr.wf, wfs, exOK] at hw
    simp only [tyR] at h
    split at h
    · rename_i g h1; simp only [Except.error.injEq] at h; subst h
      obtain ⟨q1, q2⟩ := part_ok a env _ h1 ⟨hw.1.2.2.1, hw.2.1⟩
      exact ⟨q1, by simp only [formOf, Tr.bytes, bytess]; omega⟩
    · split at h
      · rename_i g h1; simp only [Except.error.injEq] at h; subst h
        obtain ⟨q1, q2⟩ := part_ok b env _ h1 ⟨hw.1.2.2.2.1, hw.2.2.1⟩
        exact ⟨q1, by simp only [formOf, Tr.bytes, bytess]; omega⟩
      · split at h
        · rename_i g h1; simp only [Except.error.injEq] at h; subst h
          obtain ⟨q1, q2⟩ := part_ok c env _ h1 ⟨hw.1.2.2.2.2.1, hw.2.2.2⟩
          exact ⟨q1, by simp only [formOf, Tr.bytes, bytess]; omega⟩
        · rw [orBad_bad h]; exact ⟨hw', Nat.le_refl _⟩
  | .lete s e b, env, f, h, hw => by
    simp only [formOf, Tr.wf, wfs, exOK] at hw
    simp only [tyR] at h
    split at h
    · rename_i g h1; simp only [Except.error.injEq] at h; subst h
      obtain ⟨q1, q2⟩ := part_ok e env _ h1 ⟨hw.1.2.2.2.1, hw.2.2.1⟩
      exact ⟨q1, by simp only [formOf, Tr.bytes, bytess]; omega⟩
    · obtain ⟨q1, q2⟩ := part_ok b _ f h ⟨hw.1.2.2.2.2.1, hw.2.2.2⟩
      exact ⟨q1, by simp only [formOf, Tr.bytes, bytess]; omega⟩
  | .func n s A B e, env, f, h, hw => by
    have hw' := hw
    simp only [formOf, Tr.wf, wfs, exOK] at hw
    simp only [tyR] at h
    split at h
    · simp only [Except.error.injEq] at h; subst h; exact ⟨hw', Nat.le_refl _⟩
    · split at h
      · rename_i g h1; simp only [Except.error.injEq] at h; subst h
        obtain ⟨q1, q2⟩ := part_ok e _ _ h1 ⟨hw.1.2.2.2.2.2.2.1, hw.2.2.2⟩
        exact ⟨q1, by simp only [formOf, Tr.bytes, bytess]; omega⟩
      · rw [orBad_bad h]; exact ⟨hw', Nat.le_refl _⟩
theorem closedF_none {s : ByteArray} (hs : s.size ≤ 1048576) (hp : readCl s.data.toList = none) (W : World) : Calls Tryz.prog 51 #[.string s] W fun e w' => (∃ v, e = .returned (.tuple #[v, .bool false])) ∧ Below W.heap.size W w' :=
  (readClosed_c s hs W).mono fun e w' ⟨h1, h2⟩ => ⟨by rw [hp] at h1; exact rdPost_shape h1, h2⟩
theorem closedF_some {s : ByteArray} (hs : s.size ≤ 1048576) {x : Ex} (hp : readCl s.data.toList = some x) (W : World) : Calls Tryz.prog 51 #[.string s] W fun e w' => (∃ T u, e = .returned (.tuple #[.iface T u, .bool true]) ∧ EV w' (fun k => W.heap.size ≤ k ∧ k < w'.heap.size) x (.iface T u)) ∧ Below W.heap.size W w' :=
  (readClosed_c s hs W).mono fun e w' ⟨h1, h2⟩ => ⟨by rw [hp] at h1; obtain ⟨v, q1, q2⟩ := h1; obtain ⟨T, u, rfl⟩ := q2.iface; exact ⟨T, u, q1, q2⟩, h2⟩
theorem tyTop {x : Ex} (hty : tyEx x) (W : World) (T : TypeId) (z : Value) (B : Nat) (hv : EV W (fun k => B ≤ k ∧ k < W.heap.size) x (.iface T z)) :
    Calls Tryz.prog 61 #[.pointer none, .iface T z] W fun e w' => Ty3 W (fun k => k < W.heap.size) (tyR [] x) e w' ∧ Below W.heap.size W w' :=
  ty_all x _ [] none _ W envOK_nil hty (fun k hk => hk) (by simp only [FrO]) (hv.move (fun k hk => hk.2) (fun _ _ => rfl))
set_option maxHeartbeats 4000000 in
theorem implExprFault_c (s : ByteArray) (hs : s.size ≤ 1048576) (w : World) (hT : Tab w) :
    Calls Tryz.prog 34 #[.string s] w fun e w' => LkPost (faOf s.data.toList) e ∧ Below w.heap.size w w' := by
  cases hc : readCl s.data.toList with
  | none =>
    have HR := Lib.hid (faOf_none hc)
    have C := Lib.hid (closedF_none hs hc)
    clear hc hT
    go_enter Tryz.func34, Tryz.ntmps34
    go_wp2_with (go_at_call 51; go_must (refine (C.out _).mono ?_; rintro e w1 ⟨⟨v, rfl⟩, hb1⟩))
    go_ret2
    exact ⟨by rw [HR.out]; rfl, hb1⟩
  | some x =>
    have C := Lib.hid (closedF_some hs hc)
    obtain ⟨hx1, hx2⟩ := readCl_both hc
    have hty := readEx_tyEx hx1
    obtain ⟨hwf, hby, hex⟩ := readEx_tree hx1
    cases hr : tyR [] x with
    | ok t =>
      have HR := Lib.hid (faOf_ok hc hr)
      obtain ⟨u, t1, t2, t3, hu, ht1, ht2, ht3, hq⟩ := nI_named t
      have CT : Hid (∀ W T z B, EV W (fun k => B ≤ k ∧ k < W.heap.size) x (.iface T z) → Calls Tryz.prog 61 #[.pointer none, .iface T z] W fun e w' => (∃ p m c, e = .returned (.tuple #[.agg #[.string u, .slice p m c, .int .i64 t1, .int .i64 t2, .int .i64 t3], .nilIface])) ∧ Below W.heap.size W w') := Lib.hid (fun W T z B hv => by
        have h := tyTop hty W T z B hv
        rw [hr] at h
        exact h.mono fun e w' ⟨⟨p, m, c, q1, q2⟩, h2⟩ => ⟨⟨p, m, c, by rw [q1, hu, ht1, ht2, ht3]⟩, h2⟩)
      clear hc hx1 hx2 hty hwf hby hex hr hu ht1 ht2 ht3 hq hT
      go_enter Tryz.func34, Tryz.ntmps34
      go_wp2_with (first | (go_at_call 51; go_must (refine (C.out _).mono ?_; rintro e w1 ⟨⟨T1, u1, rfl, hv1⟩, hb1⟩)) | (go_at_call 61; go_must (refine (CT.out _ _ _ _ hv1).mono ?_; rintro e w2 ⟨⟨p, m, c, rfl⟩, hb2⟩)))
      all_goals
        go_ret2
        exact ⟨by rw [HR.out]; rfl, by first | exact hb1.trans (hb2.mono hb1.size) | exact (hb1.trans (hb2.mono hb1.size)).trans ((below1 w2 _).mono (by have := hb1.size; have := hb2.size; omega))⟩
    | error f =>
      have HR := Lib.hid (faOf_bad hc hr)
      obtain ⟨⟨k1, k2⟩, k3⟩ := part_ok x [] f hr ⟨hwf, hex⟩
      have CT : Hid (∀ W T z B, EV W (fun k => B ≤ k ∧ k < W.heap.size) x (.iface T z) → Calls Tryz.prog 61 #[.pointer none, .iface T z] W fun e w' => (∃ T5 u5, e = .returned (.tuple #[.agg #[.string ⟨#[]⟩, .slice none 0 0, .int .i64 0, .int .i64 0, .int .i64 0], .iface T5 u5]) ∧ EV w' (fun k => k < w'.heap.size) f (.iface T5 u5)) ∧ Below W.heap.size W w') := Lib.hid (fun W T z B hv => by
        have h := tyTop hty W T z B hv
        rw [hr] at h
        exact h.mono fun e w' ⟨⟨T5, u5, q1, q2⟩, h2⟩ => ⟨⟨T5, u5, q1, q2.move (fun k hk => by rcases hk with hk | hk; have := h2.size; omega; exact hk.2) (fun _ _ => rfl)⟩, h2⟩)
      obtain ⟨FT, hFT⟩ : ∃ q, q = bs (formOf f).text := ⟨_, rfl⟩
      have CF : Hid (∀ w2 T5 u5, Below w.heap.size w w2 → EV w2 (fun k => k < w2.heap.size) f (.iface T5 u5) → Calls Tryz.prog 39 #[.iface T5 u5] (w2.alloc (.cells #[.string ⟨#[]⟩, .slice none 0 0, .int .i64 0, .int .i64 0, .int .i64 0] 66)) fun e w' => e = .returned (.string FT) ∧ Below w2.heap.size w2 w') := Lib.hid (fun w2 T5 u5 hB hv => by
        have hb := below1 w2 (.cells #[.string ⟨#[]⟩, .slice none 0 0, .int .i64 0, .int .i64 0, .int .i64 0] 66)
        rw [hFT]
        exact (exprText_c f (.iface T5 u5) w2.heap.size _ k2 k1 (by omega) (hv.below hb (fun _ h => h)) hb.size ((hT.below hB).below hb)).mono fun e w' ⟨h1, h2⟩ => ⟨h1, hb.trans (h2.mono hb.size)⟩)
      have HF := Lib.hid hFT
      clear hc hx1 hx2 hty hwf hby hex hr hT k1 k2 k3 hFT
      go_enter Tryz.func34, Tryz.ntmps34
      go_wp2_with (first | (go_at_call 51; go_must (refine (C.out _).mono ?_; rintro e w1 ⟨⟨T1, u1, rfl, hv1⟩, hb1⟩)) | (go_at_call 61; go_must (refine (CT.out _ _ _ _ hv1).mono ?_; rintro e w2 ⟨⟨T5, u5, rfl, hv5⟩, hb2⟩; have HB2 := Lib.hid (hb1.trans (hb2.mono hb1.size)))) | (go_at_call 39; go_must (refine (CF.out _ _ _ HB2.out hv5).mono ?_; rintro e w3 ⟨rfl, hb3⟩)))
      all_goals
        go_ret2
        exact ⟨by rw [HR.out, HF.out]; rfl, HB2.out.trans (hb3.mono HB2.out.size)⟩
end Go.Proofs.YtgljnmbbmjmkjaaGreatDoor
