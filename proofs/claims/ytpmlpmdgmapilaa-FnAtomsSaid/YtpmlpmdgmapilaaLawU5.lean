/- General laws of chapter 1: what is replaced is gone. -/
import Derived.Test.YtpmlpmdgmapilaaLawU4
import Derived.Test.YtpmlpmdgmapilaaPureL2
import Derived.OwnWalk
namespace Go.Proofs.Ytpmlpmdgmapilaa
open Go.RowKit
set_option maxRecDepth 8000
set_option linter.unusedSimpArgs false
set_option linter.unusedVariables false
set_option maxHeartbeats 1000000 in
theorem drawFormReplace_c (a : Option Addr) (L c : Nat) (zs : List Int) (w : World) (hr : BRow w a L c zs) : Calls Try.prog 36 #[.slice a L c] w fun e w' => (∃ s t u : ByteArray, e = .returned (.tuple #[.string s, .string t, .string u]) ∧ s.size ≤ 20000 ∧ t.size ≤ 20000 ∧ u.size ≤ 20000) ∧ Below w.heap.size w w' := by
  have CO := Lib.hid (l6Open_c a L c zs w hr)
  clear hr
  go_enter Try.func36, Try.ntmps36
  go_wp2_with fail
  refine (CO.out).mono ?_
  rintro e w1 ⟨rfl, ⟨L', c', hR1⟩, hb1⟩
  have HB1 := Lib.hid hb1
  have C := Lib.hid (l91Text_d hR1 (by omega))
  clear hb1 hR1
  go_wp2_with fail
  refine (C.out).mono ?_
  rintro e w2 ⟨s, p2, rfl, h2, h3, hR2, ho2⟩
  have C2 := Lib.hid (pick_d (n := 12) hR2 (by omega) (by omega))
  clear hR2
  go_wp2_with fail
  refine (C2.out).mono ?_
  rintro e w3 ⟨⟨k, rfl, hk0, hk1⟩, hR3, ho3⟩
  by_cases h0 : k = 0
  · subst h0
    have C1 := Lib.hid (of_new (l := [[], [40, 97, 41], [97, 32, 98]]) (N := 3) hR3 (by omega) (by decide) (by decide) (by decide))
    clear hR3
    go_wp2_with fail
    refine (C1.out).mono ?_
    rintro e w4 ⟨t, p4, rfl, h4, h5, hR4, ho4⟩
    have HF := Lib.hid (Only.fresh HB1.out ((ho2.trans ho3).trans ho4) (Nat.le_refl _) HB1.out.size)
    go_wp2_with fail
    go_ret3
    exact ⟨⟨s, t, _, rfl, by omega, by omega, by decide⟩, HF.out⟩
  · have e0 : (k == 0) = false := by simpa using h0
    have C3 := Lib.hid (l91Atom_d hR3 (by omega))
    clear hR3
    go_wp2_with fail
    refine (C3.out).mono ?_
    rintro e w4 ⟨t, p4, rfl, h4, h5, hR4, ho4⟩
    have C4 : Hid (Calls Try.prog 64 #[.pointer (some ⟨w.heap.size, 0, none⟩), .int .i64 2] w4 fun e w' => DrPost w.heap.size a L' c' p4 zs 160 160 w4 e w') := Lib.hid (l91Form_d 2 p4 w4 hR4 (by decide) (by omega))
    clear hR4
    go_wp2_with fail
    refine (C4.out).mono ?_
    rintro e w5 ⟨u, p5, rfl, h6, h7, hR5, ho5⟩
    have HF := Lib.hid (Only.fresh HB1.out (((ho2.trans ho3).trans ho4).trans ho5) (Nat.le_refl _) HB1.out.size)
    go_wp2_with fail
    go_ret3
    exact ⟨⟨s, t, u, rfl, by omega, by omega, by omega⟩, HF.out⟩
/-- A text's atoms, as FormAtoms answers them. -/
theorem atoms_call {l : List UInt8} {t : Tr} (hp : parse l = some t) (hl : l.length ≤ 1000000) (W : World) : Calls Try.prog 18 #[.string (bs l)] W fun e w' => (∃ p c, e = .returned (.tuple #[.slice p (atoms t []).length c, .bool true]) ∧ StrS w' (.slice p (atoms t []).length c) (atoms t [])) ∧ Below W.heap.size W w' := by
  have h := implFormAtoms_c (bs l) (by rw [bs_size]; omega) W
  rw [bs_data, atomsOf_some hp] at h
  refine h.mono fun e w' ⟨⟨v, h1, h2⟩, h3⟩ => ⟨?_, h3⟩
  have h4 := (atoms_range hp).2
  have h5 := (size_ge hp).2
  obtain ⟨p, c, rfl⟩ := owns_slice h2
  exact ⟨p, c, h1, owns_strU h2 (show (atoms t []).length ≤ 9223372036854775807 by omega)⟩
set_option maxHeartbeats 4000000 in
theorem walk_FnReplace (a : Option Addr) (L c : Nat) (zs : List Int) (w : World) (hr : BRow w a L c zs) :
    Calls Try.prog 9 #[.slice a L c] w fun e w' => e = .returned (.bool true) ∧ Below w.heap.size w w' := by
  by_cases h0 : L ≤ 1048576
  · have hd0 : decide (1048576 < (L : Int)) = false := by simp; omega
    have C := Lib.hid (drawFormReplace_c a L c zs w hr)
    clear hr
    go_enter Try.func9, Try.ntmps9
    go_wp2_with fail
    refine (C.out).mono ?_
    rintro e w1 ⟨⟨s, t, u, rfl, hs, ht, hu⟩, hb1⟩
    have HB := Lib.hid hb1
    clear hb1 C
    obtain ⟨l, rfl⟩ := as_bs s
    obtain ⟨x, rfl⟩ := as_bs t
    obtain ⟨y, rfl⟩ := as_bs u
    rw [bs_size] at hs ht hu
    have CV : Hid (∀ W : World, Calls Try.prog 34 #[.string (bs l), .string (bs x), .string (bs y)] W fun e w' => MakePost (replOf l x y) e ∧ Below W.heap.size W w') := Lib.hid (fun W => by have h := implFormReplace_c (bs l) (bs x) (bs y) (by rw [bs_size]; omega) (by rw [bs_size]; omega) (by rw [bs_size]; omega) W; rw [bs_data, bs_data, bs_data] at h; exact h)
    have CW : Hid (∀ W : World, Calls Try.prog 37 #[.string (bs l), .string (bs x), .string (bs y)] W fun e w' => MakePost (replOf l x y) e ∧ Below W.heap.size W w') := Lib.hid (fun W => by have h := specFormReplace_c (bs l) (bs x) (bs y) (by rw [bs_size]; omega) (by rw [bs_size]; omega) (by rw [bs_size]; omega) W; rw [bs_data, bs_data, bs_data] at h; exact h)
    cases hm : replOf l x y with
    | none =>
      rw [hm] at CV CW
      simp only [MakePost] at CV CW
      clear hm
      go_wp2_with (first | (go_at_call 34; go_must (refine (CV.out _).mono ?_; rintro e wn ⟨rfl, hbn⟩; have HB := Lib.hid ((nextB (firstB HB.out) hbn).1); clear hbn)) | (go_at_call 37; go_must (refine (CW.out _).mono ?_; rintro e wn ⟨rfl, hbn⟩; have HB := Lib.hid ((nextB (firstB HB.out) hbn).1); clear hbn)))
      go_ret
      exact ⟨rfl, HB.out⟩
    | some T =>
      rw [hm] at CV CW
      simp only [MakePost] at CV CW
      obtain ⟨t, b, g1, g2, g3, g4, g5⟩ := replOf_got hm
      have hTl : T.text.length ≤ 12000 := (parse_some g3).1
      have CA := Lib.hid (atoms_call g1 (by omega))
      have CB := Lib.hid (atoms_call g3 (by omega))
      have CC := Lib.hid (atoms_call g2 (by omega))
      have m1 : ∀ v (W : World), StrS W v (atoms t []) → Calls Try.prog 35 #[v, .string (bs x)] W fun e w' => e = .returned (.bool (occ x t)) ∧ w' = W := fun v W hv => by
        have h := hasT_c v _ x W hv
        rwa [show decide (x ∈ atoms t []) = occ x t by have := mem_atoms x t []; simp only [List.not_mem_nil, false_or] at this; rw [Bool.eq_iff_iff]; simpa using this] at h
      have m2 : ∀ v (W : World), StrS W v (atoms T []) → Calls Try.prog 35 #[v, .string (bs x)] W fun e w' => e = .returned (.bool (occ x t && occ x b)) ∧ w' = W := fun v W hv => by
        have h := hasT_c v _ x W hv
        rwa [show decide (x ∈ atoms T []) = (occ x t && occ x b) by rw [← g4]; have := mem_atoms x T []; simp only [List.not_mem_nil, false_or] at this; rw [Bool.eq_iff_iff]; simpa using this] at h
      have m3 : ∀ v (W : World), StrS W v (atoms b []) → Calls Try.prog 35 #[v, .string (bs x)] W fun e w' => e = .returned (.bool (occ x b)) ∧ w' = W := fun v W hv => by
        have h := hasT_c v _ x W hv
        rwa [show decide (x ∈ atoms b []) = occ x b by have := mem_atoms x b []; simp only [List.not_mem_nil, false_or] at this; rw [Bool.eq_iff_iff]; simpa using this] at h
      have M1 := Lib.hid m1
      have M2 := Lib.hid m2
      have M3 := Lib.hid m3
      have n1 : ((atoms t []).length : Int) = ((atoms t []).length : Int) := rfl
      generalize atoms t [] = at1 at *
      generalize atoms T [] = at2 at *
      generalize atoms b [] = at3 at *
      clear m1 m2 m3 hm g1 g2 g3 g4 n1 hTl
      cases ho : occ x t with
      | false =>
        have e1 := g5 ho
        rw [e1] at CV CW CB
        rw [ho] at M1 M2
        simp only [Bool.false_and] at M2
        clear g5 ho e1
        generalize bs l = sl at *
        generalize bs x = sx at *
        generalize bs y = sy at *
        have tok1 : True := trivial
        go_wp2_with (first | (go_at_call 34; go_must (refine (CV.out _).mono ?_; rintro e wn ⟨rfl, hbn⟩; have HB := Lib.hid ((nextB (firstB HB.out) hbn).1); clear hbn)) | (go_at_call 37; go_must (refine (CW.out _).mono ?_; rintro e wn ⟨rfl, hbn⟩; have HB := Lib.hid ((nextB (firstB HB.out) hbn).1); clear hbn)) | (go_at_call_of 18 (sl); clear tok1; go_must (refine (CA.out _).mono ?_; rintro e wn ⟨⟨p4, c4, rfl, hS⟩, hbn⟩; have HB := Lib.hid ((nextB (firstB HB.out) hbn).1); have HS1 := Lib.hid hS; clear hbn hS)) | (go_at_call_of 18 (sl); go_must (refine (CA.out _).mono ?_; rintro e wn ⟨⟨p5, c5, rfl, hS⟩, hbn⟩; have HB := Lib.hid ((nextB (firstB HB.out) hbn).1); have HS1 := Lib.hid (HS1.out.below hbn); have HS2 := Lib.hid hS; clear hbn hS)) | (go_at_call_of 18 (sy); go_must (refine (CC.out _).mono ?_; rintro e wn ⟨⟨p6, c6, rfl, hS⟩, hbn⟩; have HB := Lib.hid ((nextB (firstB HB.out) hbn).1); have HS1 := Lib.hid (HS1.out.below hbn); have HS2 := Lib.hid (HS2.out.below hbn); have HS3 := Lib.hid hS; clear hbn hS)) | (go_at_call_of 35 (p4); go_must (refine (M1.out _ _ HS1.out).mono ?_; rintro e wn ⟨rfl, rfl⟩)) | (go_at_call_of 35 (p5); go_must (refine (M1.out _ _ HS2.out).mono ?_; rintro e wn ⟨rfl, rfl⟩)) | (go_at_call_of 35 (p6); go_must (refine (M3.out _ _ HS3.out).mono ?_; rintro e wn ⟨rfl, rfl⟩)))
        go_ret
        exact ⟨rfl, HB.out⟩
      | true =>
        rw [ho] at M1 M2
        simp only [Bool.true_and] at M2
        clear g5 ho
        generalize bs l = sl at *
        generalize bs T.text = sT at *
        generalize bs x = sx at *
        generalize bs y = sy at *
        cases ho2 : occ x b
        · rw [ho2] at M2 M3
          clear ho2
          go_wp2_with (first | (go_at_call 34; go_must (refine (CV.out _).mono ?_; rintro e wn ⟨rfl, hbn⟩; have HB := Lib.hid ((nextB (firstB HB.out) hbn).1); clear hbn)) | (go_at_call 37; go_must (refine (CW.out _).mono ?_; rintro e wn ⟨rfl, hbn⟩; have HB := Lib.hid ((nextB (firstB HB.out) hbn).1); clear hbn)) | (go_at_call_of 18 (sl); go_must (refine (CA.out _).mono ?_; rintro e wn ⟨⟨p4, c4, rfl, hS⟩, hbn⟩; have HB := Lib.hid ((nextB (firstB HB.out) hbn).1); have HS1 := Lib.hid hS; clear hbn hS)) | (go_at_call_of 18 (sT); go_must (refine (CB.out _).mono ?_; rintro e wn ⟨⟨p5, c5, rfl, hS⟩, hbn⟩; have HB := Lib.hid ((nextB (firstB HB.out) hbn).1); have HS1 := Lib.hid (HS1.out.below hbn); have HS2 := Lib.hid hS; clear hbn hS)) | (go_at_call_of 18 (sy); go_must (refine (CC.out _).mono ?_; rintro e wn ⟨⟨p6, c6, rfl, hS⟩, hbn⟩; have HB := Lib.hid ((nextB (firstB HB.out) hbn).1); have HS1 := Lib.hid (HS1.out.below hbn); have HS2 := Lib.hid (HS2.out.below hbn); have HS3 := Lib.hid hS; clear hbn hS)) | (go_at_call_of 35 (p4); go_must (refine (M1.out _ _ HS1.out).mono ?_; rintro e wn ⟨rfl, rfl⟩)) | (go_at_call_of 35 (p5); go_must (refine (M2.out _ _ HS2.out).mono ?_; rintro e wn ⟨rfl, rfl⟩)) | (go_at_call_of 35 (p6); go_must (refine (M3.out _ _ HS3.out).mono ?_; rintro e wn ⟨rfl, rfl⟩)))
          go_ret
          exact ⟨rfl, HB.out⟩
        · rw [ho2] at M2 M3
          clear ho2
          go_wp2_with (first | (go_at_call 34; go_must (refine (CV.out _).mono ?_; rintro e wn ⟨rfl, hbn⟩; have HB := Lib.hid ((nextB (firstB HB.out) hbn).1); clear hbn)) | (go_at_call 37; go_must (refine (CW.out _).mono ?_; rintro e wn ⟨rfl, hbn⟩; have HB := Lib.hid ((nextB (firstB HB.out) hbn).1); clear hbn)) | (go_at_call_of 18 (sl); go_must (refine (CA.out _).mono ?_; rintro e wn ⟨⟨p4, c4, rfl, hS⟩, hbn⟩; have HB := Lib.hid ((nextB (firstB HB.out) hbn).1); have HS1 := Lib.hid hS; clear hbn hS)) | (go_at_call_of 18 (sT); go_must (refine (CB.out _).mono ?_; rintro e wn ⟨⟨p5, c5, rfl, hS⟩, hbn⟩; have HB := Lib.hid ((nextB (firstB HB.out) hbn).1); have HS1 := Lib.hid (HS1.out.below hbn); have HS2 := Lib.hid hS; clear hbn hS)) | (go_at_call_of 18 (sy); go_must (refine (CC.out _).mono ?_; rintro e wn ⟨⟨p6, c6, rfl, hS⟩, hbn⟩; have HB := Lib.hid ((nextB (firstB HB.out) hbn).1); have HS1 := Lib.hid (HS1.out.below hbn); have HS2 := Lib.hid (HS2.out.below hbn); have HS3 := Lib.hid hS; clear hbn hS)) | (go_at_call_of 35 (p4); go_must (refine (M1.out _ _ HS1.out).mono ?_; rintro e wn ⟨rfl, rfl⟩)) | (go_at_call_of 35 (p5); go_must (refine (M2.out _ _ HS2.out).mono ?_; rintro e wn ⟨rfl, rfl⟩)) | (go_at_call_of 35 (p6); go_must (refine (M3.out _ _ HS3.out).mono ?_; rintro e wn ⟨rfl, rfl⟩)))
          go_ret
          exact ⟨rfl, HB.out⟩
  · have hd0 : decide (1048576 < (L : Int)) = true := by simp; omega
    have hm0 : L ≤ 9223372036854775807 := hr.bound
    go_enter Try.func9, Try.ntmps9
    go_wp2_with fail
    go_ret
    exact ⟨rfl, Below.refl _ _⟩
end Go.Proofs.Ytpmlpmdgmapilaa
