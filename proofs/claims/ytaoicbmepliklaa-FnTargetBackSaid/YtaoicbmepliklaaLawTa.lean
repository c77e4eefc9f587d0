/- General laws of chapter 6: target types of types. -/
import Derived.Test.YtaoicbmepliklaaTgn
import Derived.Test.YtaoicbmepliklaaTg6
import Derived.Test.YtaoicbmepliklaaTgd
import Derived.Test.YtaoicbmepliklaaDraw6
namespace Go.Proofs.Ytaoicbmepliklaa
open Go.RowKit
set_option maxRecDepth 8000
set_option linter.unusedSimpArgs false
set_option linter.unusedVariables false
theorem tOf_depth : ∀ t : Tr, isTy t = true → (tOf t).depth + 3 ≤ 3 * t.size
  | t, h => by
    rcases isTy_view t h with rfl | ⟨c, a, b, hc, rfl, ha, hb⟩
    · rw [tOf_atom]; simp [Tr.depth, Tr.size]
    · have k1 := (tyT_kids (c := c) (a := a) (b := b)).1
      have k2 := (tyT_kids (c := c) (a := a) (b := b)).2
      have d1 := tOf_depth a ha
      have d2 := tOf_depth b hb
      rw [tyT_size]
      rcases hc with rfl | rfl
      · rw [tOf_fun]; simp only [pk, Tr.depth, depths]; omega
      · rw [tOf_pair]; simp only [Tr.depth, depths]; omega
termination_by t => t.bytes
theorem tOf_tgt : ∀ (t : Tr) (u : List UInt8 → Bool) (hid : Bool), isTy t = true → tgt u hid (tOf t) = true
  | t, u, hid, h => by
    rcases isTy_view t h with rfl | ⟨c, a, b, hc, rfl, ha, hb⟩
    · rw [tOf_atom, tgt_atom]; rfl
    · have k1 := (tyT_kids (c := c) (a := a) (b := b)).1
      have k2 := (tyT_kids (c := c) (a := a) (b := b)).2
      have v (hh : Bool) : tgt u true (.atom [118]) = true := by rw [tgt_atom]; rfl
      rcases hc with rfl | rfl
      · rw [tOf_fun]
        simp only [pk]
        rw [tgt_e (by rfl), tgtE_one, tgt_tc (.inl (by rfl)), tgts, tgts, tgts, tgt_tc (.inr (by rfl)), tgts, tgts, tgts, tgts, tgt_e (by rfl), tgtE_one, tgt_tc (.inl (by rfl)), tgts, tgts, tgts, tgt_tc (.inr (by rfl)), tgts, tgts, tgts, tOf_tgt a u true ha, tOf_tgt b u true hb, v true]
        rfl
      · rw [tOf_pair, tgt_tc (.inl (by rfl)), tgts, tgts, tgts, tOf_tgt a u hid ha, tOf_tgt b u hid hb]; rfl
termination_by t => t.bytes
/-- All that is known of the target type of a type that was read. -/
theorem tof_facts {l : List UInt8} {t : Tr} (h : readTy l = some t) : parse (tOf t).text = some (tOf t) ∧ (tOf t).text.length ≤ 640 ∧ tgtT (tOf t).text = true ∧ tbackT (tOf t).text = some l ∧ ((tOf t).text == [105]) = (l == [105]) := by
  obtain ⟨h1, h2, h3, h4, h5, h6⟩ := readTy_got h
  obtain ⟨fw, fb⟩ := tOf_fits t h5
  have fd := tOf_depth t h5
  have hp := parse_text fw (by omega) (by omega)
  refine ⟨hp, tOf_len t h5 h6, by rw [tgtT, hp]; exact tOf_tgt t _ _ h5, ?_, ?_⟩
  · rw [tbackT, hp]
    simp only [(src_iff 61 (tOf t) t (by omega)).2 ⟨h5, rfl⟩, if_pos h6, h4]
  · rw [h4]
    rcases isTy_view t h5 with rfl | ⟨c, a, b, hc, rfl, ha, hb⟩
    · rw [tOf_atom]
    · have e1 : ((tyT c a b).text == [105]) = false := by simp [tyT, Tr.text]
      rw [e1]
      rcases hc with rfl | rfl
      · rw [tOf_fun]; simp [pk, Tr.text]
      · rw [tOf_pair]; simp [Tr.text]
set_option maxHeartbeats 400000 in
theorem drawTargetOf_c (a : Option Addr) (L c : Nat) (zs : List Int) (w : World) (hr : BRow w a L c zs) : Calls Try.prog 19 #[.slice a L c] w fun e w' => DTl w e w' := by
  have CO := Lib.hid (l6Open_c a L c zs w hr)
  clear hr
  go_enter Try.func19, Try.ntmps19
  go_wp2_with fail
  refine (CO.out).mono ?_
  rintro e w1 ⟨rfl, ⟨L', c', hR1⟩, hb1⟩
  have HB1 := Lib.hid hb1
  have C := Lib.hid (l91Typed_d hR1 (by omega))
  clear hb1 hR1
  go_wp2_with fail
  refine (C.out).mono ?_
  rintro e w2 ⟨s, p', rfl, h2, h3, h4, h5⟩
  have HF := Lib.hid (dtl_of HB1.out (Nat.le_refl _) ⟨s, p', rfl, h2, h3, h4, h5⟩ (by decide))
  go_wp2_with fail
  go_ret
  exact HF.out
theorem as_bsT (s : ByteArray) : ∃ l, s = bs l := ⟨s.data.toList, bs_ext rfl⟩
set_option maxHeartbeats 4000000 in
theorem walk_FnTargetOf (a : Option Addr) (L c : Nat) (zs : List Int) (w : World) (hr : BRow w a L c zs) :
    Calls Try.prog 7 #[.slice a L c] w fun e w' => e = .returned (.bool true) ∧ Below w.heap.size w w' := by
  by_cases h0 : L ≤ 1048576
  · have hd0 : decide (1048576 < (L : Int)) = false := by simp; omega
    have C := Lib.hid (drawTargetOf_c a L c zs w hr)
    clear hr
    go_enter Try.func7, Try.ntmps7
    go_wp2_with fail
    refine (C.out).mono ?_
    rintro e w1 ⟨⟨s, rfl, hs⟩, hb1⟩
    have HB := Lib.hid hb1
    clear hb1 C
    obtain ⟨l, rfl⟩ := as_bsT s
    rw [bs_size] at hs
    have CV : Hid (∀ W : World, Calls Try.prog 14 #[.string (bs l)] W fun e w' => e = .returned (.tuple #[.string (bs ((tofT l).getD [])), .bool (tofT l).isSome]) ∧ Below W.heap.size W w') := Lib.hid (fun W => by have h := implTargetOf_c (bs l) (by rw [bs_size]; omega) W; rw [bs_data] at h; exact h)
    have CW : Hid (∀ W : World, Calls Try.prog 13 #[.string (bs l)] W fun e w' => e = .returned (.tuple #[.string (bs ((tofT l).getD [])), .bool (tofT l).isSome]) ∧ Below W.heap.size W w') := Lib.hid (fun W => by have h := specTargetOf_c (bs l) (by rw [bs_size]; omega) W; rw [bs_data] at h; exact h)
    cases hr : readTy l with
    | none =>
      have hsd : tofT l = none := by simp [tofT, hr]
      rw [hsd] at CV CW
      simp only [Option.getD_none, Option.isSome_none] at CV CW
      clear hsd hr
      go_wp2_with (first | (go_at_call 14; go_must (refine (CV.out _).mono ?_; rintro e wn ⟨rfl, hbn⟩; have HB := Lib.hid ((nextB (firstB HB.out) hbn).1); clear hbn)) | (go_at_call 13; go_must (refine (CW.out _).mono ?_; rintro e wn ⟨rfl, hbn⟩; have HB := Lib.hid ((nextB (firstB HB.out) hbn).1); clear hbn)))
      go_ret
      exact ⟨rfl, HB.out⟩
    | some t =>
      have hsd : tofT l = some (tOf t).text := by simp [tofT, hr]
      rw [hsd] at CV CW
      simp only [Option.getD_some, Option.isSome_some] at CV CW
      obtain ⟨f1, f2, f3, f4, f5⟩ := tof_facts hr
      have CB : Hid (∀ W : World, Calls Try.prog 18 #[.string (bs (tOf t).text)] W fun e w' => e = .returned (.tuple #[.string (bs l), .bool true]) ∧ Below W.heap.size W w') := Lib.hid (fun W => by have h := implTargetBack_c (bs (tOf t).text) (by rw [bs_size]; omega) W; rw [bs_data, f4] at h; exact h)
      have CT : Hid (∀ W : World, Calls Try.prog 12 #[.string (bs (tOf t).text)] W fun e w' => e = .returned (.bool true) ∧ Below W.heap.size W w') := Lib.hid (fun W => by have h := implTargetValid_c (bs (tOf t).text) (by rw [bs_size]; omega) W; rw [bs_data, f3] at h; exact h)
      have q1 : ((bs (tOf t).text).toList == [105]) = ((tOf t).text == [105]) := by rw [bs_toList]
      have q2 : ((bs l).toList == [105]) = (l == [105]) := by rw [bs_toList]
      rw [f5] at q1
      clear hsd hr f1 f2 f3 f4 f5 hs
      generalize (l == [105]) = Q at *
      generalize bs (tOf t).text = X at *
      generalize bs l = S at *
      cases Q
      all_goals
        go_wp2_with (first | (go_at_call 14; go_must (refine (CV.out _).mono ?_; rintro e wn ⟨rfl, hbn⟩; have HB := Lib.hid ((nextB (firstB HB.out) hbn).1); clear hbn)) | (go_at_call 13; go_must (refine (CW.out _).mono ?_; rintro e wn ⟨rfl, hbn⟩; have HB := Lib.hid ((nextB (firstB HB.out) hbn).1); clear hbn)) | (go_at_call 18; go_must (refine (CB.out _).mono ?_; rintro e wn ⟨rfl, hbn⟩; have HB := Lib.hid ((nextB (firstB HB.out) hbn).1); clear hbn)) | (go_at_call 12; go_must (refine (CT.out _).mono ?_; rintro e wn ⟨rfl, hbn⟩; have HB := Lib.hid ((nextB (firstB HB.out) hbn).1); clear hbn)))
        go_ret
        exact ⟨rfl, HB.out⟩
  · have hd : decide (1048576 < (L : Int)) = true := by simp; omega
    have hm : L ≤ 9223372036854775807 := hr.bound
    go_enter Try.func7, Try.ntmps7
    go_wp2_with fail
    go_ret
    exact ⟨rfl, Below.refl _ _⟩
end Go.Proofs.Ytaoicbmepliklaa
