/- General laws of chapter 6: target types read back. -/
import Derived.Test.YtaoicbmepliklaaDrawT
import Derived.Test.YtaoicbmepliklaaTgu
import Derived.Test.YtaoicbmepliklaaLawB
namespace Go.Proofs.Ytaoicbmepliklaa
open Go.RowKit
set_option maxRecDepth 8000
set_option linter.unusedSimpArgs false
set_option linter.unusedVariables false
theorem tback_facts {l o : List UInt8} (h : tbackT l = some o) : tofT o = some l ∧ (readTy o).isSome = true ∧ o.length ≤ 12000 := by
  unfold tbackT at h
  cases hp : parse l with
  | none => rw [hp] at h; cases h
  | some f =>
    rw [hp] at h
    simp only at h
    have hg := parse_got hp
    cases hq : src 61 f with
    | none => rw [hq] at h; cases h
    | some t =>
      rw [hq] at h
      simp only at h
      split at h
      · rename_i h16
        simp only [Option.some.injEq] at h
        obtain ⟨h1, h2⟩ := (src_iff 61 f t (by omega)).1 hq
        have hw := src_fits (by omega) hq
        have hr := readTy_txT h1 hw.1 h16
        rw [h] at hr
        refine ⟨by rw [tofT, hr]; simp only [Option.map_some]; rw [h2, hg.2.2.2], by rw [hr]; rfl, ?_⟩
        rw [← h, text_length _ hw.1]; omega
      · cases h
/-- What a drawn text's function answers. -/
def DTm (w : World) (e : Ending) (w' : World) : Prop := (∃ s : ByteArray, e = .returned (.string s) ∧ s.size ≤ 60000) ∧ Below w.heap.size w w'
set_option maxHeartbeats 4000000 in
theorem drawTargetBack_c (a : Option Addr) (L c : Nat) (zs : List Int) (w : World) (hr : BRow w a L c zs) : Calls Try.prog 20 #[.slice a L c] w fun e w' => DTm w e w' := by
  have CO := Lib.hid (l6Open_c a L c zs w hr)
  clear hr
  go_enter Try.func20, Try.ntmps20
  go_wp2_with fail
  refine (CO.out).mono ?_
  rintro e w1 ⟨rfl, ⟨L', c', hR1⟩, hb1⟩
  have HB1 := Lib.hid hb1
  have hs1 := hb1.size
  have C := Lib.hid (l91Type_d (d := 3) (p := 0) (w := w1) hR1 (by decide) (by decide))
  clear hb1 hR1
  go_wp2_with fail
  refine (C.out).mono ?_
  rintro e w2 ⟨s, p2, rfl, h2, h3, hR2, ho2⟩
  have hp2 : p2 ≤ 640 := by omega
  have hs2 : s.size ≤ 640 := by omega
  have HT := Lib.hid (tof_any s (by omega))
  clear h2 h3
  go_wp2_with fail
  refine (HT.out _).mono ?_
  rintro e w3 ⟨⟨x, z, rfl, hx⟩, hb3⟩
  have hR3 := hR2.below hb3
  have ho3 := ho2.trans (Only.of (b := w.heap.size) hb3)
  have HF := Lib.hid (fun (W : World) (h : Only w.heap.size w1 W) => Only.fresh HB1.out h (Nat.le_refl _) hs1)
  have CL := Lib.hid (fun p v (h : Rd v w.heap.size a L' c' p zs) hp => l92Target_d 3 p v h (by decide) hp)
  have CP := Lib.hid (fun p v (h : Rd v w.heap.size a L' c' p zs) (hp : p ≤ 1000000) => pick_d (n := 4) h hp (by omega))
  cases z
  · go_wp2_with fail
    refine (CL.out _ _ hR3 (by omega)).mono ?_
    rintro e w4 ⟨s4, p4, rfl, g3, g4, hR4, ho4⟩
    have hg : s4.size ≤ 60000 := by omega
    go_wp2_with fail
    go_ret
    exact ⟨⟨s4, rfl, hg⟩, HF.out _ (ho3.trans ho4)⟩
  · go_wp2_with fail
    refine (CP.out _ _ hR3 (by omega)).mono ?_
    rintro e w4 ⟨⟨k, rfl, hk0, hk1⟩, hR4, ho4⟩
    by_cases hk : 0 < k
    · have hk9 : decide (0 < k) = true := by simpa using hk
      go_wp2_with fail
      go_ret
      exact ⟨⟨x, rfl, by omega⟩, HF.out _ (ho3.trans ho4)⟩
    · have hk9 : decide (0 < k) = false := by simpa using hk
      go_wp2_with fail
      refine (CL.out _ _ hR4 (by omega)).mono ?_
      rintro e w5 ⟨s4, p4, rfl, g3, g4, hR5, ho5⟩
      have hg : s4.size ≤ 60000 := by omega
      go_wp2_with fail
      go_ret
      exact ⟨⟨s4, rfl, hg⟩, HF.out _ ((ho3.trans ho4).trans ho5)⟩
set_option maxHeartbeats 4000000 in
theorem walk_FnTargetBack (a : Option Addr) (L c : Nat) (zs : List Int) (w : World) (hr : BRow w a L c zs) :
    Calls Try.prog 8 #[.slice a L c] w fun e w' => e = .returned (.bool true) ∧ Below w.heap.size w w' := by
  by_cases h0 : L ≤ 1048576
  · have hd0 : decide (1048576 < (L : Int)) = false := by simp; omega
    have C := Lib.hid (drawTargetBack_c a L c zs w hr)
    clear hr
    go_enter Try.func8, Try.ntmps8
    go_wp2_with fail
    refine (C.out).mono ?_
    rintro e w1 ⟨⟨s, rfl, hs⟩, hb1⟩
    have HB := Lib.hid hb1
    clear hb1 C
    obtain ⟨l, rfl⟩ := as_bsT s
    rw [bs_size] at hs
    have CV : Hid (∀ W : World, Calls Try.prog 18 #[.string (bs l)] W fun e w' => e = .returned (.tuple #[.string (bs ((tbackT l).getD [])), .bool (tbackT l).isSome]) ∧ Below W.heap.size W w') := Lib.hid (fun W => by have h := implTargetBack_c (bs l) (by rw [bs_size]; omega) W; rw [bs_data] at h; exact h)
    have CW : Hid (∀ W : World, Calls Try.prog 17 #[.string (bs l)] W fun e w' => e = .returned (.tuple #[.string (bs ((tbackT l).getD [])), .bool (tbackT l).isSome]) ∧ Below W.heap.size W w') := Lib.hid (fun W => by have h := specTargetBack_c (bs l) (by rw [bs_size]; omega) W; rw [bs_data] at h; exact h)
    cases hr : tbackT l with
    | none =>
      rw [hr] at CV CW
      simp only [Option.getD_none, Option.isSome_none] at CV CW
      clear hr
      go_wp2_with (first | (go_at_call 18; go_must (refine (CV.out _).mono ?_; rintro e wn ⟨rfl, hbn⟩; have HB := Lib.hid ((nextB (firstB HB.out) hbn).1); clear hbn)) | (go_at_call 17; go_must (refine (CW.out _).mono ?_; rintro e wn ⟨rfl, hbn⟩; have HB := Lib.hid ((nextB (firstB HB.out) hbn).1); clear hbn)))
      go_ret
      exact ⟨rfl, HB.out⟩
    | some o =>
      rw [hr] at CV CW
      simp only [Option.getD_some, Option.isSome_some] at CV CW
      obtain ⟨f1, f2, f3⟩ := tback_facts hr
      have CB : Hid (∀ W : World, Calls Try.prog 14 #[.string (bs o)] W fun e w' => e = .returned (.tuple #[.string (bs l), .bool true]) ∧ Below W.heap.size W w') := Lib.hid (fun W => by have h := implTargetOf_c (bs o) (by rw [bs_size]; omega) W; rw [bs_data, f1] at h; exact h)
      have CT : Hid (∀ W : World, Calls Try.prog 21 #[.string (bs o)] W fun e w' => e = .returned (.bool true) ∧ Below W.heap.size W w') := Lib.hid (fun W => by have h := implTypeValid_c (bs o) (by rw [bs_size]; omega) W; rw [bs_data, f2] at h; exact h)
      clear hr f1 f2 f3 hs
      generalize bs o = X at *
      generalize bs l = S at *
      go_wp2_with (first | (go_at_call 18; go_must (refine (CV.out _).mono ?_; rintro e wn ⟨rfl, hbn⟩; have HB := Lib.hid ((nextB (firstB HB.out) hbn).1); clear hbn)) | (go_at_call 17; go_must (refine (CW.out _).mono ?_; rintro e wn ⟨rfl, hbn⟩; have HB := Lib.hid ((nextB (firstB HB.out) hbn).1); clear hbn)) | (go_at_call 14; go_must (refine (CB.out _).mono ?_; rintro e wn ⟨rfl, hbn⟩; have HB := Lib.hid ((nextB (firstB HB.out) hbn).1); clear hbn)) | (go_at_call 21; go_must (refine (CT.out _).mono ?_; rintro e wn ⟨rfl, hbn⟩; have HB := Lib.hid ((nextB (firstB HB.out) hbn).1); clear hbn)))
      go_ret
      exact ⟨rfl, HB.out⟩
  · have hd : decide (1048576 < (L : Int)) = true := by simp; omega
    have hm : L ≤ 9223372036854775807 := hr.bound
    go_enter Try.func8, Try.ntmps8
    go_wp2_with fail
    go_ret
    exact ⟨rfl, Below.refl _ _⟩
end Go.Proofs.Ytaoicbmepliklaa
