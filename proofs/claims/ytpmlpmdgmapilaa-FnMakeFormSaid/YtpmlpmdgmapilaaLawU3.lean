/- General laws of chapter 1: types taken apart and made. -/
import Derived.Test.YtpmlpmdgmapilaaLawU2
import Derived.Test.YtpmlpmdgmapilaaImpl1p
namespace Go.Proofs.Ytpmlpmdgmapilaa
open Go.RowKit
set_option maxRecDepth 8000
set_option linter.unusedSimpArgs false
set_option linter.unusedVariables false
theorem sides_got {c : UInt8} (hc : c = 62 ∨ c = 42) {l : List UInt8} {p : List UInt8 × List UInt8} (h : sidesOf [c] l = some p) : ∃ t x a b, readTy l = some t ∧ t = .list [x, a, b] ∧ atomOf x = [c] ∧ p = (a.text, b.text) ∧ isTy a = true ∧ isTy b = true ∧ a.size + b.size + 1 ≤ 16 ∧ l = 40 :: c :: 32 :: (a.text ++ 32 :: (b.text ++ [41])) := by
  cases hr : readTy l with
  | none => rw [sides_none _ hr] at h; cases h
  | some t =>
    rcases ty_sides hr with ⟨h1, h2, h3⟩ | ⟨d, x, a, b, hd, ht, hx, h4, h5, ha, hb, -, hs, hl⟩
    · rcases hc with rfl | rfl
      · rw [h2] at h; cases h
      · rw [h3] at h; cases h
    · by_cases e : c = d
      · subst e
        rw [h4] at h
        simp only [Option.some.injEq] at h
        exact ⟨t, x, a, b, rfl, ht, hx, h.symm, ha, hb, hs, hl⟩
      · rw [h5 c e] at h; cases h
theorem ty_text_len {a : Tr} (ha : isTy a = true) (hs : a.size ≤ 16) : a.text.length ≤ 100 := by
  obtain ⟨h1, h2, h3⟩ := isTy_small _ a (Nat.le_refl _) ha
  have := text_length a h3
  omega
set_option maxHeartbeats 4000000 in
theorem walk_FnTypeFun (a : Option Addr) (L c : Nat) (zs : List Int) (w : World) (hr : BRow w a L c zs) :
    Calls Try.prog 11 #[.slice a L c] w fun e w' => e = .returned (.bool true) ∧ Below w.heap.size w w' := by
  by_cases h0 : L ≤ 1048576
  · have hd0 : decide (1048576 < (L : Int)) = false := by simp; omega
    have C := Lib.hid (drawTypeFun_c a L c zs w hr)
    clear hr
    go_enter Try.func11, Try.ntmps11
    go_wp2_with fail
    refine (C.out).mono ?_
    rintro e w1 ⟨⟨s, rfl, hs⟩, hb1⟩
    have HB := Lib.hid hb1
    clear hb1 C
    obtain ⟨l, rfl⟩ := as_bs s
    rw [bs_size] at hs
    have CV : Hid (∀ W : World, Calls Try.prog 41 #[.string (bs l)] W fun e w' => e = .returned (.tuple #[.string (bs (((sidesOf [62] l).map (·.1)).getD [])), .string (bs (((sidesOf [62] l).map (·.2)).getD [])), .bool (sidesOf [62] l).isSome]) ∧ Below W.heap.size W w') := Lib.hid (fun W => by have h := implTypeFun_c (bs l) (by rw [bs_size]; omega) W; rw [bs_data] at h; exact h)
    have CW : Hid (∀ W : World, Calls Try.prog 45 #[.string (bs l)] W fun e w' => e = .returned (.tuple #[.string (bs (((sidesOf [62] l).map (·.1)).getD [])), .string (bs (((sidesOf [62] l).map (·.2)).getD [])), .bool (sidesOf [62] l).isSome]) ∧ Below W.heap.size W w') := Lib.hid (fun W => by have h := specTypeFun_c (bs l) (by rw [bs_size]; omega) W; rw [bs_data] at h; exact h)
    cases hsd : sidesOf [62] l with
    | none =>
      rw [hsd] at CV CW
      simp only [Option.map_none, Option.getD_none, Option.isSome_none] at CV CW
      clear hsd
      go_wp2_with (first | (go_at_call 41; go_must (refine (CV.out _).mono ?_; rintro e wn ⟨rfl, hbn⟩; have HB := Lib.hid ((nextB (firstB HB.out) hbn).1); clear hbn)) | (go_at_call 45; go_must (refine (CW.out _).mono ?_; rintro e wn ⟨rfl, hbn⟩; have HB := Lib.hid ((nextB (firstB HB.out) hbn).1); clear hbn)))
      go_ret
      exact ⟨rfl, HB.out⟩
    | some p =>
      obtain ⟨t, x, a, b, hr, ht, hx, rfl, ha, hb, hsz, hl⟩ := sides_got (by decide) hsd
      rw [hsd] at CV CW
      simp only [Option.map_some, Option.getD_some, Option.isSome_some] at CV CW
      have ra := readTy_part ha (by omega)
      have rb := readTy_part hb (by omega)
      have la := ty_text_len ha (by omega)
      have lb := ty_text_len hb (by omega)
      have CM : Hid (∀ W : World, Calls Try.prog 46 #[.bool true, .string (bs a.text), .string (bs b.text)] W fun e w' => e = .returned (.tuple #[.string (bs l), .bool true]) ∧ Below W.heap.size W w') := Lib.hid (fun W => by
        have h := implTypeMake_c true (bs a.text) (bs b.text) (by rw [bs_size]; omega) (by rw [bs_size]; omega) W
        rw [bs_data, bs_data, makeT_some ra rb, if_pos (by omega)] at h
        have e : bs l = bs (Tr.list [.atom [62], a, b]).text := by rw [hl, made_text]
        rw [e]; exact h)
      have CO : Hid (∀ W : World, Calls Try.prog 43 #[.string (bs l)] W fun e w' => e = .returned (.int .i64 (tyOrder t : Int)) ∧ Below W.heap.size W w') := Lib.hid (fun W => by have h := implTypeOrder_c (bs l) (by rw [bs_size]; omega) W; rw [bs_data, orderOf_some hr] at h; exact h)
      have COa : Hid (∀ W : World, Calls Try.prog 43 #[.string (bs a.text)] W fun e w' => e = .returned (.int .i64 (tyOrder a : Int)) ∧ Below W.heap.size W w') := Lib.hid (fun W => by have h := implTypeOrder_c (bs a.text) (by rw [bs_size]; omega) W; rw [bs_data, orderOf_some ra] at h; exact h)
      have COb : Hid (∀ W : World, Calls Try.prog 43 #[.string (bs b.text)] W fun e w' => e = .returned (.int .i64 (tyOrder b : Int)) ∧ Below W.heap.size W w') := Lib.hid (fun W => by have h := implTypeOrder_c (bs b.text) (by rw [bs_size]; omega) W; rw [bs_data, orderOf_some rb] at h; exact h)
      have CTa : Hid (∀ W : World, Calls Try.prog 39 #[.string (bs a.text)] W fun e w' => e = .returned (.bool true) ∧ Below W.heap.size W w') := Lib.hid (fun W => by have h := implTypeValid_c (bs a.text) (by rw [bs_size]; omega) W; rw [bs_data, ra] at h; exact h)
      have CTb : Hid (∀ W : World, Calls Try.prog 39 #[.string (bs b.text)] W fun e w' => e = .returned (.bool true) ∧ Below W.heap.size W w') := Lib.hid (fun W => by have h := implTypeValid_c (bs b.text) (by rw [bs_size]; omega) W; rw [bs_data, rb] at h; exact h)
      have hot : tyOrder t = max (tyOrder a + 1) (tyOrder b) := by rw [ht, tyOrder_three, hx]; rfl
      have g1 : (tyOrder t : Int) > (tyOrder a : Int) := by omega
      have g2 : (tyOrder t : Int) ≥ (tyOrder b : Int) := by omega
      clear hsd ra rb hr ht hx ha hb hsz hl hot
      generalize (tyOrder t : Int) = z1 at *
      generalize (tyOrder a : Int) = z2 at *
      generalize (tyOrder b : Int) = z3 at *
      generalize bs a.text = sa at *
      generalize bs b.text = sb at *
      generalize bs l = sl at *
      go_wp2_with (first | (go_at_call 41; go_must (refine (CV.out _).mono ?_; rintro e wn ⟨rfl, hbn⟩; have HB := Lib.hid ((nextB (firstB HB.out) hbn).1); clear hbn)) | (go_at_call 45; go_must (refine (CW.out _).mono ?_; rintro e wn ⟨rfl, hbn⟩; have HB := Lib.hid ((nextB (firstB HB.out) hbn).1); clear hbn)) | (go_at_call 46; go_must (refine (CM.out _).mono ?_; rintro e wn ⟨rfl, hbn⟩; have HB := Lib.hid ((nextB (firstB HB.out) hbn).1); clear hbn)) | (go_at_call_of 43 (sl); go_must (refine (CO.out _).mono ?_; rintro e wn ⟨rfl, hbn⟩; have HB := Lib.hid ((nextB (firstB HB.out) hbn).1); clear hbn)) | (go_at_call_of 43 (sa); go_must (refine (COa.out _).mono ?_; rintro e wn ⟨rfl, hbn⟩; have HB := Lib.hid ((nextB (firstB HB.out) hbn).1); clear hbn)) | (go_at_call_of 43 (sb); go_must (refine (COb.out _).mono ?_; rintro e wn ⟨rfl, hbn⟩; have HB := Lib.hid ((nextB (firstB HB.out) hbn).1); clear hbn)) | (go_at_call_of 39 (sa); go_must (refine (CTa.out _).mono ?_; rintro e wn ⟨rfl, hbn⟩; have HB := Lib.hid ((nextB (firstB HB.out) hbn).1); clear hbn)) | (go_at_call_of 39 (sb); go_must (refine (CTb.out _).mono ?_; rintro e wn ⟨rfl, hbn⟩; have HB := Lib.hid ((nextB (firstB HB.out) hbn).1); clear hbn)))
      go_ret
      exact ⟨rfl, HB.out⟩
  · have hd0 : decide (1048576 < (L : Int)) = true := by simp; omega
    have hm0 : L ≤ 9223372036854775807 := hr.bound
    go_enter Try.func11, Try.ntmps11
    go_wp2_with fail
    go_ret
    exact ⟨rfl, Below.refl _ _⟩
set_option maxHeartbeats 4000000 in
theorem walk_FnTypePair (a : Option Addr) (L c : Nat) (zs : List Int) (w : World) (hr : BRow w a L c zs) :
    Calls Try.prog 12 #[.slice a L c] w fun e w' => e = .returned (.bool true) ∧ Below w.heap.size w w' := by
  by_cases h0 : L ≤ 1048576
  · have hd0 : decide (1048576 < (L : Int)) = false := by simp; omega
    have C := Lib.hid (drawTypePair_c a L c zs w hr)
    clear hr
    go_enter Try.func12, Try.ntmps12
    go_wp2_with fail
    refine (C.out).mono ?_
    rintro e w1 ⟨⟨s, rfl, hs⟩, hb1⟩
    have HB := Lib.hid hb1
    clear hb1 C
    obtain ⟨l, rfl⟩ := as_bs s
    rw [bs_size] at hs
    have CV : Hid (∀ W : World, Calls Try.prog 42 #[.string (bs l)] W fun e w' => e = .returned (.tuple #[.string (bs (((sidesOf [42] l).map (·.1)).getD [])), .string (bs (((sidesOf [42] l).map (·.2)).getD [])), .bool (sidesOf [42] l).isSome]) ∧ Below W.heap.size W w') := Lib.hid (fun W => by have h := implTypePair_c (bs l) (by rw [bs_size]; omega) W; rw [bs_data] at h; exact h)
    have CW : Hid (∀ W : World, Calls Try.prog 48 #[.string (bs l)] W fun e w' => e = .returned (.tuple #[.string (bs (((sidesOf [42] l).map (·.1)).getD [])), .string (bs (((sidesOf [42] l).map (·.2)).getD [])), .bool (sidesOf [42] l).isSome]) ∧ Below W.heap.size W w') := Lib.hid (fun W => by have h := specTypePair_c (bs l) (by rw [bs_size]; omega) W; rw [bs_data] at h; exact h)
    cases hsd : sidesOf [42] l with
    | none =>
      rw [hsd] at CV CW
      simp only [Option.map_none, Option.getD_none, Option.isSome_none] at CV CW
      clear hsd
      go_wp2_with (first | (go_at_call 42; go_must (refine (CV.out _).mono ?_; rintro e wn ⟨rfl, hbn⟩; have HB := Lib.hid ((nextB (firstB HB.out) hbn).1); clear hbn)) | (go_at_call 48; go_must (refine (CW.out _).mono ?_; rintro e wn ⟨rfl, hbn⟩; have HB := Lib.hid ((nextB (firstB HB.out) hbn).1); clear hbn)))
      go_ret
      exact ⟨rfl, HB.out⟩
    | some p =>
      obtain ⟨t, x, a, b, hr, ht, hx, rfl, ha, hb, hsz, hl⟩ := sides_got (by decide) hsd
      rw [hsd] at CV CW
      simp only [Option.map_some, Option.getD_some, Option.isSome_some] at CV CW
      have ra := readTy_part ha (by omega)
      have rb := readTy_part hb (by omega)
      have la := ty_text_len ha (by omega)
      have lb := ty_text_len hb (by omega)
      have CM : Hid (∀ W : World, Calls Try.prog 46 #[.bool false, .string (bs a.text), .string (bs b.text)] W fun e w' => e = .returned (.tuple #[.string (bs l), .bool true]) ∧ Below W.heap.size W w') := Lib.hid (fun W => by
        have h := implTypeMake_c false (bs a.text) (bs b.text) (by rw [bs_size]; omega) (by rw [bs_size]; omega) W
        rw [bs_data, bs_data, makeT_some ra rb, if_pos (by omega)] at h
        have e : bs l = bs (Tr.list [.atom [42], a, b]).text := by rw [hl, made_text]
        rw [e]; exact h)
      have CO : Hid (∀ W : World, Calls Try.prog 43 #[.string (bs l)] W fun e w' => e = .returned (.int .i64 (tyOrder t : Int)) ∧ Below W.heap.size W w') := Lib.hid (fun W => by have h := implTypeOrder_c (bs l) (by rw [bs_size]; omega) W; rw [bs_data, orderOf_some hr] at h; exact h)
      have COa : Hid (∀ W : World, Calls Try.prog 43 #[.string (bs a.text)] W fun e w' => e = .returned (.int .i64 (tyOrder a : Int)) ∧ Below W.heap.size W w') := Lib.hid (fun W => by have h := implTypeOrder_c (bs a.text) (by rw [bs_size]; omega) W; rw [bs_data, orderOf_some ra] at h; exact h)
      have COb : Hid (∀ W : World, Calls Try.prog 43 #[.string (bs b.text)] W fun e w' => e = .returned (.int .i64 (tyOrder b : Int)) ∧ Below W.heap.size W w') := Lib.hid (fun W => by have h := implTypeOrder_c (bs b.text) (by rw [bs_size]; omega) W; rw [bs_data, orderOf_some rb] at h; exact h)
      have CTa : Hid (∀ W : World, Calls Try.prog 39 #[.string (bs a.text)] W fun e w' => e = .returned (.bool true) ∧ Below W.heap.size W w') := Lib.hid (fun W => by have h := implTypeValid_c (bs a.text) (by rw [bs_size]; omega) W; rw [bs_data, ra] at h; exact h)
      have CTb : Hid (∀ W : World, Calls Try.prog 39 #[.string (bs b.text)] W fun e w' => e = .returned (.bool true) ∧ Below W.heap.size W w') := Lib.hid (fun W => by have h := implTypeValid_c (bs b.text) (by rw [bs_size]; omega) W; rw [bs_data, rb] at h; exact h)
      have hot : tyOrder t = max (tyOrder a) (tyOrder b) := by rw [ht, tyOrder_three, hx]; rfl
      have g1 : (tyOrder t : Int) = max (tyOrder a : Int) (tyOrder b : Int) := by omega
      clear hsd ra rb hr ht hx ha hb hsz hl hot
      generalize (tyOrder t : Int) = z1 at *
      generalize (tyOrder a : Int) = z2 at *
      generalize (tyOrder b : Int) = z3 at *
      generalize bs a.text = sa at *
      generalize bs b.text = sb at *
      generalize bs l = sl at *
      go_wp2_with (first | (go_at_call 42; go_must (refine (CV.out _).mono ?_; rintro e wn ⟨rfl, hbn⟩; have HB := Lib.hid ((nextB (firstB HB.out) hbn).1); clear hbn)) | (go_at_call 48; go_must (refine (CW.out _).mono ?_; rintro e wn ⟨rfl, hbn⟩; have HB := Lib.hid ((nextB (firstB HB.out) hbn).1); clear hbn)) | (go_at_call 46; go_must (refine (CM.out _).mono ?_; rintro e wn ⟨rfl, hbn⟩; have HB := Lib.hid ((nextB (firstB HB.out) hbn).1); clear hbn)) | (go_at_call_of 43 (sl); go_must (refine (CO.out _).mono ?_; rintro e wn ⟨rfl, hbn⟩; have HB := Lib.hid ((nextB (firstB HB.out) hbn).1); clear hbn)) | (go_at_call_of 43 (sa); go_must (refine (COa.out _).mono ?_; rintro e wn ⟨rfl, hbn⟩; have HB := Lib.hid ((nextB (firstB HB.out) hbn).1); clear hbn)) | (go_at_call_of 43 (sb); go_must (refine (COb.out _).mono ?_; rintro e wn ⟨rfl, hbn⟩; have HB := Lib.hid ((nextB (firstB HB.out) hbn).1); clear hbn)) | (go_at_call_of 39 (sa); go_must (refine (CTa.out _).mono ?_; rintro e wn ⟨rfl, hbn⟩; have HB := Lib.hid ((nextB (firstB HB.out) hbn).1); clear hbn)) | (go_at_call_of 39 (sb); go_must (refine (CTb.out _).mono ?_; rintro e wn ⟨rfl, hbn⟩; have HB := Lib.hid ((nextB (firstB HB.out) hbn).1); clear hbn)))
      go_ret
      exact ⟨rfl, HB.out⟩
  · have hd0 : decide (1048576 < (L : Int)) = true := by simp; omega
    have hm0 : L ≤ 9223372036854775807 := hr.bound
    go_enter Try.func12, Try.ntmps12
    go_wp2_with fail
    go_ret
    exact ⟨rfl, Below.refl _ _⟩
end Go.Proofs.Ytpmlpmdgmapilaa
