/- The laws FnInstr and FnInstrLast: their walks. Instructions are forms with heads; last ones have one register. -/
import Derived.Test.YtfknoigbkleanaaGreatDoorDrawI
import Derived.Test.YtfknoigbkleanaaGreatDoorInX
import Derived.Test.YtfknoigbkleanaaGreatDoorImpl1m
import Derived.Test.YtfknoigbkleanaaGreatDoorNumI
import Derived.OwnWalk
namespace Go.Proofs.YtfknoigbkleanaaGreatDoor
open Go.RowKit
set_option maxRecDepth 8000
set_option linter.unusedSimpArgs false
set_option linter.unusedVariables false
theorem letters_first (h : List UInt8) (n : Nat) (hne : lettersOf h n ≠ []) : ∃ k r, lettersOf h n = k :: r ∧ (k = 100 ∨ k = 115) := by
  unfold lettersOf at hne ⊢
  repeat' split
  all_goals first
    | exact ⟨_, _, rfl, .inl rfl⟩
    | exact ⟨_, _, rfl, .inr rfl⟩
    | (rename_i a1 a2 a3 a4 a5 a6 a7 a8 a9; simp [a1, a2, a3, a4, a5, a6, a7, a8, a9] at hne; done)
theorem letters_last {h : List UInt8} (n : Nat) (hl : lastH h = true) : lettersOf h n = [115] := by
  simp only [lastH, Bool.or_eq_true, decide_eq_true_eq] at hl
  rcases hl with rfl | rfl <;> rfl
theorem instr_law {l : List UInt8} (h : insOf l = true) : ∃ (ps : List (List UInt8)) (n : Int), partsOf l = some ps ∧ 2 ≤ ps.length ∧ ps.length ≤ 12000 ∧ numOf (ps.getD 1 []) = some n ∧ 0 ≤ n ∧ n ≤ 39 ∧ (ps.getD 1 []).length ≤ 1048576 ∧ lastOf l = lastH (ps.getD 0 []) ∧ (lastOf l = true → ps.length = 2) := by
  unfold insOf at h
  cases hp : parse l with
  | none => simp [hp] at h
  | some t =>
    simp only [hp] at h
    obtain ⟨hw, hby, -, -⟩ := parse_got hp
    match t, hp, h, hw, hby with
    | .atom a, hp, h, hw, hby => simp [insF] at h
    | .list [], hp, h, hw, hby => simp [insF] at h
    | .list (hd :: ts), hp, h, hw, hby =>
      simp only [insF] at h
      have hlast : lastOf l = lastH (atomOf hd) := by simp only [lastOf, hp, insF, hdT, h, Bool.true_and]
      unfold insT at h
      simp only [Bool.and_eq_true, Bool.not_eq_true', decide_eq_true_eq] at h
      obtain ⟨e1, e2, e3⟩ := h
      have hne : lettersOf (atomOf hd) ts.length ≠ [] := by intro e; rw [e] at e1; cases e1
      obtain ⟨k, r, hk, hk2⟩ := letters_first _ _ hne
      cases ts with
      | nil => rw [hk] at e2; simp at e2
      | cons t0 ts =>
        have h0 : okI (lettersOf (atomOf hd) (t0 :: ts).length) (t0 :: ts) 0 = true := by
          cases hb : okI (lettersOf (atomOf hd) (t0 :: ts).length) (t0 :: ts) 0 with
          | true => rfl
          | false => rw [allB_bad (by simp) hb] at e3; cases e3
        have h1 : regB t0 = true := by
          have h2 : opB k t0 = true := by unfold okI at h0; rw [hk] at h0; exact h0
          unfold opB at h2; rw [if_pos hk2] at h2; exact h2
        cases hn : numOf (atomOf t0) with
        | none => simp [regB, regZ, hn] at h1
        | some n =>
          have hn2 : 0 ≤ n ∧ n ≤ 39 := by
            simp only [regB, regZ, hn, Option.filter] at h1
            split at h1
            · rename_i q; simpa using q
            · cases h1
          have ht0 : t0.text = atomOf t0 := by
            cases t0 with
            | atom a => simp [Tr.text, atomOf]
            | list us => rw [show numOf (atomOf (.list us)) = none from (show numOf [] = none by decide)] at hn; cases hn
          have hh : hd.text = atomOf hd := by
            cases hd with
            | atom a => simp [Tr.text, atomOf]
            | list us => exact absurd (show lettersOf (atomOf (.list us)) (t0 :: ts).length = [] by simp [atomOf, lettersOf, kConst, kMov, kOpen, kAdd, kSub, kMul, kNew, kGet, kLab, kPack, kZero, kJump, kHalt]) hne
          have hlen := two_bytess hw.2
          have hlt : (atomOf t0).length ≤ 12000 := by
            have h3 := text_length t0 hw.2.2.1
            rw [ht0] at h3
            simp only [Tr.bytes, bytess] at hby
            omega
          refine ⟨(hd :: t0 :: ts).map Tr.text, n, by simp [partsOf, hp], by simp, ?_, ?_, hn2.1, hn2.2, ?_, ?_, ?_⟩
          · simp only [List.length_map]
            simp only [Tr.bytes] at hby
            omega
          · show numOf t0.text = some n
            rw [ht0]; exact hn
          · show t0.text.length ≤ 1048576
            rw [ht0]; omega
          · show lastOf l = lastH hd.text
            rw [hh]; exact hlast
          · intro q
            rw [hlast] at q
            rw [letters_last _ q] at e2
            simp only [List.length_map, List.length_cons, List.length_nil] at e2 ⊢
            omega
theorem owns_strI {w : World} {B : Nat} {v : Value} {l : List (List UInt8)} (h : w.ownsRow B 9 1 v l.length (l.map strV)) (hl : l.length ≤ 9223372036854775807) : StrS w v l := by
  rcases h.2 with ⟨rfl, h0⟩ | ⟨g, cap, cur, rfl, hb, hg, h1, h2, h3, h4⟩
  · exact ⟨none, 0, by rw [h0], hl, fun hne => absurd (List.eq_nil_of_length_eq_zero h0) hne⟩
  · exact ⟨_, cap, rfl, hl, fun _ => ⟨g, 0, rfl, owns_row h⟩⟩
theorem rowsI {w : World} {v : Value} {l : List (List UInt8)} (h : StrS w v l) (hl : 0 < l.length) : ∃ rr off c, v = .slice (some ⟨rr, off, none⟩) l.length c ∧ rr < w.heap.size ∧ ∀ i : Nat, i < l.length → w.cell? ⟨rr, off + i, none⟩ = some (.string (bs (l.getD i []))) := by
  obtain ⟨p, c, rfl, h1, h2⟩ := h
  obtain ⟨r, off, rfl, h3⟩ := h2 (fun e => by rw [e] at hl; simp at hl)
  have hc : ∀ i : Nat, i < l.length → w.cell? ⟨r, off + i, none⟩ = some (.string (bs (l.getD i []))) := fun i hi => by
    rw [StrS.cell h3 hi, List.getD_eq_getElem?_getD, List.getElem?_eq_getElem hi]; rfl
  exact ⟨r, off, c, rfl, World.block_lt_of_cell? _ _ (hc 0 hl), hc⟩
theorem partsI {l : List UInt8} {ps : List (List UInt8)} (hp : partsOf l = some ps) (hl : ps.length ≤ 12000) (h2 : 2 ≤ ps.length) (hs : l.length ≤ 400) (W : World) :
    Calls Tryz.prog 33 #[.string (bs l)] W fun e w' => (∃ rr off c, e = .returned (.tuple #[.slice (some ⟨rr, off, none⟩) ps.length c, .bool true]) ∧ rr < w'.heap.size ∧ w'.cell? ⟨rr, off, none⟩ = some (.string (bs (ps.getD 0 []))) ∧ w'.cell? ⟨rr, off + 1, none⟩ = some (.string (bs (ps.getD 1 [])))) ∧ Below W.heap.size W w' :=
  (implFormParts_c (bs l) (by rw [bs_size]; omega) W).mono fun e w' ⟨⟨v, h3, h4⟩, h5⟩ => ⟨by
    rw [bs_data, hp] at h3 h4
    obtain ⟨rr, off, c, rfl, hr, hc⟩ := rowsI (owns_strI h4 (by simp only [Option.getD_some]; omega)) (by simp only [Option.getD_some]; omega)
    simp only [Option.getD_some] at hc
    exact ⟨rr, off, c, h3, hr, hc 0 (by omega), hc 1 (by omega)⟩, h5⟩
theorem cellI {w w' : World} {B rr off : Nat} {v : Value} (h : w.cell? ⟨rr, off, none⟩ = some v) (hb : Below B w w') (hr : rr < B) : w'.cell? ⟨rr, off, none⟩ = some v := by
  rw [World.cell?, hb.block rr hr]; exact h
set_option maxHeartbeats 4000000 in
theorem walk_FnInstr (a : Option Addr) (L c : Nat) (zs : List Int) (w : World) (hr : BRow w a L c zs) :
    Calls Tryz.prog 7 #[.slice a L c] w fun e w' => e = .returned (.bool true) ∧ Below w.heap.size w w' := by
  by_cases h0 : L ≤ 1048576
  · have hd0 : decide (1048576 < (L : Int)) = false := by simp; omega
    have C := Lib.hid (drawInstrValid_c a L c zs w hr)
    clear hr
    go_enter Tryz.func7, Tryz.ntmps7
    go_wp2_with fail
    refine (C.out).mono ?_
    rintro e w1 ⟨⟨s, rfl, hs⟩, hb1⟩
    have HB := Lib.hid hb1
    clear hb1 C
    obtain ⟨l, rfl⟩ : ∃ l : List UInt8, s = bs l := ⟨s.data.toList, bs_ext rfl⟩
    have hll : l.length ≤ 400 := by rw [bs_size] at hs; exact hs
    clear hs
    have CI := (fun W => implInstrValid_c (bs l) (by rw [bs_size]; omega) W)
    have CS := (fun W => specInstrValid_c (bs l) (by rw [bs_size]; omega) W)
    rw [bs_data] at CI CS
    cases hv : insOf l with
    | false =>
      rw [hv] at CI CS
      have CI := Lib.hid CI
      have CS := Lib.hid CS
      clear hv hll
      generalize bs l = T at *
      go_wp2_with (first | (go_at_call 31; go_must (refine (CI.out _).mono ?_; rintro e wn ⟨rfl, hbn⟩; have HB := Lib.hid ((nextB (firstB HB.out) hbn).1); clear hbn)) | (go_at_call 32; go_must (refine (CS.out _).mono ?_; rintro e wn ⟨rfl, hbn⟩; have HB := Lib.hid ((nextB (firstB HB.out) hbn).1); clear hbn)))
      go_ret
      exact ⟨ret_bool (by simp), HB.out⟩
    | true =>
      rw [hv] at CI CS
      have CI := Lib.hid CI
      have CS := Lib.hid CS
      obtain ⟨ps, n, q1, q2, q3, q4, q5, q6, q7, q8, q9⟩ := instr_law hv
      have CP := Lib.hid (fun W => partsI q1 q3 q2 hll W)
      have CL := (fun W => implInstrLast_c (bs l) (by rw [bs_size]; omega) W)
      rw [bs_data, q8] at CL
      have CL := Lib.hid CL
      have CN : Hid (∀ W, Calls Tryz.prog 34 #[.string (bs (ps.getD 1 []))] W fun e w' => e = .returned (.tuple #[.int .i64 n, .bool true]) ∧ Below W.heap.size W w') := Lib.hid (fun W => (implExprNumber_c _ q7 W).mono fun e w' ⟨h1, h2⟩ => ⟨by rw [q4] at h1; exact h1, h2⟩)
      obtain ⟨HD, hHD⟩ : ∃ HD, HD = bs (ps.getD 0 []) := ⟨_, rfl⟩
      have LF := lastFacts (ps.getD 0 []) HD hHD
      rw [← hHD] at CP
      generalize lastH (ps.getD 0 []) = LB at *
      generalize bs (ps.getD 1 []) = ND at *
      generalize ps.length = K at *
      have hK2 : (2 : Int) ≤ (K : Int) := by omega
      have hK3 : (K : Int) ≤ 12000 := by omega
      have hn1 : decide ((0 : Int) ≤ n) = true := by simpa using q5
      have hn2 : decide (n < (40 : Int)) = true := by simp; omega
      clear hv hll q1 q4 q7 q8 q9 hHD
      generalize bs l = T at *
      rcases LF with ⟨x1, y1, rfl⟩ | ⟨x1, y1, x2, y2, y3⟩
      · go_wp2_with (first | (go_at_call 31; go_must (refine (CI.out _).mono ?_; rintro e wn ⟨rfl, hbn⟩; have HB := Lib.hid ((nextB (firstB HB.out) hbn).1); clear hbn)) | (go_at_call 32; go_must (refine (CS.out _).mono ?_; rintro e wn ⟨rfl, hbn⟩; have HB := Lib.hid ((nextB (firstB HB.out) hbn).1); clear hbn)) | (go_at_call 33; go_must (refine (CP.out _).mono ?_; rintro e wn ⟨⟨rr, off, cp, rfl, hrr, c0, c1⟩, hbn⟩; have HB := Lib.hid ((nextB (firstB HB.out) hbn).1); clear hbn)) | (go_at_call 34; go_must (refine (CN.out _).mono ?_; rintro e wm ⟨rfl, hbn⟩; have d0 := cellI c0 hbn hrr; have HB := Lib.hid ((nextB (firstB HB.out) hbn).1); clear hbn)) | (go_at_call 35; go_must (refine (CL.out _).mono ?_; rintro e wn ⟨rfl, hbn⟩; have HB := Lib.hid ((nextB (firstB HB.out) hbn).1); clear hbn)))
        go_ret
        exact ⟨ret_bool (by simp [hn1, hn2]), HB.out⟩
      · cases LB with
        | true =>
          have y4 := y2 rfl
          clear y2 y3
          go_wp2_with (first | (go_at_call 31; go_must (refine (CI.out _).mono ?_; rintro e wn ⟨rfl, hbn⟩; have HB := Lib.hid ((nextB (firstB HB.out) hbn).1); clear hbn)) | (go_at_call 32; go_must (refine (CS.out _).mono ?_; rintro e wn ⟨rfl, hbn⟩; have HB := Lib.hid ((nextB (firstB HB.out) hbn).1); clear hbn)) | (go_at_call 33; go_must (refine (CP.out _).mono ?_; rintro e wn ⟨⟨rr, off, cp, rfl, hrr, c0, c1⟩, hbn⟩; have HB := Lib.hid ((nextB (firstB HB.out) hbn).1); clear hbn)) | (go_at_call 34; go_must (refine (CN.out _).mono ?_; rintro e wm ⟨rfl, hbn⟩; have d0 := cellI c0 hbn hrr; have HB := Lib.hid ((nextB (firstB HB.out) hbn).1); clear hbn)) | (go_at_call 35; go_must (refine (CL.out _).mono ?_; rintro e wn ⟨rfl, hbn⟩; have HB := Lib.hid ((nextB (firstB HB.out) hbn).1); clear hbn)))
          go_ret
          exact ⟨ret_bool (by simp [hn1, hn2]), HB.out⟩
        | false =>
          have y4 := y3 rfl
          clear y2 y3
          go_wp2_with (first | (go_at_call 31; go_must (refine (CI.out _).mono ?_; rintro e wn ⟨rfl, hbn⟩; have HB := Lib.hid ((nextB (firstB HB.out) hbn).1); clear hbn)) | (go_at_call 32; go_must (refine (CS.out _).mono ?_; rintro e wn ⟨rfl, hbn⟩; have HB := Lib.hid ((nextB (firstB HB.out) hbn).1); clear hbn)) | (go_at_call 33; go_must (refine (CP.out _).mono ?_; rintro e wn ⟨⟨rr, off, cp, rfl, hrr, c0, c1⟩, hbn⟩; have HB := Lib.hid ((nextB (firstB HB.out) hbn).1); clear hbn)) | (go_at_call 34; go_must (refine (CN.out _).mono ?_; rintro e wm ⟨rfl, hbn⟩; have d0 := cellI c0 hbn hrr; have HB := Lib.hid ((nextB (firstB HB.out) hbn).1); clear hbn)) | (go_at_call 35; go_must (refine (CL.out _).mono ?_; rintro e wn ⟨rfl, hbn⟩; have HB := Lib.hid ((nextB (firstB HB.out) hbn).1); clear hbn)))
          go_ret
          exact ⟨ret_bool (by simp [hn1, hn2]), HB.out⟩
  · have hd0 : decide (1048576 < (L : Int)) = true := by simp; omega
    have hm0 : L ≤ 9223372036854775807 := hr.bound
    go_enter Tryz.func7, Tryz.ntmps7
    go_wp2_with fail
    go_ret
    exact ⟨rfl, Below.refl _ _⟩
set_option maxHeartbeats 4000000 in
theorem walk_FnInstrLast (a : Option Addr) (L c : Nat) (zs : List Int) (w : World) (hr : BRow w a L c zs) :
    Calls Tryz.prog 8 #[.slice a L c] w fun e w' => e = .returned (.bool true) ∧ Below w.heap.size w w' := by
  by_cases h0 : L ≤ 1048576
  · have hd0 : decide (1048576 < (L : Int)) = false := by simp; omega
    have C := Lib.hid (drawInstrLast_c a L c zs w hr)
    clear hr
    go_enter Tryz.func8, Tryz.ntmps8
    go_wp2_with fail
    refine (C.out).mono ?_
    rintro e w1 ⟨⟨s, rfl, hs⟩, hb1⟩
    have HB := Lib.hid hb1
    clear hb1 C
    obtain ⟨l, rfl⟩ : ∃ l : List UInt8, s = bs l := ⟨s.data.toList, bs_ext rfl⟩
    have hll : l.length ≤ 400 := by rw [bs_size] at hs; exact hs
    clear hs
    have CI := (fun W => implInstrLast_c (bs l) (by rw [bs_size]; omega) W)
    have CS := (fun W => specInstrLast_c (bs l) (by rw [bs_size]; omega) W)
    rw [bs_data] at CI CS
    cases hv : lastOf l with
    | false =>
      rw [hv] at CI CS
      have CI := Lib.hid CI
      have CS := Lib.hid CS
      clear hv hll
      generalize bs l = T at *
      go_wp2_with (first | (go_at_call 35; go_must (refine (CI.out _).mono ?_; rintro e wn ⟨rfl, hbn⟩; have HB := Lib.hid ((nextB (firstB HB.out) hbn).1); clear hbn)) | (go_at_call 37; go_must (refine (CS.out _).mono ?_; rintro e wn ⟨rfl, hbn⟩; have HB := Lib.hid ((nextB (firstB HB.out) hbn).1); clear hbn)))
      go_ret
      exact ⟨ret_bool (by simp), HB.out⟩
    | true =>
      rw [hv] at CI CS
      have CI := Lib.hid CI
      have CS := Lib.hid CS
      have hvi : insOf l = true := by
        cases hi : insOf l with
        | true => rfl
        | false => rw [lastOf_none hi] at hv; cases hv
      obtain ⟨ps, n, q1, q2, q3, q4, q5, q6, q7, q8, q9⟩ := instr_law hvi
      have CP := Lib.hid (fun W => partsI q1 q3 q2 hll W)
      have CV := (fun W => implInstrValid_c (bs l) (by rw [bs_size]; omega) W)
      rw [bs_data, hvi] at CV
      have CV := Lib.hid CV
      have hK := q9 hv
      rw [hK] at CP
      generalize bs (ps.getD 1 []) = ND at *
      generalize bs (ps.getD 0 []) = HD at *
      clear hv hvi hll q1 q2 q3 q4 q5 q6 q7 q8 q9 hK
      generalize bs l = T at *
      go_wp2_with (first | (go_at_call 35; go_must (refine (CI.out _).mono ?_; rintro e wn ⟨rfl, hbn⟩; have HB := Lib.hid ((nextB (firstB HB.out) hbn).1); clear hbn)) | (go_at_call 37; go_must (refine (CS.out _).mono ?_; rintro e wn ⟨rfl, hbn⟩; have HB := Lib.hid ((nextB (firstB HB.out) hbn).1); clear hbn)) | (go_at_call 33; go_must (refine (CP.out _).mono ?_; rintro e wn ⟨⟨rr, off, cp, rfl, hrr, c0, c1⟩, hbn⟩; have HB := Lib.hid ((nextB (firstB HB.out) hbn).1); clear hbn)) | (go_at_call 31; go_must (refine (CV.out _).mono ?_; rintro e wn ⟨rfl, hbn⟩; have HB := Lib.hid ((nextB (firstB HB.out) hbn).1); clear hbn)))
      go_ret
      exact ⟨ret_bool (by simp), HB.out⟩
  · have hd0 : decide (1048576 < (L : Int)) = true := by simp; omega
    have hm0 : L ≤ 9223372036854775807 := hr.bound
    go_enter Tryz.func8, Tryz.ntmps8
    go_wp2_with fail
    go_ret
    exact ⟨rfl, Below.refl _ _⟩
end Go.Proofs.YtfknoigbkleanaaGreatDoor
