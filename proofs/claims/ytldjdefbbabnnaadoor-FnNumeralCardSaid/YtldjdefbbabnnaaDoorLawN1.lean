/- The law FnNumeral: numerals are read one way. -/
import Derived.Test.YtldjdefbbabnnaaDoorDraw3
import Derived.Test.YtldjdefbbabnnaaDoorPureL1
import Derived.Test.YtldjdefbbabnnaaDoorDec
import Derived.Test.YtldjdefbbabnnaaDoorNumI
import Derived.Test.YtldjdefbbabnnaaDoorImpl2i
namespace Go.Proofs.YtldjdefbbabnnaaDoor
open Go.RowKit
set_option maxRecDepth 8000
set_option linter.unusedSimpArgs false
set_option linter.unusedVariables false
theorem decFrom_snoc : ∀ (l : List UInt8) (acc : Nat), Lib.decFrom acc (l ++ [48]) = (Lib.decFrom acc l).map (fun m => m * 10)
  | [], acc => by simp [Lib.decFrom, show Lib.digitVal 48 = some 0 from by decide]
  | b :: l, acc => by
    simp only [List.cons_append, Lib.decFrom]
    cases Lib.digitVal b with
    | none => rfl
    | some d => exact decFrom_snoc l _
theorem digitsOf_snoc {l : List UInt8} (h : l ≠ []) : digitsOf (l ++ [48]) = digitsOf l ++ [48] ∧ signOf (l ++ [48]) = signOf l := by
  cases l with
  | nil => exact absurd rfl h
  | cons b r => simp only [List.cons_append, digitsOf, signOf]; split <;> simp
theorem num_ten {l : List UInt8} {n : Int} (h : numOf l = some n) : numOf (l ++ [48]) = none ∨ numOf (l ++ [48]) = some (10 * n) := by
  by_cases h0 : l = [48]
  · subst h0; exact .inl (by decide)
  · have hne : l ≠ [] := fun e => by subst e; simp [numOf, digitsOf] at h
    have h48 : l ++ [48] ≠ [48] := fun e => by
      cases l with
      | nil => exact hne rfl
      | cons b r => simp at e
    by_cases hc : 1 ≤ (digitsOf l).length ∧ (digitsOf l).length ≤ 3 ∧ (digitsOf l).head? ≠ some 48
    · rw [numOf_yes h0 hc] at h
      obtain ⟨e1, e2⟩ := digitsOf_snoc hne
      by_cases hc2 : 1 ≤ (digitsOf (l ++ [48])).length ∧ (digitsOf (l ++ [48])).length ≤ 3 ∧ (digitsOf (l ++ [48])).head? ≠ some 48
      · rw [numOf_yes h48 hc2, e1, e2, decFrom_snoc]
        cases hd : Lib.decFrom 0 (digitsOf l) with
        | none => rw [hd] at h; cases h
        | some m =>
          rw [hd] at h
          simp only [Option.map_some, Option.some.injEq] at h
          refine .inr ?_
          simp only [Option.map_some, Option.some.injEq]
          rw [← h]
          rcases signOf_cases l with e | e <;> rw [e] <;> omega
      · exact .inl (numOf_no h48 hc2)
    · rw [numOf_no h0 hc] at h; cases h
theorem num_wf {l : List UInt8} {n : Int} (h : numOf l = some n) : (Tr.atom l).wf ∧ l.length ≤ 4 := by
  by_cases h0 : l = [48]
  · subst h0; exact ⟨⟨by decide, by decide⟩, by decide⟩
  · by_cases hc : 1 ≤ (digitsOf l).length ∧ (digitsOf l).length ≤ 3 ∧ (digitsOf l).head? ≠ some 48
    · rw [numOf_yes h0 hc] at h
      have hl := digitsOf_len l
      refine ⟨⟨fun e => by subst e; simp [digitsOf] at hc, ?_⟩, by omega⟩
      have hall : ∀ b ∈ digitsOf l, isAB b = true := fun b hb => by
        obtain ⟨k, hk, rfl⟩ := List.getElem_of_mem hb
        cases hv : Lib.digitVal (digitsOf l)[k] with
        | none =>
          rw [decFrom_bad (digitsOf l) 0 k _ (List.getElem?_eq_getElem hk) hv] at h
          cases h
        | some d =>
          have h2 := (digit_back hv)
          rw [← h2.2]
          have h3 := h2.1
          have : ∀ d : Nat, d < 10 → isAB (UInt8.ofNat (48 + d)) = true := by decide
          exact this d h3
      intro b hb
      cases l with
      | nil => cases hb
      | cons c r =>
        simp only [digitsOf] at hall
        split at hall
        · rename_i hc45
          rcases List.mem_cons.1 hb with rfl | hb
          · rw [hc45]; decide
          · exact hall b hb
        · exact hall b hb
    · rw [numOf_no h0 hc] at h; cases h
theorem num_read {l : List UInt8} {n : Int} (h : numOf l = some n) : readEx l = some (.num n) := by
  obtain ⟨h1, h2⟩ := num_wf h
  have hp : parse l = some (.atom l) := parse_text (t := .atom l) h1 (by simp [Tr.bytes]; omega) (by simp [Tr.depth])
  rw [readEx_some hp, if_pos (by simp [Tr.size])]
  simp [asEx, atomEx, h]
def oddNums : List (List UInt8) := [[], [45], [45, 48], [48, 48], [48, 49], [49, 48, 48, 48], [45, 49, 48, 48, 48], [120], [43, 49], [57, 57, 57], [45, 57, 57, 57]]
set_option maxHeartbeats 1000000 in
theorem drawExprNumber_c (a : Option Addr) (L c : Nat) (zs : List Int) (w : World) (hr : BRow w a L c zs) : Calls Tryd.prog 4 #[.slice a L c] w fun e w' => (∃ s : ByteArray, e = .returned (.string s) ∧ s.size ≤ 1000) ∧ Below w.heap.size w w' := by
  have CO := Lib.hid (l6Open_c a L c zs w hr)
  clear hr
  go_enter Tryd.func4, Tryd.ntmps4
  go_wp2_with fail
  refine (CO.out).mono ?_
  rintro e w1 ⟨rfl, ⟨L', c', hR1⟩, hb1⟩
  have HB1 := Lib.hid hb1
  have C := Lib.hid (pick_d (n := 3) hR1 (by omega) (by omega))
  clear hb1 hR1
  go_wp2_with fail
  refine (C.out).mono ?_
  rintro e w2 ⟨⟨k, rfl, hk0, hk1⟩, hR2, ho2⟩
  by_cases h0 : k = 0
  · subst h0
    have C1 := Lib.hid (of_new (l := oddNums) (N := 5) hR2 (by omega) (by decide) (by decide) (by decide))
    clear hR2
    go_wp2_with fail
    refine (C1.out).mono ?_
    rintro e w3 ⟨s3, p3, rfl, b1, b2, hR3, ho3⟩
    have HF := Lib.hid (Only.fresh HB1.out (ho2.trans ho3) (Nat.le_refl _) HB1.out.size)
    go_wp2_with fail
    go_ret
    exact ⟨⟨s3, rfl, by omega⟩, HF.out⟩
  · have e0 : (k == 0) = false := by simpa using h0
    have C2 := Lib.hid (pick_d (n := 300) hR2 (by omega) (by omega))
    clear hR2
    go_wp2_with fail
    refine (C2.out).mono ?_
    rintro e w3 ⟨⟨j, rfl, hj0, hj1⟩, hR3, ho3⟩
    have HF := Lib.hid (Only.fresh HB1.out (ho2.trans ho3) (Nat.le_refl _) HB1.out.size)
    have k1 : IntKind.i64.wrap (j - 150) = j - 150 := by rw [IntKind.wrap_i64]; omega
    have C3 := Lib.hid (l6Dec_any (j - 150) (by omega) (by omega))
    clear hR3 ho2 ho3
    go_wp2_with fail
    refine (C3.out _).mono ?_
    rintro e w4 ⟨⟨s4, rfl, hs4⟩, hb4⟩
    have HF2 := Lib.hid ((nextB (firstB HF.out) hb4).1)
    go_wp2_with fail
    go_ret
    exact ⟨⟨s4, rfl, hs4⟩, HF2.out⟩
theorem as_bsN (s : ByteArray) : ∃ l : List UInt8, s = bs l := ⟨s.data.toList, bs_ext rfl⟩
set_option maxHeartbeats 4000000 in
theorem walk_FnNumeral (a : Option Addr) (L c : Nat) (zs : List Int) (w : World) (hr : BRow w a L c zs) :
    Calls Tryd.prog 3 #[.slice a L c] w fun e w' => e = .returned (.bool true) ∧ Below w.heap.size w w' := by
  by_cases h0 : L ≤ 1048576
  · have hd0 : decide (1048576 < (L : Int)) = false := by simp; omega
    have C := Lib.hid (drawExprNumber_c a L c zs w hr)
    clear hr
    go_enter Tryd.func3, Tryd.ntmps3
    go_wp2_with fail
    refine (C.out).mono ?_
    rintro e w1 ⟨⟨s, rfl, hs⟩, hb1⟩
    have HB := Lib.hid hb1
    clear hb1 C
    obtain ⟨l, rfl⟩ := as_bsN s
    rw [bs_size] at hs
    have CV := Lib.hid (fun W => implExprNumber_c l (by omega) W)
    have CW : Hid (∀ W : World, Calls Tryd.prog 6 #[.string (bs l)] W fun e w' => NumPost (numOf l) e ∧ Below W.heap.size W w') := Lib.hid (fun W => (specExprNumber_c l (by omega) W).mono fun e w' ⟨h1, h2⟩ => ⟨h1, by rw [h2]; exact Below.refl _ _⟩)
    cases hn : numOf l with
    | none =>
      unfold Hid at CV CW
      rw [hn] at CV CW
      have CV := Lib.hid CV
      have CW := Lib.hid CW
      simp only [NumPost, Option.getD_none, Option.isSome_none] at CV CW
      clear hn
      go_wp2_with (first | (go_at_call 5; go_must (refine (CV.out _).mono ?_; rintro e wn ⟨rfl, hbn⟩; have HB := Lib.hid ((nextB (firstB HB.out) hbn).1); clear hbn)) | (go_at_call 6; go_must (refine (CW.out _).mono ?_; rintro e wn ⟨rfl, hbn⟩; have HB := Lib.hid ((nextB (firstB HB.out) hbn).1); clear hbn)))
      go_ret
      exact ⟨rfl, HB.out⟩
    | some n =>
      have hr := numOf_range hn
      have hrd := num_read hn
      have h10 := num_ten hn
      unfold Hid at CV CW
      rw [hn] at CV CW
      have CV := Lib.hid CV
      have CW := Lib.hid CW
      simp only [NumPost, Option.getD_some, Option.isSome_some] at CV CW
      have hsz : (bs l ++ ⟨#[48]⟩ : ByteArray) = bs (l ++ [48]) := by rw [← bs_append]; rfl
      have CT : Hid (∀ W : World, Calls Tryd.prog 5 #[.string (bs l ++ ⟨#[48]⟩)] W fun e w' => NumPost (numOf (l ++ [48])) e ∧ Below W.heap.size W w') := Lib.hid (fun W => by rw [hsz]; exact implExprNumber_c (l ++ [48]) (by simp; omega) W)
      have CE : Hid (∀ W : World, Calls Tryd.prog 7 #[.string (bs l)] W fun e w' => e = .returned (.bool true) ∧ Below W.heap.size W w') := Lib.hid (fun W => by have h := implExprValid_c (bs l) (by rw [bs_size]; omega) W; rw [bs_data, hrd] at h; exact h)
      have CH : Hid (∀ W : World, Calls Tryd.prog 8 #[.string (bs l)] W fun e w' => e = .returned (.string ⟨#[110, 117, 109, 98, 101, 114]⟩) ∧ Below W.heap.size W w') := Lib.hid (fun W => by have h := implExprHead_c (bs l) (by rw [bs_size]; omega) W; rw [bs_data, headI_some hrd] at h; exact h)
      have g1 : n ≥ -999 := by omega
      have g2 : n ≤ 999 := by omega
      have g3 : IntKind.i64.wrap (10 * n) = 10 * n := by rw [IntKind.wrap_i64]; omega
      have hsl : (bs l).size ≤ 1000 := by rw [bs_size]; exact hs
      clear hr hrd hn hsz
      rcases h10 with h10 | h10
      · unfold Hid at CT
        rw [h10] at CT
        have CT := Lib.hid CT
        simp only [NumPost, Option.getD_none, Option.isSome_none] at CT
        clear h10
        generalize bs l = sl at *
        go_wp2_with (first | (go_at_call_of 5 ((sl ++ (⟨#[48]⟩ : ByteArray))); go_must (refine (CT.out _).mono ?_; rintro e wn ⟨rfl, hbn⟩; have HB := Lib.hid ((nextB (firstB HB.out) hbn).1); clear hbn)) | (go_at_call_of 5 (sl); go_must (refine (CV.out _).mono ?_; rintro e wn ⟨rfl, hbn⟩; have HB := Lib.hid ((nextB (firstB HB.out) hbn).1); clear hbn)) | (go_at_call 6; go_must (refine (CW.out _).mono ?_; rintro e wn ⟨rfl, hbn⟩; have HB := Lib.hid ((nextB (firstB HB.out) hbn).1); clear hbn)) | (go_at_call 7; go_must (refine (CE.out _).mono ?_; rintro e wn ⟨rfl, hbn⟩; have HB := Lib.hid ((nextB (firstB HB.out) hbn).1); clear hbn)) | (go_at_call 8; go_must (refine (CH.out _).mono ?_; rintro e wn ⟨rfl, hbn⟩; have HB := Lib.hid ((nextB (firstB HB.out) hbn).1); clear hbn)))
        go_ret
        exact ⟨rfl, HB.out⟩
      · unfold Hid at CT
        rw [h10] at CT
        have CT := Lib.hid CT
        simp only [NumPost, Option.getD_some, Option.isSome_some] at CT
        clear h10
        generalize bs l = sl at *
        go_wp2_with (first | (go_at_call_of 5 ((sl ++ (⟨#[48]⟩ : ByteArray))); go_must (refine (CT.out _).mono ?_; rintro e wn ⟨rfl, hbn⟩; have HB := Lib.hid ((nextB (firstB HB.out) hbn).1); clear hbn)) | (go_at_call_of 5 (sl); go_must (refine (CV.out _).mono ?_; rintro e wn ⟨rfl, hbn⟩; have HB := Lib.hid ((nextB (firstB HB.out) hbn).1); clear hbn)) | (go_at_call 6; go_must (refine (CW.out _).mono ?_; rintro e wn ⟨rfl, hbn⟩; have HB := Lib.hid ((nextB (firstB HB.out) hbn).1); clear hbn)) | (go_at_call 7; go_must (refine (CE.out _).mono ?_; rintro e wn ⟨rfl, hbn⟩; have HB := Lib.hid ((nextB (firstB HB.out) hbn).1); clear hbn)) | (go_at_call 8; go_must (refine (CH.out _).mono ?_; rintro e wn ⟨rfl, hbn⟩; have HB := Lib.hid ((nextB (firstB HB.out) hbn).1); clear hbn)))
        go_ret
        exact ⟨rfl, HB.out⟩
  · have hd0 : decide (1048576 < (L : Int)) = true := by simp; omega
    have hm0 : L ≤ 9223372036854775807 := hr.bound
    go_enter Tryd.func3, Tryd.ntmps3
    go_wp2_with fail
    go_ret
    exact ⟨rfl, Below.refl _ _⟩
end Go.Proofs.YtldjdefbbabnnaaDoor
