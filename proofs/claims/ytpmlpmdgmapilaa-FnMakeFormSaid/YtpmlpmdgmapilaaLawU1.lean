/- General laws of chapter 1: forms. -/
import Derived.Test.YtpmlpmdgmapilaaDraw5
import Derived.Test.YtpmlpmdgmapilaaPureL1
import Derived.Test.YtpmlpmdgmapilaaLawB
import Derived.Test.YtpmlpmdgmapilaaImpl1r
namespace Go.Proofs.Ytpmlpmdgmapilaa
open Go.RowKit
set_option maxRecDepth 8000
set_option linter.unusedSimpArgs false
set_option linter.unusedVariables false
/-- A list of names, as a call answers it: its length alone. -/
theorem parts_len {B : Nat} {r : Option (List (List UInt8))} {e : Ending} {w' : World} (h : PartsPost B r e w') : ∃ p c, e = .returned (.tuple #[.slice p (r.getD []).length c, .bool r.isSome]) := by
  obtain ⟨v, h1, h2⟩ := h
  obtain ⟨p, c, rfl⟩ := owns_slice h2
  exact ⟨p, c, h1⟩
set_option maxHeartbeats 2000000 in
theorem walk_FnForm (a : Option Addr) (L c : Nat) (zs : List Int) (w : World) (hr : BRow w a L c zs) :
    Calls Try.prog 3 #[.slice a L c] w fun e w' => e = .returned (.bool true) ∧ Below w.heap.size w w' := by
  by_cases h0 : L ≤ 1048576
  · have hd0 : decide (1048576 < (L : Int)) = false := by simp; omega
    have C := Lib.hid (drawFormValid_c a L c zs w hr)
    clear hr
    go_enter Try.func3, Try.ntmps3
    go_wp2_with fail
    refine (C.out).mono ?_
    rintro e w1 ⟨⟨s, rfl, hs⟩, hb1⟩
    have HB1 := Lib.hid hb1
    clear hb1 C
    have CV := Lib.hid (implFormValid_c s (by omega))
    have CW := Lib.hid (specFormValid_c s (by omega))
    have hsz : (s ++ ⟨#[41]⟩).size = s.size + 1 := by simp; rfl
    cases hp : parse s.data.toList with
    | none =>
      rw [hp] at CV CW
      simp only [Option.isSome_none] at CV CW
      clear hp
      go_wp2_with (first | (go_at_call 16; go_must (refine (CV.out _).mono ?_; rintro e w2 ⟨rfl, hb2⟩)) | (go_at_call 17; go_must (refine (CW.out _).mono ?_; rintro e w3 ⟨rfl, hb3⟩)))
      go_ret
      exact ⟨rfl, (nextB (nextB (firstB HB1.out) hb2) hb3).1⟩
    | some t =>
      rw [hp] at CV CW
      simp only [Option.isSome_some] at CV CW
      have CX : Hid (∀ W : World, Calls Try.prog 16 #[.string (s ++ ⟨#[41]⟩)] W fun e w' => e = .returned (.bool false) ∧ Below W.heap.size W w') := Lib.hid (fun W => by
        have h := implFormValid_c (s ++ ⟨#[41]⟩) (by rw [hsz]; omega) W
        rw [show (s ++ ⟨#[41]⟩ : ByteArray).data.toList = s.data.toList ++ [41] by simp [ByteArray.data_append], parse_paren hp] at h
        exact h)
      have CA : Hid (∀ W : World, Calls Try.prog 18 #[.string s] W fun e w' => (∃ p n c, e = .returned (.tuple #[.slice p n c, .bool true])) ∧ Below W.heap.size W w') := Lib.hid (fun W => (implFormAtoms_c s (by omega) W).mono fun e w' ⟨h1, h2⟩ => by
        obtain ⟨p, c, h3⟩ := parts_len h1
        rw [atomsOf_some hp] at h3
        exact ⟨⟨_, _, _, h3⟩, h2⟩)
      have CS := Lib.hid (implFormSize_c s (by omega))
      have CD := Lib.hid (implFormDepth_c s (by omega))
      rw [size_of_parse hp] at CS
      rw [depth_of_parse hp] at CD
      have f1 : (1 : Int) ≤ (t.size : Int) := by have := (size_ge hp).1; omega
      have f2 : (0 : Int) ≤ (t.depth : Int) := by omega
      have f3 : (t.depth : Int) ≤ 60 := by have := (parse_got hp).2.2.1; omega
      have f4 : (t.size : Int) ≥ 1 := f1
      have f5 : (t.depth : Int) ≥ 0 := f2
      clear hp
      generalize (t.size : Int) = z1 at *
      generalize (t.depth : Int) = z2 at *
      go_wp2_with (first | (go_at_call 18; go_must (refine (CA.out _).mono ?_; rintro e w4 ⟨⟨p4, n4, c4, rfl⟩, hb4⟩)) | (go_at_call 20; go_must (refine (CS.out _).mono ?_; rintro e w5 ⟨rfl, hb5⟩)) | (go_at_call 19; go_must (refine (CD.out _).mono ?_; rintro e w6 ⟨rfl, hb6⟩)) | (go_at_call_of 16 (s ++ (⟨#[41]⟩ : ByteArray)); go_must (refine (CX.out _).mono ?_; rintro e w7 ⟨rfl, hb7⟩)) | (go_at_call_of 16 s; go_must (refine (CV.out _).mono ?_; rintro e w2 ⟨rfl, hb2⟩)) | (go_at_call 17; go_must (refine (CW.out _).mono ?_; rintro e w3 ⟨rfl, hb3⟩)))
      go_ret
      exact ⟨rfl, (nextB (nextB (nextB (nextB (nextB (nextB (firstB HB1.out) hb2) hb3) hb4) hb6) hb5) hb7).1⟩
  · have hd0 : decide (1048576 < (L : Int)) = true := by simp; omega
    have hm0 : L ≤ 9223372036854775807 := hr.bound
    go_enter Try.func3, Try.ntmps3
    go_wp2_with fail
    go_ret
    exact ⟨rfl, Below.refl _ _⟩
set_option maxHeartbeats 2000000 in
theorem walk_FnSize (a : Option Addr) (L c : Nat) (zs : List Int) (w : World) (hr : BRow w a L c zs) :
    Calls Try.prog 6 #[.slice a L c] w fun e w' => e = .returned (.bool true) ∧ Below w.heap.size w w' := by
  by_cases h0 : L ≤ 1048576
  · have hd0 : decide (1048576 < (L : Int)) = false := by simp; omega
    have C := Lib.hid (drawFormSize_c a L c zs w hr)
    clear hr
    go_enter Try.func6, Try.ntmps6
    go_wp2_with fail
    refine (C.out).mono ?_
    rintro e w1 ⟨⟨s, rfl, hs⟩, hb1⟩
    have HB1 := Lib.hid hb1
    clear hb1 C
    have CS := Lib.hid (implFormSize_c s (by omega))
    have CT := Lib.hid (specFormSize_c s (by omega))
    cases hp : parse s.data.toList with
    | none =>
      have hz : sizeOfText s.data.toList = -1 := by simp [sizeOfText, hp]
      rw [hz] at CS CT
      clear hp hz
      go_wp2_with (first | (go_at_call 20; go_must (refine (CS.out _).mono ?_; rintro e w2 ⟨rfl, hb2⟩)) | (go_at_call 29; go_must (refine (CT.out _).mono ?_; rintro e w3 ⟨rfl, hb3⟩)))
      go_ret
      exact ⟨rfl, (nextB (nextB (firstB HB1.out) hb2) hb3).1⟩
    | some t =>
      have CA : Hid (∀ W : World, Calls Try.prog 18 #[.string s] W fun e w' => (∃ p c, e = .returned (.tuple #[.slice p (atoms t []).length c, .bool true])) ∧ Below W.heap.size W w') := Lib.hid (fun W => (implFormAtoms_c s (by omega) W).mono fun e w' ⟨h1, h2⟩ => by
        obtain ⟨p, c, h3⟩ := parts_len h1
        rw [atomsOf_some hp] at h3
        exact ⟨⟨_, _, h3⟩, h2⟩)
      rw [size_of_parse hp] at CS CT
      obtain ⟨g1, g2⟩ := size_ge hp
      obtain ⟨g3, g4⟩ := atoms_range hp
      have g5 : s.data.toList.length = s.size := by simp
      have f0 : ¬ (t.size : Int) < 0 := by omega
      have f1 : (t.size : Int) ≥ 1 := by omega
      have f2 : (t.size : Int) ≤ (s.size : Int) := by omega
      have f3 : ((atoms t []).length : Int) ≤ (t.size : Int) := by omega
      have f4 : ((atoms t []).length : Int) ≥ 1 := by omega
      clear hp
      generalize (atoms t []).length = z2 at *
      generalize t.size = z1 at *
      go_wp2_with (first | (go_at_call 20; go_must (refine (CS.out _).mono ?_; rintro e w2 ⟨rfl, hb2⟩)) | (go_at_call 29; go_must (refine (CT.out _).mono ?_; rintro e w3 ⟨rfl, hb3⟩)) | (go_at_call 18; go_must (refine (CA.out _).mono ?_; rintro e w4 ⟨⟨p4, c4, rfl⟩, hb4⟩)))
      go_ret
      exact ⟨rfl, (nextB (nextB (nextB (firstB HB1.out) hb2) hb3) hb4).1⟩
  · have hd0 : decide (1048576 < (L : Int)) = true := by simp; omega
    have hm0 : L ≤ 9223372036854775807 := hr.bound
    go_enter Try.func6, Try.ntmps6
    go_wp2_with fail
    go_ret
    exact ⟨rfl, Below.refl _ _⟩
end Go.Proofs.Ytpmlpmdgmapilaa
