/- The reference's draws: a form or another text; a type or another text. -/
import Derived.Test.YtpmlpmdgmapilaaDraw4
namespace Go.Proofs.Ytpmlpmdgmapilaa
open Go.RowKit
set_option maxRecDepth 8000
set_option linter.unusedSimpArgs false
set_option linter.unusedVariables false
def oddTails : List (List UInt8) := [[41], [32], [40], [65], []]
def oddTexts : List (List UInt8) := [[], [40, 41], [40, 32, 97, 41], [40, 97, 32, 41], [40, 97, 32, 32, 98, 41], [97, 32, 98], [40, 97]]
set_option maxHeartbeats 4000000 in
theorem l91Text_d {q : Nat} {a : Option Addr} {L c p : Nat} {zs : List Int} {w : World} (h : Rd w q a L c p zs) (hp : p ≤ 500000) :
    Calls Try.prog 53 #[.pointer (some ⟨q, 0, none⟩)] w fun e w' => DrPost q a L c p zs 2000 2000 w e w' := by
  have CF : Hid (Calls Try.prog 64 #[.pointer (some ⟨q, 0, none⟩), .int .i64 3] w fun e w' => DrPost q a L c p zs 640 640 w e w') := Lib.hid (l91Form_d 3 p w h (by decide) (by omega))
  clear h
  go_enter Try.func53, Try.ntmps53
  go_wp2_with fail
  refine (CF.out).mono ?_
  rintro e w1 ⟨s1, p1, rfl, a1, a2, hR1, ho1⟩
  have CP := Lib.hid (pick_d (n := 20) hR1 (by omega) (by omega))
  clear hR1
  go_wp2_with fail
  refine (CP.out).mono ?_
  rintro e w2 ⟨⟨k, rfl, hk0, hk1⟩, hR2, ho2⟩
  have HO2 := Lib.hid (ho1.trans ho2)
  clear ho1 ho2
  by_cases h0 : k = 0
  · subst h0
    have C1 := Lib.hid (of_new (l := oddTails) (N := 1) hR2 (by omega) (by decide) (by decide) (by decide))
    clear hR2
    go_wp2_with fail
    refine (C1.out).mono ?_
    rintro e w3 ⟨s3, p3, rfl, b1, b2, hR3, ho3⟩
    have hsz : (s1 ++ s3).size = s1.size + s3.size := by simp
    go_wp2_with fail
    go_ret
    exact ⟨_, p3, rfl, by rw [hsz]; omega, by omega, hR3, HO2.out.trans ho3⟩
  · have e0 : (k == 0) = false := by simpa using h0
    by_cases h1 : k = 1
    · subst h1
      have C1 := Lib.hid (of_new (l := oddTexts) (N := 6) hR2 (by omega) (by decide) (by decide) (by decide))
      clear hR2
      go_wp2_with fail
      refine (C1.out).mono ?_
      rintro e w3 ⟨s3, p3, rfl, b1, b2, hR3, ho3⟩
      go_wp2_with fail
      go_ret
      exact ⟨_, p3, rfl, by omega, by omega, hR3, HO2.out.trans ho3⟩
    · have e1 : (k == 1) = false := by simpa using h1
      by_cases h2 : k = 2
      · subst h2
        have CM : Hid (∀ W : World, Calls Try.prog 66 #[.string ⟨#[40]⟩, .int .i64 60] W fun e w' => (∃ r : ByteArray, e = .returned (.string r) ∧ r.size ≤ 60) ∧ w' = W) := Lib.hid (fun W => l6Many_c ⟨#[40]⟩ 60 60 W (by decide) (by decide) (by decide) (by decide))
        have CP2 := Lib.hid (pick_d (n := 2) hR2 (by omega) (by omega))
        clear hR2
        go_wp2_with fail
        refine (CM.out _).mono ?_
        rintro e w3 ⟨⟨r3, rfl, hr3⟩, rfl⟩
        go_wp2_with fail
        refine (CP2.out).mono ?_
        rintro e w4 ⟨⟨j, rfl, hj0, hj1⟩, hR4, ho4⟩
        obtain ⟨i, rfl⟩ : ∃ i : Nat, j = (i : Int) := ⟨j.toNat, by omega⟩
        have hw : IntKind.i64.wrap (60 + (i : Int)) = 60 + (i : Int) := by rw [IntKind.wrap_i64]; omega
        have CM2 : Hid (∀ W : World, Calls Try.prog 66 #[.string ⟨#[41]⟩, .int .i64 (60 + (i : Int))] W fun e w' => (∃ r : ByteArray, e = .returned (.string r) ∧ r.size ≤ 62) ∧ w' = W) := Lib.hid (fun W => by
          have h := l6Many_c ⟨#[41]⟩ (60 + i) 62 W (by rw [sz41]; omega) (by decide) (by omega) (by rw [sz41]; omega)
          rw [show ((60 + i : Nat) : Int) = 60 + (i : Int) from by simp] at h
          exact h)
        go_wp2_with fail
        refine (CM2.out _).mono ?_
        rintro e w5 ⟨⟨r5, rfl, hr5⟩, rfl⟩
        have hsz : (r3 ++ ⟨#[97]⟩ ++ r5).size = r3.size + 1 + r5.size := by simp; rfl
        go_wp2_with fail
        go_ret
        exact ⟨_, _, rfl, by rw [hsz]; omega, by omega, hR4, HO2.out.trans ho4⟩
      · have e2 : (k == 2) = false := by simpa using h2
        go_wp2_with fail
        go_ret
        exact ⟨_, _, rfl, by omega, by omega, hR2, HO2.out⟩
/-- What a drawn text's function answers. -/
def DTx (w : World) (e : Ending) (w' : World) : Prop := (∃ s : ByteArray, e = .returned (.string s) ∧ s.size ≤ 2000) ∧ Below w.heap.size w w'
theorem dtx_of {q : Nat} {a : Option Addr} {L c p : Nat} {zs : List Int} {N M : Nat} {w w1 w' : World} {e : Ending} (hb : Below w.heap.size w w1) (hq : w.heap.size ≤ q) (h : DrPost q a L c p zs N M w1 e w') (hN : N ≤ 2000) : DTx w e w' := by
  obtain ⟨s, p', rfl, h2, h3, h4, h5⟩ := h
  exact ⟨⟨s, rfl, by omega⟩, Only.fresh hb h5 hq hb.size⟩
set_option maxHeartbeats 400000 in
theorem drawFormValid_c (a : Option Addr) (L c : Nat) (zs : List Int) (w : World) (hr : BRow w a L c zs) : Calls Try.prog 15 #[.slice a L c] w fun e w' => DTx w e w' := by
  have CO := Lib.hid (l6Open_c a L c zs w hr)
  clear hr
  go_enter Try.func15, Try.ntmps15
  go_wp2_with fail
  refine (CO.out).mono ?_
  rintro e w1 ⟨rfl, ⟨L', c', hR1⟩, hb1⟩
  have HB1 := Lib.hid hb1
  have C := Lib.hid (l91Text_d hR1 (by omega))
  clear hb1 hR1
  go_wp2_with fail
  refine (C.out).mono ?_
  rintro e w2 ⟨s, p', rfl, h2, h3, h4, h5⟩
  have HF := Lib.hid (dtx_of HB1.out (Nat.le_refl _) ⟨s, p', rfl, h2, h3, h4, h5⟩ (by decide))
  go_wp2_with fail
  go_ret
  exact HF.out
set_option maxHeartbeats 400000 in
theorem drawFormParts_c (a : Option Addr) (L c : Nat) (zs : List Int) (w : World) (hr : BRow w a L c zs) : Calls Try.prog 21 #[.slice a L c] w fun e w' => DTx w e w' := by
  have CO := Lib.hid (l6Open_c a L c zs w hr)
  clear hr
  go_enter Try.func21, Try.ntmps21
  go_wp2_with fail
  refine (CO.out).mono ?_
  rintro e w1 ⟨rfl, ⟨L', c', hR1⟩, hb1⟩
  have HB1 := Lib.hid hb1
  have C := Lib.hid (l91Text_d hR1 (by omega))
  clear hb1 hR1
  go_wp2_with fail
  refine (C.out).mono ?_
  rintro e w2 ⟨s, p', rfl, h2, h3, h4, h5⟩
  have HF := Lib.hid (dtx_of HB1.out (Nat.le_refl _) ⟨s, p', rfl, h2, h3, h4, h5⟩ (by decide))
  go_wp2_with fail
  go_ret
  exact HF.out
set_option maxHeartbeats 400000 in
theorem drawFormSize_c (a : Option Addr) (L c : Nat) (zs : List Int) (w : World) (hr : BRow w a L c zs) : Calls Try.prog 28 #[.slice a L c] w fun e w' => DTx w e w' := by
  have CO := Lib.hid (l6Open_c a L c zs w hr)
  clear hr
  go_enter Try.func28, Try.ntmps28
  go_wp2_with fail
  refine (CO.out).mono ?_
  rintro e w1 ⟨rfl, ⟨L', c', hR1⟩, hb1⟩
  have HB1 := Lib.hid hb1
  have C := Lib.hid (l91Text_d hR1 (by omega))
  clear hb1 hR1
  go_wp2_with fail
  refine (C.out).mono ?_
  rintro e w2 ⟨s, p', rfl, h2, h3, h4, h5⟩
  have HF := Lib.hid (dtx_of HB1.out (Nat.le_refl _) ⟨s, p', rfl, h2, h3, h4, h5⟩ (by decide))
  go_wp2_with fail
  go_ret
  exact HF.out
set_option maxHeartbeats 400000 in
theorem drawFormDepth_c (a : Option Addr) (L c : Nat) (zs : List Int) (w : World) (hr : BRow w a L c zs) : Calls Try.prog 30 #[.slice a L c] w fun e w' => DTx w e w' := by
  have CO := Lib.hid (l6Open_c a L c zs w hr)
  clear hr
  go_enter Try.func30, Try.ntmps30
  go_wp2_with fail
  refine (CO.out).mono ?_
  rintro e w1 ⟨rfl, ⟨L', c', hR1⟩, hb1⟩
  have HB1 := Lib.hid hb1
  have C := Lib.hid (l91Text_d hR1 (by omega))
  clear hb1 hR1
  go_wp2_with fail
  refine (C.out).mono ?_
  rintro e w2 ⟨s, p', rfl, h2, h3, h4, h5⟩
  have HF := Lib.hid (dtx_of HB1.out (Nat.le_refl _) ⟨s, p', rfl, h2, h3, h4, h5⟩ (by decide))
  go_wp2_with fail
  go_ret
  exact HF.out
set_option maxHeartbeats 400000 in
theorem drawFormAtoms_c (a : Option Addr) (L c : Nat) (zs : List Int) (w : World) (hr : BRow w a L c zs) : Calls Try.prog 32 #[.slice a L c] w fun e w' => DTx w e w' := by
  have CO := Lib.hid (l6Open_c a L c zs w hr)
  clear hr
  go_enter Try.func32, Try.ntmps32
  go_wp2_with fail
  refine (CO.out).mono ?_
  rintro e w1 ⟨rfl, ⟨L', c', hR1⟩, hb1⟩
  have HB1 := Lib.hid hb1
  have C := Lib.hid (l91Text_d hR1 (by omega))
  clear hb1 hR1
  go_wp2_with fail
  refine (C.out).mono ?_
  rintro e w2 ⟨s, p', rfl, h2, h3, h4, h5⟩
  have HF := Lib.hid (dtx_of HB1.out (Nat.le_refl _) ⟨s, p', rfl, h2, h3, h4, h5⟩ (by decide))
  go_wp2_with fail
  go_ret
  exact HF.out
end Go.Proofs.Ytpmlpmdgmapilaa
