/- Draws of target types. -/
import Derived.Test.YtaoicbmepliklaaLawTa
namespace Go.Proofs.Ytaoicbmepliklaa
open Go.RowKit
set_option maxRecDepth 8000
set_option linter.unusedSimpArgs false
set_option linter.unusedVariables false
theorem tofT_len {l t : List UInt8} (h : tofT l = some t) : t.length ≤ 640 := by
  unfold tofT at h
  cases hr : readTy l with
  | none => rw [hr] at h; cases h
  | some x =>
    rw [hr] at h
    simp only [Option.map_some, Option.some.injEq] at h
    rw [← h]; exact (tof_facts hr).2.1
/-- TargetOf of a text, by what it tells. -/
theorem tof_any (s : ByteArray) (hs : s.size ≤ 1048576) (W : World) : Calls Try.prog 13 #[.string s] W fun e w' => (∃ (x : ByteArray) (z : Bool), e = .returned (.tuple #[.string x, .bool z]) ∧ x.size ≤ 640) ∧ Below W.heap.size W w' :=
  (specTargetOf_c s hs W).mono fun e w' ⟨h1, h2⟩ => ⟨⟨_, _, h1, by
    rw [bs_size]
    cases h : tofT s.data.toList with
    | none => simp
    | some t => exact tofT_len h⟩, h2⟩
theorem sz_e : (⟨#[40, 101, 32, 40, 116, 32, 40, 99, 32, 118, 32]⟩ : ByteArray).size = 11 := rfl
theorem sz_e2 : (⟨#[41, 32, 118, 41, 41]⟩ : ByteArray).size = 5 := rfl
theorem sz_c : (⟨#[40, 99, 32]⟩ : ByteArray).size = 3 := rfl
theorem sz_t : (⟨#[40, 116, 32]⟩ : ByteArray).size = 3 := rfl
set_option maxHeartbeats 8000000 in
theorem l92Target_d {q : Nat} {a : Option Addr} {L c : Nat} {zs : List Int} : ∀ (d p : Nat) (w : World), Rd w q a L c p zs → d ≤ 4 → p + 200 * 4 ^ d ≤ 1000000 →
    Calls Try.prog 45 #[.pointer (some ⟨q, 0, none⟩), .int .i64 (d : Nat)] w fun e w' => DrPost q a L c p zs (800 * 4 ^ d) (200 * 4 ^ d) w e w'
  | 0, p, w, h, hd, hp => by
    go_enter Try.func45, Try.ntmps45
    go_wp2_with fail
    go_ret
    exact ⟨_, p, rfl, by decide, by omega, h, Only.refl _ _⟩
  | d + 1, p, w, h, hd, hp => by
    have h4 := pow_pos4 d
    have hpw : 4 ^ (d + 1) = 4 * 4 ^ d := by rw [Nat.pow_succ]; omega
    rw [hpw] at hp ⊢
    obtain ⟨X, hX⟩ : ∃ X, X = 4 ^ d := ⟨_, rfl⟩
    have CP := Lib.hid (pick_d (n := 4) h (by omega) (by omega))
    have CP6 := Lib.hid (fun p w (h : Rd w q a L c p zs) (hp : p ≤ 1000000) => pick_d (n := 6) h hp (by omega))
    have IH := Lib.hid (fun p w (h : Rd w q a L c p zs) hp => l92Target_d d p w h (by omega) hp)
    unfold Hid at IH
    have hX3 : X ≤ 256 := by rw [hX]; exact Nat.pow_le_pow_right (by decide) (show d ≤ 4 by omega) 
    rw [← hX] at IH hp h4 ⊢
    have IH := Lib.hid IH
    have CT := Lib.hid (fun p w (h : Rd w q a L c p zs) hp => l91Type_d (d := 2) (p := p) (w := w) h (by decide) hp)
    have CO := Lib.hid tof_any
    clear hX hpw h
    rw [show ((d + 1 : Nat) : Int) = (d : Int) + 1 from by simp]
    have k0 : (((d : Int) + 1) == 0) = false := by simp; omega
    have k1 : IntKind.i64.wrap ((d : Int) + 1 - 1) = (d : Int) := by rw [IntKind.wrap_i64]; omega
    have k2 : ¬ (d : Int) + 1 = 0 := by omega
    go_enter Try.func45, Try.ntmps45
    go_wp2_with fail
    refine (CP.out).mono ?_
    rintro e w2 ⟨⟨k, rfl, hk0, hk1⟩, hR2, ho2⟩
    by_cases hk : k = 0
    · subst hk
      go_wp2_with fail
      go_ret
      exact ⟨_, p + 1, rfl, by show 1 ≤ _; omega, by omega, hR2, ho2⟩
    · have hk9 : (k == 0) = false := by simpa using hk
      go_wp2_with fail
      refine (CP6.out _ _ hR2 (by omega)).mono ?_
      rintro e w3 ⟨⟨m, rfl, hm0, hm1⟩, hR3, ho3⟩
      have HT : True := trivial
      rcases (show m = 0 ∨ m = 1 ∨ m = 2 ∨ m = 3 ∨ (m = 4 ∨ m = 5) by omega) with rfl | rfl | rfl | rfl | hm
      · go_wp2_with fail
        refine (IH.out (p + 1 + 1) _ hR3 (by omega)).mono ?_
        rintro e w4 ⟨s2, p4, rfl, g3, g4, hR4, ho4⟩
        go_wp2_with fail
        go_ret
        exact ⟨_, p4, rfl, by have y1 := sz_e; have y2 := sz_e2; simp; omega, by omega, hR4, (ho2.trans ho3).trans ho4⟩
      · go_wp2_with fail
        refine (IH.out (p + 1 + 1) _ hR3 (by omega)).mono ?_
        rintro e w4 ⟨s2, p4, rfl, g3, g4, hR4, ho4⟩
        go_wp2_with fail
        refine (IH.out p4 _ hR4 (by omega)).mono ?_
        rintro e w5 ⟨s3, p5, rfl, g5, g6, hR5, ho5⟩
        go_wp2_with fail
        go_ret
        exact ⟨_, p5, rfl, by have y1 := sz_c; have y2 := sz41; have y3 := sz32; simp; omega, by omega, hR5, ((ho2.trans ho3).trans ho4).trans ho5⟩
      · have C1 := Lib.hid (of_new (l := [[40, 116, 41], [40, 99, 41], [40, 101, 32, 118, 41], [40, 101, 32, 105, 41]]) (N := 5) hR3 (by omega) (by decide) (by decide) (by decide))
        go_wp2_with fail
        refine (C1.out).mono ?_
        rintro e w4 ⟨s1, p4, rfl, g1, g2, hR4, ho4⟩
        go_wp2_with fail
        go_ret
        exact ⟨_, p4, rfl, by omega, by omega, hR4, (ho2.trans ho3).trans ho4⟩
      · go_wp2_with fail
        refine (CT.out (p + 1 + 1) _ hR3 (by omega)).mono ?_
        rintro e w4 ⟨s2, p4, rfl, g3, g4, hR4, ho4⟩
        go_wp2_with fail
        refine (CO.out s2 (by omega) _).mono ?_
        rintro e w5 ⟨⟨x, z, rfl, hx⟩, hb5⟩
        have hR5 := hR4.below hb5
        have ho5 := Only.of (b := q) hb5
        cases z
        · go_wp2_with fail
          refine (IH.out p4 _ hR5 (by omega)).mono ?_
          rintro e w6 ⟨s4, p6, rfl, g5, g6, hR6, ho6⟩
          go_wp2_with fail
          refine (IH.out p6 _ hR6 (by omega)).mono ?_
          rintro e w7 ⟨s5, p7, rfl, g7, g8, hR7, ho7⟩
          go_wp2_with fail
          go_ret
          exact ⟨_, p7, rfl, by have y1 := sz_t; have y2 := sz41; have y3 := sz32; simp; omega, by omega, hR7, ((((ho2.trans ho3).trans ho4).trans ho5).trans ho6).trans ho7⟩
        · go_wp2_with fail
          go_ret
          exact ⟨_, p4, rfl, by omega, by omega, hR5, ((ho2.trans ho3).trans ho4).trans ho5⟩
      · have m0 : (m == 0) = false := by simp; omega
        have m1 : (m == 1) = false := by simp; omega
        have m2 : (m == 2) = false := by simp; omega
        have m3 : (m == 3) = false := by simp; omega
        have n0 : ¬ m = 0 := by omega
        have n1 : ¬ m = 1 := by omega
        have n2 : ¬ m = 2 := by omega
        have n3 : ¬ m = 3 := by omega
        go_wp2_with fail
        refine (IH.out (p + 1 + 1) _ hR3 (by omega)).mono ?_
        rintro e w4 ⟨s2, p4, rfl, g3, g4, hR4, ho4⟩
        go_wp2_with fail
        refine (IH.out p4 _ hR4 (by omega)).mono ?_
        rintro e w5 ⟨s3, p5, rfl, g5, g6, hR5, ho5⟩
        go_wp2_with fail
        go_ret
        exact ⟨_, p5, rfl, by have y1 := sz_t; have y2 := sz41; have y3 := sz32; simp; omega, by omega, hR5, ((ho2.trans ho3).trans ho4).trans ho5⟩
end Go.Proofs.Ytaoicbmepliklaa
