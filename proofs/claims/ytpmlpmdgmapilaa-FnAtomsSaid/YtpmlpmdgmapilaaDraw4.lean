/- The reference's draws: forms and texts. -/
import Derived.Test.YtpmlpmdgmapilaaDraw3
import Derived.Deep.LoopGhost
namespace Go.Proofs.Ytpmlpmdgmapilaa
open Go.RowKit
set_option maxRecDepth 8000
set_option linter.unusedSimpArgs false
set_option linter.unusedVariables false
set_option maxHeartbeats 2000000 in
theorem l6Many_c (s : ByteArray) (n T : Nat) (w : World) (hT : n * s.size ≤ T) (hT2 : T ≤ 100000) (hn : n ≤ 1000) (hs : s.size ≤ 100000) :
    Calls Try.prog 66 #[.string s, .int .i64 (n : Nat)] w fun e w' => (∃ r : ByteArray, e = .returned (.string r) ∧ r.size ≤ T) ∧ w' = w := by
  have HT := Lib.hid hT
  clear hT
  go_enter Try.func66, Try.ntmps66
  go_wp2_with fail
  go_loopg [0, 1, 5] n (fun q x i o wr => ∃ (k : Nat) (u r : ByteArray), q = k ∧ i = .int .i64 k ∧ x = .string u ∧ o = .string r ∧ k ≤ n ∧ u.size ≤ 2 * T + 100000 ∧ Hid (r.size + k * u.size ≤ T) ∧ r.size ≤ T ∧ wr = w)
  case atStart => exact ⟨n, s, ⟨#[]⟩, rfl, rfl, rfl, rfl, Nat.le_refl _, by omega, Lib.hid (by have := HT.out; show 0 + n * s.size ≤ T; omega), Nat.zero_le _, rfl⟩
  case round =>
    obtain ⟨k, u, r, hqk, rfl, rfl, rfl, hk, hu, hI, hr, rfl⟩ := hrel
    by_cases h0 : k = 0
    · subst h0
      go_wp2_with fail
      go_ret
      exact ⟨⟨r, rfl, hr⟩, rfl⟩
    · have hI2 := hI.out
      have hku : u.size ≤ T := by
        have : u.size ≤ k * u.size := Nat.le_mul_of_pos_left _ (by omega)
        omega
      have hpos : (k : Int) > 0 := by omega
      have hsz2 : (u ++ u).size = u.size + u.size := by simp
      have hsz1 : (r ++ u).size = r.size + u.size := by simp
      by_cases hodd : k % 2 = 1
      · have HI : Hid ((r ++ u).size + (k / 2) * (u ++ u).size ≤ T) := Lib.hid (by
          have he : k * u.size = u.size + (k / 2) * (u.size + u.size) := by
            have : k = 2 * (k / 2) + 1 := by omega
            conv => lhs; rw [this]
            rw [Nat.add_mul, Nat.mul_comm 2, Nat.mul_assoc, Nat.two_mul]; omega
          rw [hsz1, hsz2]; omega)
        have hm : (k : Int).tmod 2 = 1 := by rw [Int.tmod_eq_emod_of_nonneg (by omega)]; omega
        have hm2 : (k : Int) % 2 = 1 := by omega
        have hr2 : (r ++ u).size ≤ T := by have := HI.out; omega
        clear hI hI2 hodd
        go_wp2_with fail
        go_roundg (k / 2)
        case measure => omega
        case rel => exact ⟨k / 2, u ++ u, r ++ u, rfl, by go_num, rfl, rfl, by omega, by rw [hsz2]; omega, HI, hr2, rfl⟩
      · have HI : Hid (r.size + (k / 2) * (u ++ u).size ≤ T) := Lib.hid (by
          have he : k * u.size = (k / 2) * (u.size + u.size) := by
            have : k = 2 * (k / 2) := by omega
            conv => lhs; rw [this]
            rw [Nat.mul_comm 2, Nat.mul_assoc, Nat.two_mul]
          rw [hsz2]; omega)
        have hm : (k : Int).tmod 2 = 0 := by rw [Int.tmod_eq_emod_of_nonneg (by omega)]; omega
        have hm2 : (k : Int) % 2 = 0 := by omega
        clear hI hI2 hodd
        go_wp2_with fail
        go_roundg (k / 2)
        case measure => omega
        case rel => exact ⟨k / 2, u ++ u, r, rfl, by go_num, rfl, rfl, by omega, by rw [hsz2]; omega, HI, hr, rfl⟩
set_option maxHeartbeats 4000000 in
theorem l91Form_d {q : Nat} {a : Option Addr} {L c : Nat} {zs : List Int} : ∀ (d p : Nat) (w : World), Rd w q a L c p zs → d ≤ 6 → p + 10 * 4 ^ d ≤ 1000000 →
    Calls Try.prog 64 #[.pointer (some ⟨q, 0, none⟩), .int .i64 (d : Nat)] w fun e w' => DrPost q a L c p zs (10 * 4 ^ d) (10 * 4 ^ d) w e w'
  | 0, p, w, h, hd, hp => by
    have CA := Lib.hid (l91Atom_d h (by omega))
    clear h
    go_enter Try.func64, Try.ntmps64
    go_wp2_with fail
    refine (CA.out).mono ?_
    rintro e w2 ⟨s, p', rfl, h2, h3, h4, h5⟩
    go_wp2_with fail
    go_ret
    exact ⟨s, p', rfl, by omega, by omega, h4, h5⟩
  | d + 1, p, w, h, hd, hp => by
    have h4 := pow_pos4 d
    have hpw : 4 ^ (d + 1) = 4 * 4 ^ d := by rw [Nat.pow_succ]; omega
    rw [hpw] at hp ⊢
    obtain ⟨X, hX⟩ : ∃ X, X = 4 ^ d := ⟨_, rfl⟩
    have CP := Lib.hid (pick_d (n := 3) h (by omega) (by omega))
    have IH := Lib.hid (fun p w (h : Rd w q a L c p zs) hp => l91Form_d d p w h (by omega) hp)
    have hX6 : X ≤ 4 ^ 6 := by rw [hX]; exact Nat.pow_le_pow_right (by decide) (by omega)
    unfold Hid at IH
    rw [← hX] at IH hp h4 ⊢
    have IH := Lib.hid IH
    clear hX hpw h
    rw [show ((d + 1 : Nat) : Int) = (d : Int) + 1 from by simp]
    have k0 : (((d : Int) + 1) == 0) = false := by simp; omega
    have k1 : IntKind.i64.wrap ((d : Int) + 1 - 1) = (d : Int) := by rw [IntKind.wrap_i64]; omega
    have k2 : ¬ (d : Int) + 1 = 0 := by omega
    go_enter Try.func64, Try.ntmps64
    go_wp2_with fail
    refine (CP.out).mono ?_
    rintro e w2 ⟨⟨k, rfl, hk0, hk1⟩, hR2, ho2⟩
    by_cases hk : k = 0
    · subst hk
      have CA := Lib.hid (l91Atom_d hR2 (by omega))
      go_wp2_with fail
      refine (CA.out).mono ?_
      rintro e w3 ⟨s, p', rfl, g2, g3, g4, g5⟩
      go_wp2_with fail
      go_ret
      exact ⟨s, p', rfl, by omega, by omega, g4, ho2.trans g5⟩
    · have hk9 : (k == 0) = false := by simpa using hk
      have CP2 := Lib.hid (pick_d (n := 3) hR2 (by omega) (by omega))
      go_wp2_with fail
      refine (CP2.out).mono ?_
      rintro e w3 ⟨⟨m, rfl, hm0, hm1⟩, hR3, ho3⟩
      obtain ⟨m', rfl⟩ : ∃ m' : Nat, m = (m' : Int) := ⟨m.toNat, by omega⟩
      have hm3 : m' < 3 := by omega
      have hw1 : IntKind.i64.wrap (1 + (m' : Int)) = 1 + (m' : Int) := by rw [IntKind.wrap_i64]; omega
      have HO3 := Lib.hid (ho2.trans ho3)
      have HR3 := Lib.hid hR3
      clear hR2 hR3 ho2 ho3 CP CP2
      go_wp2_with fail
      go_loopg [5, 7] (m' + 1) (fun z o i wr => ∃ (j p9 : Nat) (r : ByteArray), z + j = m' + 1 ∧ i = .int .i64 j ∧ o = .string r ∧ Hid (r.size ≤ 1 + j * (10 * X + 1)) ∧ Hid (p9 ≤ p + 2 + j * (10 * X)) ∧ Hid (Rd wr q a L c p9 zs) ∧ Hid (Only q w wr))
      case atStart => exact ⟨0, p + 1 + 1, ⟨#[40]⟩, by omega, rfl, rfl, Lib.hid (by simp [sz40]), Lib.hid (by omega), HR3, HO3⟩
      case round =>
        obtain ⟨j, p9, r, hz, rfl, rfl, hsz, hp9, hR, hO⟩ := hrel
        have hsz2 := hsz.out
        have hp92 := hp9.out
        have hj3 : j ≤ 3 := by omega
        have hjX : j * (10 * X + 1) ≤ 3 * (10 * X + 1) := Nat.mul_le_mul_right _ hj3
        have hjX2 : j * (10 * X) ≤ 3 * (10 * X) := Nat.mul_le_mul_right _ hj3
        have hs1 : (j + 1) * (10 * X + 1) = j * (10 * X + 1) + (10 * X + 1) := by rw [Nat.add_mul]; omega
        have hs2 : (j + 1) * (10 * X) = j * (10 * X) + 10 * X := by rw [Nat.add_mul]; omega
        by_cases hlt : j < m' + 1
        · have hltI : (j : Int) < 1 + (m' : Int) := by omega
          have hjX3 : j * (10 * X) ≤ 2 * (10 * X) := Nat.mul_le_mul_right _ (by omega)
          by_cases hj0 : j = 0
          · subst hj0
            have CI := Lib.hid (IH.out p9 wr hR.out (by omega))
            go_wp2_with fail
            refine (CI.out).mono ?_
            rintro e w4 ⟨s4, p4, rfl, g1, g2, g3, g4⟩
            have hsz4 : (r ++ s4).size = r.size + s4.size := by simp
            have HR4 := Lib.hid g3
            have HO4 := Lib.hid (hO.out.trans g4)
            clear g3 g4
            go_wp2_with fail
            go_roundg (gk - 1)
            case measure => omega
            case rel => exact ⟨0 + 1, p4, _, by omega, by go_num, rfl, Lib.hid (by rw [hsz4]; omega), Lib.hid (by omega), HR4, HO4⟩
          · have hjI : (j : Int) > 0 := by omega
            have CI := Lib.hid (IH.out p9 wr hR.out (by omega))
            go_wp2_with fail
            refine (CI.out).mono ?_
            rintro e w4 ⟨s4, p4, rfl, g1, g2, g3, g4⟩
            have hsz4 : (r ++ ⟨#[32]⟩ ++ s4).size = r.size + 1 + s4.size := by simp; rfl
            have HR4 := Lib.hid g3
            have HO4 := Lib.hid (hO.out.trans g4)
            clear g3 g4
            go_wp2_with fail
            go_roundg (gk - 1)
            case measure => omega
            case rel => exact ⟨j + 1, p4, _, by omega, by go_num, rfl, Lib.hid (by rw [hsz4]; omega), Lib.hid (by omega), HR4, HO4⟩
        · have hltI : ¬ (j : Int) < 1 + (m' : Int) := by omega
          go_wp2_with fail
          go_ret
          exact ⟨r ++ ⟨#[41]⟩, p9, rfl, by simp; show r.size + 1 ≤ _; omega, by omega, hR.out, hO.out⟩
end Go.Proofs.Ytpmlpmdgmapilaa
