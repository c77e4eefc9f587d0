/- The program's numerals. -/
import Derived.Test.YtfknoigbkleanaaGreatDoorNumS
import Derived.Test.YtfknoigbkleanaaGreatDoorShelf
import Derived.Lib.SmallJoins
import Derived.Deep.QuietTactic
import Derived.BigQuiet
namespace Go.Proofs.YtfknoigbkleanaaGreatDoor
open Go.RowKit
set_option maxRecDepth 8000
set_option linter.unusedSimpArgs false
set_option linter.unusedVariables false
set_option maxHeartbeats 1000000 in
theorem isDigits_c (s : ByteArray) (hs : s.size ≤ 1048576) (w : World) : Calls Tryz.prog 124 #[.string s] w fun e w' => e = .returned (.bool (Lib.decFrom 0 s.data.toList).isSome) ∧ w' = w := by
  obtain ⟨R, hR⟩ : ∃ R, R = (Lib.decFrom 0 s.data.toList).isSome := ⟨_, rfl⟩
  rw [← hR]
  have HR := Lib.hid hR
  clear hR
  go_enter Tryz.func124, Tryz.ntmps124
  go_wp2_with fail
  go_loop [6] (fun i => ∃ k : Nat, k ≤ s.size ∧ i = .int .i64 k ∧ Hid (∃ m, Lib.decFrom 0 (s.data.toList.take k) = some m)) (fun i => s.size - (intOf i).toNat)
  case atStart => exact ⟨0, Nat.zero_le _, rfl, Lib.hid ⟨0, rfl⟩⟩
  case round =>
    obtain ⟨k, hk, rfl, hm⟩ := hrel
    by_cases hlt : k < s.size
    · have hbk : s.data.toList[k]? = some s[k] := by rw [List.getElem?_eq_getElem (by simpa using hlt)]; rfl
      have hk0 : (0 : Int) ≤ (k : Int) := by omega
      obtain ⟨b, hb⟩ : ∃ b, b = s[k] := ⟨_, rfl⟩
      by_cases hdg : 48 ≤ b.toNat ∧ b.toNat ≤ 57
      · have hdv : Lib.digitVal s[k] = some (b.toNat - 48) := by rw [← hb]; simp [Lib.digitVal, hdg]
        have HS : Hid (∃ m, Lib.decFrom 0 (s.data.toList.take (k + 1)) = some m) := Lib.hid (by obtain ⟨m, h⟩ := hm.out; exact ⟨_, Lib.decFrom_take _ k 0 m _ _ h hbk hdv⟩)
        have hd1 : ¬ ((b.toNat : Int) < 48) := by omega
        have hd2 : ¬ ((57 : Int) < b.toNat) := by omega
        have hb8 : s[k] = b := hb.symm
        clear hb hbk hdv
        go_wp2_with fail
        exact ⟨⟨k + 1, by omega, by go_num, HS⟩, by simp [intOf]; omega⟩
      · have hdv : Lib.digitVal s[k] = none := by rw [← hb]; simp only [Lib.digitVal]; rw [if_neg hdg]
        have HNN := Lib.hid (decFrom_bad s.data.toList 0 k _ hbk hdv)
        have hb8 : s[k] = b := hb.symm
        clear hb hbk hdv
        by_cases hd1 : ((b.toNat : Int) < 48)
        · go_wp2_with fail
          go_ret
          exact ⟨ret_bool (by rw [HR.out, HNN.out]; rfl), rfl⟩
        · have hd2 : (57 : Int) < b.toNat := by omega
          go_wp2_with fail
          go_ret
          exact ⟨ret_bool (by rw [HR.out, HNN.out]; rfl), rfl⟩
    · have : k = s.size := by omega
      subst this
      have hm' := hm.out
      rw [← size_data, List.take_length] at hm'
      have HM := Lib.hid hm'
      clear hm'
      go_wp2_with fail
      go_ret
      exact ⟨ret_bool (by obtain ⟨m, h⟩ := HM.out; rw [HR.out, h]; rfl), rfl⟩
theorem trim_c (l : List UInt8) (w : World) : Calls Tryz.prog 123 #[.string (bs l), .string ⟨#[45]⟩] w fun e w' => e = .returned (.string (bs (digitsOf l))) ∧ w' = w :=
  (Tryz.strings_TrimPrefix (bs l) ⟨#[45]⟩ w).mono fun e w' ⟨h1, h2⟩ => ⟨by rw [h1, ← trim_minus]; rfl, h2⟩
theorem below_bytes (w : World) (e : TypeId) (s : ByteArray) : Below w.heap.size w (Lib.bytesWorld w e s) := Go.Joins.below_bytesWorld _ _ _ _ (Nat.le_refl _)
set_option maxHeartbeats 2000000 in
theorem readNumeral_c (l : List UInt8) (hl : l.length ≤ 1048576) (w : World) : Calls Tryz.prog 74 #[.string (bs l)] w fun e w' => NumPost (numOf l) e ∧ Below w.heap.size w w' := by
  obtain ⟨R, hR⟩ : ∃ R, R = numOf l := ⟨_, rfl⟩
  rw [← hR]
  have HR := Lib.hid hR
  clear hR
  by_cases h0 : l = [48]
  · subst h0
    have HN := Lib.hid numOf_zero
    rw [show bs [48] = ⟨#[48]⟩ from rfl]
    go_enter Tryz.func74, Tryz.ntmps74
    go_wp2_with fail
    go_ret2
    exact ⟨by rw [HR.out, HN.out]; rfl, Below.refl _ _⟩
  have hz1 : ((bs l).toList == [48]) = false := by rw [bs_toList]; simpa using h0
  have hz2 : ¬ (bs l).toList = [48] := by rw [bs_toList]; exact h0
  have HT := Lib.hid (trim_c l)
  have hdl := digitsOf_len l
  obtain ⟨D, hD⟩ : ∃ D, D = bs (digitsOf l) := ⟨_, rfl⟩
  have hDs : D.size = (digitsOf l).length := by rw [hD, bs_size]
  have hDl : D.data.toList = digitsOf l := by rw [hD, bs_data]
  rw [← hD] at HT
  have HDl := Lib.hid hDl
  have ID := Lib.hid (isDigits_c D (by omega))
  by_cases hin : 1 ≤ D.size ∧ D.size ≤ 3
  · have hD0 : 0 < D.size := by omega
    have hD0' : (0 : Int) < (D.size : Int) := by omega
    have hn1 : ¬ ((D.size : Int) < 1) := by omega
    have hn3 : ¬ ((3 : Int) < (D.size : Int)) := by omega
    by_cases h48 : D[0] = 48
    · have hh : ((D[0].toNat : Int) == 48) = true := by rw [h48]; rfl
      have HN := Lib.hid (numOf_no h0 (fun q => q.2.2 (by rw [← hDl, List.head?_eq_getElem?, List.getElem?_eq_getElem (by rw [hDl]; omega)]; exact congrArg some h48)))
      clear h48 hDs hDl hD hdl
      go_enter Tryz.func74, Tryz.ntmps74
      go_wp2_with (go_at_call 123; go_must (refine (HT.out _).mono ?_; rintro e w1 ⟨rfl, rfl⟩))
      go_ret2
      exact ⟨by rw [HR.out, HN.out]; rfl, Below.refl _ _⟩
    · have hh : ((D[0].toNat : Int) == 48) = false := by simp only [beq_eq_false_iff_ne, ne_eq]; intro q; exact h48 (UInt8.toNat_inj.1 (by have : (48 : UInt8).toNat = 48 := rfl; omega))
      have HN := Lib.hid (numOf_yes h0 ⟨by omega, by omega, fun q => h48 (by rw [← hDl, List.head?_eq_getElem?, List.getElem?_eq_getElem (by rw [hDl]; omega)] at q; exact Option.some.inj q)⟩)
      cases hdc : Lib.decFrom 0 (digitsOf l) with
      | none =>
        unfold Hid at ID HN
        rw [hDl, hdc] at ID
        rw [hdc] at HN
        have ID := Lib.hid ID
        have HN := Lib.hid HN
        clear h48 hDs hDl hD hdl hdc
        go_enter Tryz.func74, Tryz.ntmps74
        go_wp2_with (first | (go_at_call 123; go_must (refine (HT.out _).mono ?_; rintro e w1 ⟨rfl, rfl⟩)) | (go_at_call 124; go_must (refine (ID.out _).mono ?_; rintro e w2 ⟨rfl, rfl⟩)))
        go_ret2
        exact ⟨by rw [HR.out, HN.out]; rfl, Below.refl _ _⟩
      | some m =>
        have AT := Lib.hid (fun W => Tryz.strconv_Atoi (bs l) (signOf l * (m : Int)) (by rw [bs_size]; omega) (atoi_num h0 (by intro q; have q' : digitsOf l = [] := q; have : D.size = 0 := (by rw [hDs, q']; rfl); omega) hdc) W)
        unfold Hid at ID HN
        rw [hDl, hdc] at ID
        rw [hdc] at HN
        have ID := Lib.hid ID
        have HN := Lib.hid HN
        obtain ⟨v, hv⟩ : ∃ v, v = signOf l * (m : Int) := ⟨_, rfl⟩
        rw [← hv] at AT
        have HV := Lib.hid hv
        clear h48 hDs hDl hD hdl hdc hv
        go_enter Tryz.func74, Tryz.ntmps74
        go_wp2_with (first | (go_at_call 123; go_must (refine (HT.out _).mono ?_; rintro e w1 ⟨rfl, rfl⟩)) | (go_at_call 124; go_must (refine (ID.out _).mono ?_; rintro e w2 ⟨rfl, rfl⟩)) | (go_at_call 125; go_must (refine (AT.out _).mono ?_; rintro e w3 ⟨rfl, tt, rfl⟩)))
        go_quiet (fail)
        go_wp2_with fail
        go_ret2
        exact ⟨by rw [HR.out, HN.out, HV.out]; rfl, (below_bytes _ _ _).trans ⟨rfl, rfl, rfl, Nat.le_refl _, fun _ _ => rfl⟩⟩
  · have hn : (D.size : Int) < 1 ∨ (3 : Int) < (D.size : Int) := by omega
    have HN := Lib.hid (numOf_no h0 (fun q => hin ⟨by omega, by omega⟩))
    clear hDs hDl hD hdl
    rcases hn with hn | hn
    · go_enter Tryz.func74, Tryz.ntmps74
      go_wp2_with (go_at_call 123; go_must (refine (HT.out _).mono ?_; rintro e w1 ⟨rfl, rfl⟩))
      go_ret2
      exact ⟨by rw [HR.out, HN.out]; rfl, Below.refl _ _⟩
    · have hn1 : ¬ ((D.size : Int) < 1) := by omega
      go_enter Tryz.func74, Tryz.ntmps74
      go_wp2_with (go_at_call 123; go_must (refine (HT.out _).mono ?_; rintro e w1 ⟨rfl, rfl⟩))
      go_ret2
      exact ⟨by rw [HR.out, HN.out]; rfl, Below.refl _ _⟩
set_option maxHeartbeats 400000 in
theorem implExprNumber_c (l : List UInt8) (hl : l.length ≤ 1048576) (w : World) : Calls Tryz.prog 34 #[.string (bs l)] w fun e w' => NumPost (numOf l) e ∧ Below w.heap.size w w' := by
  obtain ⟨R, hR⟩ : ∃ R, R = numOf l := ⟨_, rfl⟩
  rw [← hR]
  have C := Lib.hid (fun W => readNumeral_c l hl W)
  rw [← hR] at C
  clear hR
  go_enter Tryz.func34, Tryz.ntmps34
  go_wp2_with (go_at_call 74; go_must (refine (C.out _).mono ?_; rintro e w1 ⟨hp, hb⟩; unfold NumPost at hp; subst hp))
  go_ret2
  exact ⟨rfl, hb⟩
theorem numPost_shape (r : Option Int) : ∃ x z, ∀ e, NumPost r e → e = .returned (.tuple #[.int .i64 x, .bool z]) := ⟨_, _, fun e h => h⟩
theorem implExprNumber_b (s : ByteArray) (hs : s.size ≤ 1048576) (w : World) : Calls Tryz.prog 34 #[.string s] w fun e w' => NumPost (numOf s.data.toList) e ∧ Below w.heap.size w w' := by
  have h := implExprNumber_c s.data.toList hs w
  rw [← bsv s] at h
  exact h
end Go.Proofs.YtfknoigbkleanaaGreatDoor
