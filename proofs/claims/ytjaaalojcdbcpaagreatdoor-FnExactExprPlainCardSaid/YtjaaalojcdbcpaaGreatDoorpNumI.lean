/- The program's numerals. -/
import Derived.Test.YtjaaalojcdbcpaaGreatDoorpNumS
import Derived.Test.YtjaaalojcdbcpaaGreatDoorpShelf
import Derived.Lib.SmallJoins
import Derived.Deep.QuietTactic
import Derived.BigQuiet
set_option maxHeartbeats 20000000
set_option linter.unusedVariables false
set_option linter.unusedSimpArgs false
namespace Go.Proofs.YtjaaalojcdbcpaaGreatDoor
open Go.RowKit Go.Proofs.Tryz
set_option maxRecDepth 8000
theorem Z2s (s : ByteArray) (hs : s.size ≤ 1048576) (w : World) : Calls prog 93 #[.string s] w fun e w' => e = .returned (.bool (Lib.decFrom 0 s.data.toList).isSome) ∧ w' = w := by
 obtain ⟨R, hR⟩ : ∃ R, R = (Lib.decFrom 0 s.data.toList).isSome := ⟨_, rfl⟩
 rw [← hR]
 have HR := H_ hR
 clear hR
 go_enter func93, ntmps93
 go_wp2_with fail
 go_loop [6] (fun i => ∃ k : Nat, k ≤ s.size ∧ i = .int .i64 k ∧ Hid (∃ m, Lib.decFrom 0 (s.data.toList.take k) = some m)) (fun i => s.size - (intOf i).toNat)
 case atStart => exact ⟨0, Nat.zero_le _, rfl, H_ ⟨0, rfl⟩⟩
 case round =>
  obtain ⟨k, hk, rfl, hm⟩ := hrel
  by_cases hlt : k < s.size
  · have hbk : s.data.toList[k]? = some s[k] := by rw [List.getElem?_eq_getElem (by simpa using hlt)]; rfl
    have hk0 : (0 : Int) ≤ (k : Int) := by omega
    obtain ⟨b, hb⟩ : ∃ b, b = s[k] := ⟨_, rfl⟩
    by_cases hdg : 48 ≤ b.toNat ∧ b.toNat ≤ 57
    · have hdv : Lib.digitVal s[k] = some (b.toNat - 48) := by rw [← hb]; simp [Lib.digitVal, hdg]
      have HS : Hid (∃ m, Lib.decFrom 0 (s.data.toList.take (k + 1)) = some m) := H_ (by obtain ⟨m, h⟩ := hm.out; exact ⟨_, Lib.decFrom_take _ k 0 m _ _ h hbk hdv⟩)
      have hd1 : ¬ ((b.toNat : Int) < 48) := by omega
      have hd2 : ¬ ((57 : Int) < b.toNat) := by omega
      have hb8 : s[k] = b := hb.symm
      clear hb hbk hdv
      go_wp2_with fail
      exact ⟨⟨k + 1, by omega, by go_num, HS⟩, by simp [intOf]; omega⟩
    · have hdv : Lib.digitVal s[k] = none := by rw [← hb]; simp only [Lib.digitVal]; rw [if_neg hdg]
      have HNN := H_ (Q6 s.data.toList 0 k _ hbk hdv)
      have hb8 : s[k] = b := hb.symm
      clear hb hbk hdv
      by_cases hd1 : ((b.toNat : Int) < 48)
      · go_wp2_with fail
        go_ret
        exact ⟨Zg (by rw [HR.out, HNN.out]; rfl), rfl⟩
      · have hd2 : (57 : Int) < b.toNat := by omega
        go_wp2_with fail
        go_ret
        exact ⟨Zg (by rw [HR.out, HNN.out]; rfl), rfl⟩
  · have : k = s.size := by omega
    subst this
    have hm' := hm.out
    rw [← Xe, List.take_length] at hm'
    have HM := H_ hm'
    clear hm'
    go_wp2_with fail
    go_ret
    exact ⟨Zg (by obtain ⟨m, h⟩ := HM.out; rw [HR.out, h]; rfl), rfl⟩
theorem trim_c (l : List UInt8) (w : World) : Calls prog 164 #[.string (bs l), .string ⟨#[45]⟩] w fun e w' => e = .returned (.string (bs (Ze l))) ∧ w' = w :=
 (Tryz.strings_TrimPrefix (bs l) ⟨#[45]⟩ w).mono fun e w' ⟨h1, h2⟩ => ⟨by rw [h1, ← trim_minus]; rfl, h2⟩
theorem below_bytes (w : World) (e : TypeId) (s : ByteArray) : Below w.heap.size w (Lib.bytesWorld w e s) := Go.Joins.below_bytesWorld _ _ _ _ (Nat.le_refl _)
theorem Z02 (l : List UInt8) (hl : l.length ≤ 1048576) (w : World) : Calls prog 151 #[.string (bs l)] w fun e w' => Z28 (Xl l) e ∧ Below w.heap.size w w' := by
 obtain ⟨R, hR⟩ : ∃ R, R = Xl l := ⟨_, rfl⟩
 rw [← hR]
 have HR := H_ hR
 clear hR
 by_cases h0 : l = [48]
 · subst h0
   have HN := H_ Z2j
   rw [show bs [48] = ⟨#[48]⟩ from rfl]
   go_enter func151, ntmps151
   go_wp2_with fail
   go_ret2
   exact ⟨by rw [HR.out, HN.out]; rfl, Below.refl _ _⟩
 have hz1 : ((bs l).toList == [48]) = false := by rw [Za]; simpa using h0
 have hz2 : ¬ (bs l).toList = [48] := by rw [Za]; exact h0
 have HT := H_ (trim_c l)
 have hdl := Z14 l
 obtain ⟨D, hD⟩ : ∃ D, D = bs (Ze l) := ⟨_, rfl⟩
 have hDs : D.size = (Ze l).length := by rw [hD, Xj]
 have hDl : D.data.toList = Ze l := by rw [hD, Kw]
 rw [← hD] at HT
 have HDl := H_ hDl
 have ID := H_ (Z2s D (by omega))
 by_cases hin : 1 ≤ D.size ∧ D.size ≤ 3
 · have hD0 : 0 < D.size := by omega
   have hD0' : (0 : Int) < (D.size : Int) := by omega
   have hn1 : ¬ ((D.size : Int) < 1) := by omega
   have hn3 : ¬ ((3 : Int) < (D.size : Int)) := by omega
   by_cases h48 : D[0] = 48
   · have hh : ((D[0].toNat : Int) == 48) = true := by rw [h48]; rfl
     have HN := H_ (Jn h0 (fun q => q.2.2 (by rw [← hDl, List.head?_eq_getElem?, List.getElem?_eq_getElem (by rw [hDl]; omega)]; exact congrArg some h48)))
     clear h48 hDs hDl hD hdl
     go_enter func151, ntmps151
     go_wp2_with (go_at_call 164; go_must (refine (HT.out _).mono ?_; rintro e w1 ⟨rfl, rfl⟩))
     go_ret2
     exact ⟨by rw [HR.out, HN.out]; rfl, Below.refl _ _⟩
   · have hh : ((D[0].toNat : Int) == 48) = false := by simp only [beq_eq_false_iff_ne, ne_eq]; intro q; exact h48 (UInt8.toNat_inj.1 (by have : (48 : UInt8).toNat = 48 := rfl; omega))
     have HN := H_ (Vr h0 ⟨by omega, by omega, fun q => h48 (by rw [← hDl, List.head?_eq_getElem?, List.getElem?_eq_getElem (by rw [hDl]; omega)] at q; exact Option.some.inj q)⟩)
     cases hdc : Lib.decFrom 0 (Ze l) with
     | none =>
       unfold Hid at ID HN
       rw [hDl, hdc] at ID
       rw [hdc] at HN
       have ID := H_ ID
       have HN := H_ HN
       clear h48 hDs hDl hD hdl hdc
       go_enter func151, ntmps151
       go_wp2_with (first | (go_at_call 164; go_must (refine (HT.out _).mono ?_; rintro e w1 ⟨rfl, rfl⟩)) | (go_at_call 93; go_must (refine (ID.out _).mono ?_; rintro e w2 ⟨rfl, rfl⟩)))
       go_ret2
       exact ⟨by rw [HR.out, HN.out]; rfl, Below.refl _ _⟩
     | some m =>
       have AT := H_ (fun W => Tryz.strconv_Atoi (bs l) (J9 l * (m : Int)) (by rw [Xj]; omega) (atoi_num h0 (by intro q; have q' : Ze l = [] := q; have : D.size = 0 := (by rw [hDs, q']; rfl); omega) hdc) W)
       unfold Hid at ID HN
       rw [hDl, hdc] at ID
       rw [hdc] at HN
       have ID := H_ ID
       have HN := H_ HN
       obtain ⟨v, hv⟩ : ∃ v, v = J9 l * (m : Int) := ⟨_, rfl⟩
       rw [← hv] at AT
       have HV := H_ hv
       clear h48 hDs hDl hD hdl hdc hv
       go_enter func151, ntmps151
       go_wp2_with (first | (go_at_call 164; go_must (refine (HT.out _).mono ?_; rintro e w1 ⟨rfl, rfl⟩)) | (go_at_call 93; go_must (refine (ID.out _).mono ?_; rintro e w2 ⟨rfl, rfl⟩)) | (go_at_call 165; go_must (refine (AT.out _).mono ?_; rintro e w3 ⟨rfl, tt, rfl⟩)))
       go_quiet (fail)
       go_wp2_with fail
       go_ret2
       exact ⟨by rw [HR.out, HN.out, HV.out]; rfl, (below_bytes _ _ _).trans ⟨rfl, rfl, rfl, Nat.le_refl _, fun _ _ => rfl⟩⟩
 · have hn : (D.size : Int) < 1 ∨ (3 : Int) < (D.size : Int) := by omega
   have HN := H_ (Jn h0 (fun q => hin ⟨by omega, by omega⟩))
   clear hDs hDl hD hdl
   rcases hn with hn | hn
   · go_enter func151, ntmps151
     go_wp2_with (go_at_call 164; go_must (refine (HT.out _).mono ?_; rintro e w1 ⟨rfl, rfl⟩))
     go_ret2
     exact ⟨by rw [HR.out, HN.out]; rfl, Below.refl _ _⟩
   · have hn1 : ¬ ((D.size : Int) < 1) := by omega
     go_enter func151, ntmps151
     go_wp2_with (go_at_call 164; go_must (refine (HT.out _).mono ?_; rintro e w1 ⟨rfl, rfl⟩))
     go_ret2
     exact ⟨by rw [HR.out, HN.out]; rfl, Below.refl _ _⟩
end Go.Proofs.YtjaaalojcdbcpaaGreatDoor
