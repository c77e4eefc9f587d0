/- The reference model's numerals. -/
import Derived.Test.YtjaaalojcdbcpaaGreatDoorProg
import Derived.Test.YtjaaalojcdbcpaaGreatDoorpB1
import Derived.Test.YtjaaalojcdbcpaaGreatDoorpB3
import Derived.Deep.LoopGhost
set_option maxHeartbeats 20000000
set_option linter.unusedVariables false
set_option linter.unusedSimpArgs false
namespace Go.Proofs.YtjaaalojcdbcpaaGreatDoor
open Go.RowKit Go.Proofs.Tryz
set_option maxRecDepth 8000
theorem Kr (n a b : Int) (w : World) : Calls prog 96 #[.int .i64 n, .int .i64 a, .int .i64 b] w fun e w' => e = .returned (.bool (decide (a ≤ n ∧ n ≤ b))) ∧ w' = w := by
 by_cases h1 : a ≤ n
 · by_cases h2 : n ≤ b
   · have hF : Hid (decide (a ≤ n ∧ n ≤ b) = true) := H_ (by simp [h1, h2])
     go_enter func96, ntmps96
     go_wp2_with fail
     all_goals
      go_ret
      exact ⟨Zg (by first | rfl | (simp; omega)), rfl⟩
   · have hF : Hid (decide (a ≤ n ∧ n ≤ b) = false) := H_ (by simp [h2])
     go_enter func96, ntmps96
     go_wp2_with fail
     all_goals
      go_ret
      exact ⟨Zg (by first | rfl | (simp; omega)), rfl⟩
 · have hF : Hid (decide (a ≤ n ∧ n ≤ b) = false) := H_ (by simp [h1])
   go_enter func96, ntmps96
   go_wp2_with fail
   all_goals
    go_ret
    exact ⟨Zg (by first | rfl | (simp; omega)), rfl⟩
def Z28 (r : Option Int) (e : Ending) : Prop := e = .returned (.tuple #[.int .i64 (r.getD 0), .bool r.isSome])
theorem l2Number_c (l : List UInt8) (hl : l.length ≤ 1048576) (w : World) : Calls prog 108 #[.string (bs l)] w fun e w' => Z28 (Xl l) e ∧ w' = w := by
 obtain ⟨R, hR⟩ : ∃ R, R = Xl l := ⟨_, rfl⟩
 rw [← hR]
 have HR := H_ hR
 clear hR
 by_cases h0 : l = [48]
 · subst h0
   have HN := H_ Z2j
   rw [show bs [48] = ⟨#[48]⟩ from rfl]
   go_enter func108, ntmps108
   go_wp2_with fail
   go_ret2
   exact ⟨by rw [HR.out, HN.out]; rfl, rfl⟩
 have hz1 : ((bs l).toList == [48]) = false := by rw [Za]; simpa using h0
 have hz2 : ¬ (bs l).toList = [48] := by rw [Za]; exact h0
 by_cases hneg : ∃ h : 0 < (bs l).size, (bs l)[0] = 45
 · obtain ⟨hpos, h45⟩ := hneg
   have hdig : Ze l = l.drop 1 ∧ J9 l = -1 := by
    cases l with
    | nil => simp [Xj] at hpos
    | cons b r =>
      have : b = 45 := h45
      subst this
      simp [Ze, J9]
   have hsg := hdig.2
   have hdig := hdig.1
   have h45' : (((bs l)[0].toNat : Int) == 45) = true := by rw [h45]; rfl
   have hp1 : decide ((0 : Int) < (bs l).size) = true := by simp; omega
   have hneg : True := trivial
   go_enter func108, ntmps108
   go_wp2_with fail
   obtain ⟨D, hD⟩ : ∃ D, D = (bs l).extract 1 (bs l).size := ⟨_, rfl⟩
   rw [← hD]
   have hDl : D.data.toList = Ze l := by rw [hD, Qu, Kw, Kw, hdig, List.take_of_length_le (by simp [Xj])]
   have hDs : D.size = (Ze l).length := by rw [← hDl]; rfl
   have hDz : (bs l).size - 1 = D.size := by rw [hDs, hdig]; simp [Xj]
   rw [hDz]
   clear hD hneg hdig hDz
   by_cases hin : 1 ≤ (Ze l).length ∧ (Ze l).length ≤ 3
   · have hin2 : decide ((1 : Int) ≤ (D.size : Int) ∧ (D.size : Int) ≤ 3) = true := by rw [hDs]; simp; omega
     have hD0 : 0 < D.size := by omega
     have hD3 : D.size ≤ 3 := by omega
     have hD0' : (0 : Int) < (D.size : Int) := by omega
     have HDs := H_ hDs
     have HDl := H_ hDl
     refine (Kr _ _ _ _).mono ?_
     rintro e w1 ⟨rfl, rfl⟩
     rw [hin2]
     by_cases h48 : D[0] = 48
     · clear hsg
       have hh : ((D[0].toNat : Int) == 48) = true := by rw [h48]; rfl
       have HN := H_ (Jn h0 (fun q => q.2.2 (by rw [← hDl, List.head?_eq_getElem?, List.getElem?_eq_getElem (by rw [hDl]; omega)]; exact congrArg some h48)))
       clear h48 hDs hDl hin2
       go_wp2_with fail
       go_ret2
       exact ⟨by rw [HR.out, HN.out]; rfl, rfl⟩
     · have hh : ((D[0].toNat : Int) == 48) = false := by simp only [beq_eq_false_iff_ne, ne_eq]; intro q; exact h48 (UInt8.toNat_inj.1 (by have : (48 : UInt8).toNat = 48 := rfl; omega))
       have HN := H_ (Vr h0 ⟨hin.1, hin.2, fun q => h48 (by rw [← hDl, List.head?_eq_getElem?, List.getElem?_eq_getElem (by rw [hDl]; omega)] at q; exact Option.some.inj q)⟩)
       have HSG := H_ hsg
       clear h48 hin2 hDs hDl hsg
       go_wp2_with fail
       go_loop [6, 7] (fun n i => ∃ k m : Nat, k ≤ D.size ∧ i = .int .i64 k ∧ Hid (Lib.decFrom 0 ((Ze l).take k) = some m) ∧ m ≤ 999 ∧ n = .int .i64 m) (fun n i => D.size - (intOf i).toNat)
       case atStart => exact ⟨0, 0, Nat.zero_le _, rfl, H_ rfl, by omega, rfl⟩
       case round =>
        obtain ⟨k, m, hk, rfl, hm, hm9, rfl⟩ := hrel
        by_cases hlt : k < D.size
        · have hbk : (Ze l)[k]? = some D[k] := by rw [← HDl.out, List.getElem?_eq_getElem (by rw [HDl.out, ← HDs.out]; exact hlt)]; rfl
          have hk0 : (0 : Int) ≤ (k : Int) := by omega
          obtain ⟨b, hb⟩ : ∃ b, b = D[k] := ⟨_, rfl⟩
          by_cases hdg : 48 ≤ b.toNat ∧ b.toNat ≤ 57
          · have hdv : Lib.digitVal D[k] = some (b.toNat - 48) := by rw [← hb]; simp [Lib.digitVal, hdg]
            have HS := H_ (Lib.decFrom_take (Ze l) k 0 m _ _ hm.out hbk hdv)
            have hbd := Ji _ _ _ HS.out
            have hle : 10 ^ ((Ze l).take (k + 1)).length ≤ 10 ^ 3 := Nat.pow_le_pow_right (by omega) (by simp; omega)
            have hm2 : m * 10 + (b.toNat - 48) ≤ 999 := by omega
            have hd1 : ¬ ((b.toNat : Int) < 48) := by omega
            have hd2 : ¬ ((57 : Int) < b.toNat) := by omega
            rw [← hb] at hbk hdv
            have hb8 : D[k] = b := hb.symm
            clear hb hbk hdv hbd hle
            go_wp2_with fail
            exact ⟨⟨k + 1, m * 10 + (b.toNat - 48), by omega, by go_num, HS, hm2, by go_num⟩, by simp [intOf]; omega⟩
          · have hdv : Lib.digitVal D[k] = none := by rw [← hb]; simp only [Lib.digitVal]; rw [if_neg hdg]
            have HNN := H_ (Q6 (Ze l) 0 k _ hbk hdv)
            have hb8 : D[k] = b := hb.symm
            clear hb hbk hdv
            by_cases hd1 : ((b.toNat : Int) < 48)
            · go_wp2_with fail
              go_ret2
              exact ⟨by rw [HR.out, HN.out, HNN.out]; rfl, rfl⟩
            · have hd2 : (57 : Int) < b.toNat := by omega
              go_wp2_with fail
              go_ret2
              exact ⟨by rw [HR.out, HN.out, HNN.out]; rfl, rfl⟩
        · have : k = D.size := by omega
          subst this
          have hm' := hm.out
          rw [HDs.out, List.take_length] at hm'
          have HM := H_ hm'
          clear hm'
          go_wp2_with fail
          go_ret2
          exact ⟨by rw [HR.out, HN.out, HM.out]; simp [Z28, HSG.out], rfl⟩
   · have hin2 : decide ((1 : Int) ≤ (D.size : Int) ∧ (D.size : Int) ≤ 3) = false := by rw [hDs]; simp; omega
     have HN := H_ (Jn h0 (fun q => hin ⟨q.1, q.2.1⟩))
     refine (Kr _ _ _ _).mono ?_
     rintro e w1 ⟨rfl, rfl⟩
     rw [hin2]
     go_wp2_with fail
     go_ret2
     exact ⟨by rw [HR.out, HN.out]; rfl, rfl⟩
 · have hdig : Ze l = l ∧ J9 l = 1 := by
    cases l with
    | nil => simp [Ze, J9]
    | cons b r =>
      have : ¬ b = 45 := fun e => hneg ⟨by rw [Xj]; simp, e⟩
      simp [Ze, J9, this]
   have hsg := hdig.2
   have hdig := hdig.1
   by_cases hpos : 0 < (bs l).size
   · have h45 : ¬ (bs l)[0] = 45 := fun e => hneg ⟨hpos, e⟩
     have h45' : (((bs l)[0].toNat : Int) == 45) = false := by simp only [beq_eq_false_iff_ne, ne_eq]; intro q; exact h45 (UInt8.toNat_inj.1 (by have : (45 : UInt8).toNat = 45 := rfl; omega))
     have hp1 : decide ((0 : Int) < (bs l).size) = true := by simp; omega
     go_enter func108, ntmps108
     go_wp2_with fail
     have hDl : (bs l).data.toList = Ze l := by rw [Kw, hdig]
     have hDs : (bs l).size = (Ze l).length := by rw [← hDl]; rfl
     clear hneg hdig
     by_cases hin : 1 ≤ (Ze l).length ∧ (Ze l).length ≤ 3
     · have hin2 : decide ((1 : Int) ≤ ((bs l).size : Int) ∧ ((bs l).size : Int) ≤ 3) = true := by rw [hDs]; simp; omega
       have hD0 : 0 < (bs l).size := by omega
       have hD3 : (bs l).size ≤ 3 := by omega
       have hD0' : (0 : Int) < ((bs l).size : Int) := by omega
       have HDs := H_ hDs
       have HDl := H_ hDl
       refine (Kr _ _ _ _).mono ?_
       rintro e w1 ⟨rfl, rfl⟩
       rw [hin2]
       by_cases h48 : (bs l)[0] = 48
       · clear hsg
         have hh : (((bs l)[0].toNat : Int) == 48) = true := by rw [h48]; rfl
         have HN := H_ (Jn h0 (fun q => q.2.2 (by rw [← hDl, List.head?_eq_getElem?, List.getElem?_eq_getElem (by rw [hDl]; omega)]; exact congrArg some h48)))
         clear h48 hDs hDl hin2
         go_wp2_with fail
         go_ret2
         exact ⟨by rw [HR.out, HN.out]; rfl, rfl⟩
       · have hh : (((bs l)[0].toNat : Int) == 48) = false := by simp only [beq_eq_false_iff_ne, ne_eq]; intro q; exact h48 (UInt8.toNat_inj.1 (by have : (48 : UInt8).toNat = 48 := rfl; omega))
         have HN := H_ (Vr h0 ⟨hin.1, hin.2, fun q => h48 (by rw [← hDl, List.head?_eq_getElem?, List.getElem?_eq_getElem (by rw [hDl]; omega)] at q; exact Option.some.inj q)⟩)
         have HSG := H_ hsg
         clear h48 hin2 hDs hDl hsg
         go_wp2_with fail
         go_loop [6, 7] (fun n i => ∃ k m : Nat, k ≤ (bs l).size ∧ i = .int .i64 k ∧ Hid (Lib.decFrom 0 ((Ze l).take k) = some m) ∧ m ≤ 999 ∧ n = .int .i64 m) (fun n i => (bs l).size - (intOf i).toNat)
         case atStart => exact ⟨0, 0, Nat.zero_le _, rfl, H_ rfl, by omega, rfl⟩
         case round =>
          obtain ⟨k, m, hk, rfl, hm, hm9, rfl⟩ := hrel
          by_cases hlt : k < (bs l).size
          · have hbk : (Ze l)[k]? = some (bs l)[k] := by rw [← HDl.out, List.getElem?_eq_getElem (by rw [HDl.out, ← HDs.out]; exact hlt)]; rfl
            have hk0 : (0 : Int) ≤ (k : Int) := by omega
            obtain ⟨b, hb⟩ : ∃ b, b = (bs l)[k] := ⟨_, rfl⟩
            by_cases hdg : 48 ≤ b.toNat ∧ b.toNat ≤ 57
            · have hdv : Lib.digitVal (bs l)[k] = some (b.toNat - 48) := by rw [← hb]; simp [Lib.digitVal, hdg]
              have HS := H_ (Lib.decFrom_take (Ze l) k 0 m _ _ hm.out hbk hdv)
              have hbd := Ji _ _ _ HS.out
              have hle : 10 ^ ((Ze l).take (k + 1)).length ≤ 10 ^ 3 := Nat.pow_le_pow_right (by omega) (by simp; omega)
              have hm2 : m * 10 + (b.toNat - 48) ≤ 999 := by omega
              have hd1 : ¬ ((b.toNat : Int) < 48) := by omega
              have hd2 : ¬ ((57 : Int) < b.toNat) := by omega
              rw [← hb] at hbk hdv
              have hb8 : (bs l)[k] = b := hb.symm
              clear hb hbk hdv hbd hle
              go_wp2_with fail
              exact ⟨⟨k + 1, m * 10 + (b.toNat - 48), by omega, by go_num, HS, hm2, by go_num⟩, by simp [intOf]; omega⟩
            · have hdv : Lib.digitVal (bs l)[k] = none := by rw [← hb]; simp only [Lib.digitVal]; rw [if_neg hdg]
              have HNN := H_ (Q6 (Ze l) 0 k _ hbk hdv)
              have hb8 : (bs l)[k] = b := hb.symm
              clear hb hbk hdv
              by_cases hd1 : ((b.toNat : Int) < 48)
              · go_wp2_with fail
                go_ret2
                exact ⟨by rw [HR.out, HN.out, HNN.out]; rfl, rfl⟩
              · have hd2 : (57 : Int) < b.toNat := by omega
                go_wp2_with fail
                go_ret2
                exact ⟨by rw [HR.out, HN.out, HNN.out]; rfl, rfl⟩
          · have : k = (bs l).size := by omega
            subst this
            have hm' := hm.out
            rw [HDs.out, List.take_length] at hm'
            have HM := H_ hm'
            clear hm'
            go_wp2_with fail
            go_ret2
            exact ⟨by rw [HR.out, HN.out, HM.out]; simp [Z28, HSG.out], rfl⟩
     · have hin2 : decide ((1 : Int) ≤ ((bs l).size : Int) ∧ ((bs l).size : Int) ≤ 3) = false := by rw [hDs]; simp; omega
       have HN := H_ (Jn h0 (fun q => hin ⟨q.1, q.2.1⟩))
       refine (Kr _ _ _ _).mono ?_
       rintro e w1 ⟨rfl, rfl⟩
       rw [hin2]
       go_wp2_with fail
       go_ret2
       exact ⟨by rw [HR.out, HN.out]; rfl, rfl⟩
   · have hl0 : l = [] := by rw [Xj] at hpos; exact List.eq_nil_of_length_eq_zero (by omega)
     subst hl0
     have HN := H_ (show Xl [] = none from rfl)
     rw [show bs [] = ⟨#[]⟩ from rfl]
     clear hz1 hz2 hpos hneg hdig hsg
     go_enter func108, ntmps108
     go_wp2_with (go_at_call 96; go_must (refine (Kr _ _ _ _).mono ?_; rintro e w1 ⟨rfl, rfl⟩))
     go_ret2
     exact ⟨by rw [HR.out, HN.out]; rfl, rfl⟩
end Go.Proofs.YtjaaalojcdbcpaaGreatDoor
