/- The reference model's numerals. The reference model's names and heads. -/
import Derived.Test.YtjaaalojcdbcpaaGreatDoorProg
import Derived.Test.YtjaaalojcdbcpaaGreatDoorlB1
import Derived.Test.YtjaaalojcdbcpaaGreatDoorlB3
import Derived.Deep.LoopGhost
set_option maxHeartbeats 20000000
set_option linter.unusedVariables false
set_option linter.unusedSimpArgs false
namespace Go.Proofs.YtjaaalojcdbcpaaGreatDoor
open Go.RowKit Go.Proofs.Tryz
set_option maxRecDepth 8000
theorem Z1m (n a b : Int) (w : World) : Calls prog 96 #[.int .i64 n, .int .i64 a, .int .i64 b] w fun e w' => e = .returned (.bool (decide (a ≤ n ∧ n ≤ b))) ∧ w' = w := by
 by_cases h1 : a ≤ n
 · by_cases h2 : n ≤ b
   · have hF : Hid (decide (a ≤ n ∧ n ≤ b) = true) := H_ (by simp [h1, h2])
     go_enter func96, ntmps96
     go_wp2_with fail
     all_goals
      go_ret
      exact ⟨Zf (by first | rfl | (simp; omega)), rfl⟩
   · have hF : Hid (decide (a ≤ n ∧ n ≤ b) = false) := H_ (by simp [h2])
     go_enter func96, ntmps96
     go_wp2_with fail
     all_goals
      go_ret
      exact ⟨Zf (by first | rfl | (simp; omega)), rfl⟩
 · have hF : Hid (decide (a ≤ n ∧ n ≤ b) = false) := H_ (by simp [h1])
   go_enter func96, ntmps96
   go_wp2_with fail
   all_goals
    go_ret
    exact ⟨Zf (by first | rfl | (simp; omega)), rfl⟩
def Z6t (r : Option Int) (e : Ending) : Prop := e = .returned (.tuple #[.int .i64 (r.getD 0), .bool r.isSome])
theorem l2Number_c (l : List UInt8) (hl : l.length ≤ 1048576) (w : World) : Calls prog 108 #[.string (bs l)] w fun e w' => Z6t (Q3 l) e ∧ w' = w := by
 obtain ⟨R, hR⟩ : ∃ R, R = Q3 l := ⟨_, rfl⟩
 rw [← hR]
 have HR := H_ hR
 clear hR
 by_cases h0 : l = [48]
 · subst h0
   have HN := H_ Z7e
   rw [show bs [48] = ⟨#[48]⟩ from rfl]
   go_enter func108, ntmps108
   go_wp2_with fail
   go_ret2
   exact ⟨by rw [HR.out, HN.out]; rfl, rfl⟩
 have hz1 : ((bs l).toList == [48]) = false := by rw [Z9]; simpa using h0
 have hz2 : ¬ (bs l).toList = [48] := by rw [Z9]; exact h0
 by_cases hneg : ∃ h : 0 < (bs l).size, (bs l)[0] = 45
 · obtain ⟨hpos, h45⟩ := hneg
   have hdig : Zg l = l.drop 1 ∧ Vb l = -1 := by
    cases l with
    | nil => simp [Y0] at hpos
    | cons b r =>
      have : b = 45 := h45
      subst this
      simp [Zg, Vb]
   have hsg := hdig.2
   have hdig := hdig.1
   have h45' : (((bs l)[0].toNat : Int) == 45) = true := by rw [h45]; rfl
   have hp1 : decide ((0 : Int) < (bs l).size) = true := by simp; omega
   have hneg : True := trivial
   go_enter func108, ntmps108
   go_wp2_with fail
   obtain ⟨D, hD⟩ : ∃ D, D = (bs l).extract 1 (bs l).size := ⟨_, rfl⟩
   rw [← hD]
   have hDl : D.data.toList = Zg l := by rw [hD, Kq, K4, K4, hdig, List.take_of_length_le (by simp [Y0])]
   have hDs : D.size = (Zg l).length := by rw [← hDl]; rfl
   have hDz : (bs l).size - 1 = D.size := by rw [hDs, hdig]; simp [Y0]
   rw [hDz]
   clear hD hneg hdig hDz
   by_cases hin : 1 ≤ (Zg l).length ∧ (Zg l).length ≤ 3
   · have hin2 : decide ((1 : Int) ≤ (D.size : Int) ∧ (D.size : Int) ≤ 3) = true := by rw [hDs]; simp; omega
     have hD0 : 0 < D.size := by omega
     have hD3 : D.size ≤ 3 := by omega
     have hD0' : (0 : Int) < (D.size : Int) := by omega
     have HDs := H_ hDs
     have HDl := H_ hDl
     refine (Z1m _ _ _ _).mono ?_
     rintro e w1 ⟨rfl, rfl⟩
     rw [hin2]
     by_cases h48 : D[0] = 48
     · clear hsg
       have hh : ((D[0].toNat : Int) == 48) = true := by rw [h48]; rfl
       have HN := H_ (Vz h0 (fun q => q.2.2 (by rw [← hDl, List.head?_eq_getElem?, List.getElem?_eq_getElem (by rw [hDl]; omega)]; exact congrArg some h48)))
       clear h48 hDs hDl hin2
       go_wp2_with fail
       go_ret2
       exact ⟨by rw [HR.out, HN.out]; rfl, rfl⟩
     · have hh : ((D[0].toNat : Int) == 48) = false := by simp only [beq_eq_false_iff_ne, ne_eq]; intro q; exact h48 (UInt8.toNat_inj.1 (by have : (48 : UInt8).toNat = 48 := rfl; omega))
       have HN := H_ (Z33 h0 ⟨hin.1, hin.2, fun q => h48 (by rw [← hDl, List.head?_eq_getElem?, List.getElem?_eq_getElem (by rw [hDl]; omega)] at q; exact Option.some.inj q)⟩)
       have HSG := H_ hsg
       clear h48 hin2 hDs hDl hsg
       go_wp2_with fail
       go_loop [6, 7] (fun n i => ∃ k m : Nat, k ≤ D.size ∧ i = .int .i64 k ∧ Hid (Lib.decFrom 0 ((Zg l).take k) = some m) ∧ m ≤ 999 ∧ n = .int .i64 m) (fun n i => D.size - (intOf i).toNat)
       case atStart => exact ⟨0, 0, Nat.zero_le _, rfl, H_ rfl, by omega, rfl⟩
       case round =>
        obtain ⟨k, m, hk, rfl, hm, hm9, rfl⟩ := hrel
        by_cases hlt : k < D.size
        · have hbk : (Zg l)[k]? = some D[k] := by rw [← HDl.out, List.getElem?_eq_getElem (by rw [HDl.out, ← HDs.out]; exact hlt)]; rfl
          have hk0 : (0 : Int) ≤ (k : Int) := by omega
          obtain ⟨b, hb⟩ : ∃ b, b = D[k] := ⟨_, rfl⟩
          by_cases hdg : 48 ≤ b.toNat ∧ b.toNat ≤ 57
          · have hdv : Lib.digitVal D[k] = some (b.toNat - 48) := by rw [← hb]; simp [Lib.digitVal, hdg]
            have HS := H_ (Lib.decFrom_take (Zg l) k 0 m _ _ hm.out hbk hdv)
            have hbd := Vt _ _ _ HS.out
            have hle : 10 ^ ((Zg l).take (k + 1)).length ≤ 10 ^ 3 := Nat.pow_le_pow_right (by omega) (by simp; omega)
            have hm2 : m * 10 + (b.toNat - 48) ≤ 999 := by omega
            have hd1 : ¬ ((b.toNat : Int) < 48) := by omega
            have hd2 : ¬ ((57 : Int) < b.toNat) := by omega
            rw [← hb] at hbk hdv
            have hb8 : D[k] = b := hb.symm
            clear hb hbk hdv hbd hle
            go_wp2_with fail
            exact ⟨⟨k + 1, m * 10 + (b.toNat - 48), by omega, by go_num, HS, hm2, by go_num⟩, by simp [intOf]; omega⟩
          · have hdv : Lib.digitVal D[k] = none := by rw [← hb]; simp only [Lib.digitVal]; rw [if_neg hdg]
            have HNN := H_ (J9 (Zg l) 0 k _ hbk hdv)
            have hb8 : D[k] = b := hb.symm
            clear hb hbk hdv
            by_cases hd1 : ((b.toNat : Int) < 48)
            · go_wp2_with fail
              go_ret2
              exact ⟨by rw [HR.out, HN.out, HNN.out]; rfl, rfl⟩
            · have hd2 : (57 : Int) < b.toNat := by omega
              go_wp2_with fail
              go_ret2
              exact ⟨by rw [HR.out, HN.out, HNN.out]; rfl, rfl⟩
        · have : k = D.size := by omega
          subst this
          have hm' := hm.out
          rw [HDs.out, List.take_length] at hm'
          have HM := H_ hm'
          clear hm'
          go_wp2_with fail
          go_ret2
          exact ⟨by rw [HR.out, HN.out, HM.out]; simp [Z6t, HSG.out], rfl⟩
   · have hin2 : decide ((1 : Int) ≤ (D.size : Int) ∧ (D.size : Int) ≤ 3) = false := by rw [hDs]; simp; omega
     have HN := H_ (Vz h0 (fun q => hin ⟨q.1, q.2.1⟩))
     refine (Z1m _ _ _ _).mono ?_
     rintro e w1 ⟨rfl, rfl⟩
     rw [hin2]
     go_wp2_with fail
     go_ret2
     exact ⟨by rw [HR.out, HN.out]; rfl, rfl⟩
 · have hdig : Zg l = l ∧ Vb l = 1 := by
    cases l with
    | nil => simp [Zg, Vb]
    | cons b r =>
      have : ¬ b = 45 := fun e => hneg ⟨by rw [Y0]; simp, e⟩
      simp [Zg, Vb, this]
   have hsg := hdig.2
   have hdig := hdig.1
   by_cases hpos : 0 < (bs l).size
   · have h45 : ¬ (bs l)[0] = 45 := fun e => hneg ⟨hpos, e⟩
     have h45' : (((bs l)[0].toNat : Int) == 45) = false := by simp only [beq_eq_false_iff_ne, ne_eq]; intro q; exact h45 (UInt8.toNat_inj.1 (by have : (45 : UInt8).toNat = 45 := rfl; omega))
     have hp1 : decide ((0 : Int) < (bs l).size) = true := by simp; omega
     go_enter func108, ntmps108
     go_wp2_with fail
     have hDl : (bs l).data.toList = Zg l := by rw [K4, hdig]
     have hDs : (bs l).size = (Zg l).length := by rw [← hDl]; rfl
     clear hneg hdig
     by_cases hin : 1 ≤ (Zg l).length ∧ (Zg l).length ≤ 3
     · have hin2 : decide ((1 : Int) ≤ ((bs l).size : Int) ∧ ((bs l).size : Int) ≤ 3) = true := by rw [hDs]; simp; omega
       have hD0 : 0 < (bs l).size := by omega
       have hD3 : (bs l).size ≤ 3 := by omega
       have hD0' : (0 : Int) < ((bs l).size : Int) := by omega
       have HDs := H_ hDs
       have HDl := H_ hDl
       refine (Z1m _ _ _ _).mono ?_
       rintro e w1 ⟨rfl, rfl⟩
       rw [hin2]
       by_cases h48 : (bs l)[0] = 48
       · clear hsg
         have hh : (((bs l)[0].toNat : Int) == 48) = true := by rw [h48]; rfl
         have HN := H_ (Vz h0 (fun q => q.2.2 (by rw [← hDl, List.head?_eq_getElem?, List.getElem?_eq_getElem (by rw [hDl]; omega)]; exact congrArg some h48)))
         clear h48 hDs hDl hin2
         go_wp2_with fail
         go_ret2
         exact ⟨by rw [HR.out, HN.out]; rfl, rfl⟩
       · have hh : (((bs l)[0].toNat : Int) == 48) = false := by simp only [beq_eq_false_iff_ne, ne_eq]; intro q; exact h48 (UInt8.toNat_inj.1 (by have : (48 : UInt8).toNat = 48 := rfl; omega))
         have HN := H_ (Z33 h0 ⟨hin.1, hin.2, fun q => h48 (by rw [← hDl, List.head?_eq_getElem?, List.getElem?_eq_getElem (by rw [hDl]; omega)] at q; exact Option.some.inj q)⟩)
         have HSG := H_ hsg
         clear h48 hin2 hDs hDl hsg
         go_wp2_with fail
         go_loop [6, 7] (fun n i => ∃ k m : Nat, k ≤ (bs l).size ∧ i = .int .i64 k ∧ Hid (Lib.decFrom 0 ((Zg l).take k) = some m) ∧ m ≤ 999 ∧ n = .int .i64 m) (fun n i => (bs l).size - (intOf i).toNat)
         case atStart => exact ⟨0, 0, Nat.zero_le _, rfl, H_ rfl, by omega, rfl⟩
         case round =>
          obtain ⟨k, m, hk, rfl, hm, hm9, rfl⟩ := hrel
          by_cases hlt : k < (bs l).size
          · have hbk : (Zg l)[k]? = some (bs l)[k] := by rw [← HDl.out, List.getElem?_eq_getElem (by rw [HDl.out, ← HDs.out]; exact hlt)]; rfl
            have hk0 : (0 : Int) ≤ (k : Int) := by omega
            obtain ⟨b, hb⟩ : ∃ b, b = (bs l)[k] := ⟨_, rfl⟩
            by_cases hdg : 48 ≤ b.toNat ∧ b.toNat ≤ 57
            · have hdv : Lib.digitVal (bs l)[k] = some (b.toNat - 48) := by rw [← hb]; simp [Lib.digitVal, hdg]
              have HS := H_ (Lib.decFrom_take (Zg l) k 0 m _ _ hm.out hbk hdv)
              have hbd := Vt _ _ _ HS.out
              have hle : 10 ^ ((Zg l).take (k + 1)).length ≤ 10 ^ 3 := Nat.pow_le_pow_right (by omega) (by simp; omega)
              have hm2 : m * 10 + (b.toNat - 48) ≤ 999 := by omega
              have hd1 : ¬ ((b.toNat : Int) < 48) := by omega
              have hd2 : ¬ ((57 : Int) < b.toNat) := by omega
              rw [← hb] at hbk hdv
              have hb8 : (bs l)[k] = b := hb.symm
              clear hb hbk hdv hbd hle
              go_wp2_with fail
              exact ⟨⟨k + 1, m * 10 + (b.toNat - 48), by omega, by go_num, HS, hm2, by go_num⟩, by simp [intOf]; omega⟩
            · have hdv : Lib.digitVal (bs l)[k] = none := by rw [← hb]; simp only [Lib.digitVal]; rw [if_neg hdg]
              have HNN := H_ (J9 (Zg l) 0 k _ hbk hdv)
              have hb8 : (bs l)[k] = b := hb.symm
              clear hb hbk hdv
              by_cases hd1 : ((b.toNat : Int) < 48)
              · go_wp2_with fail
                go_ret2
                exact ⟨by rw [HR.out, HN.out, HNN.out]; rfl, rfl⟩
              · have hd2 : (57 : Int) < b.toNat := by omega
                go_wp2_with fail
                go_ret2
                exact ⟨by rw [HR.out, HN.out, HNN.out]; rfl, rfl⟩
          · have : k = (bs l).size := by omega
            subst this
            have hm' := hm.out
            rw [HDs.out, List.take_length] at hm'
            have HM := H_ hm'
            clear hm'
            go_wp2_with fail
            go_ret2
            exact ⟨by rw [HR.out, HN.out, HM.out]; simp [Z6t, HSG.out], rfl⟩
     · have hin2 : decide ((1 : Int) ≤ ((bs l).size : Int) ∧ ((bs l).size : Int) ≤ 3) = false := by rw [hDs]; simp; omega
       have HN := H_ (Vz h0 (fun q => hin ⟨q.1, q.2.1⟩))
       refine (Z1m _ _ _ _).mono ?_
       rintro e w1 ⟨rfl, rfl⟩
       rw [hin2]
       go_wp2_with fail
       go_ret2
       exact ⟨by rw [HR.out, HN.out]; rfl, rfl⟩
   · have hl0 : l = [] := by rw [Y0] at hpos; exact List.eq_nil_of_length_eq_zero (by omega)
     subst hl0
     have HN := H_ (show Q3 [] = none from rfl)
     rw [show bs [] = ⟨#[]⟩ from rfl]
     clear hz1 hz2 hpos hneg hdig hsg
     go_enter func108, ntmps108
     go_wp2_with (go_at_call 96; go_must (refine (Z1m _ _ _ _).mono ?_; rintro e w1 ⟨rfl, rfl⟩))
     go_ret2
     exact ⟨by rw [HR.out, HN.out]; rfl, rfl⟩
theorem isNm_len {l : List UInt8} (h : ¬ (1 ≤ l.length ∧ l.length ≤ 4)) : Yg l = false := by
 cases l with
 | nil => rfl
 | cons b r =>
   simp only [Yg, List.length_cons] at h ⊢
   have : decide (r.length ≤ 3) = false := by simp; omega
   simp [this]
theorem Z7r {l : List UInt8} {b : UInt8} (hb : l[0]? = some b) (h : ¬ (97 ≤ b.toNat ∧ b.toNat ≤ 122)) : Yg l = false := by
 cases l with
 | nil => rfl
 | cons c r =>
   simp only [List.getElem?_cons_zero, Option.some.injEq] at hb
   subst hb
   have : (decide (97 ≤ c.toNat) && decide (c.toNat ≤ 122)) = false := by
    rw [Bool.and_eq_false_iff]
    by_cases h1 : 97 ≤ c.toNat
    · right; simp; omega
    · left; simp; omega
   simp [Yg, this]
theorem isNm_rest {l : List UInt8} {b : UInt8} (hb : l[0]? = some b) (hl : l.length ≤ 4) (h : 97 ≤ b.toNat ∧ b.toNat ≤ 122) : Yg l = (Lib.decFrom 0 (l.drop 1)).isSome := by
 cases l with
 | nil => simp at hb
 | cons c r =>
   simp only [List.getElem?_cons_zero, Option.some.injEq] at hb
   subst hb
   simp only [List.length_cons] at hl
   simp [Yg, h.1, h.2, show r.length ≤ 3 by omega]
theorem first_of (s : ByteArray) (h : 0 < s.size) : s.data.toList[0]? = some s[0] := by rw [List.getElem?_eq_getElem (by simpa using h)]; rfl
theorem Z7i (s : ByteArray) (hs : s.size ≤ 1048576) (w : World) : Calls prog 53 #[.string s] w fun e w' => e = .returned (.bool (Yg s.data.toList)) ∧ w' = w := by
 obtain ⟨R, hR⟩ : ∃ R, R = Yg s.data.toList := ⟨_, rfl⟩
 rw [← hR]
 have HR := H_ hR
 clear hR
 by_cases hin : 1 ≤ s.size ∧ s.size ≤ 4
 · have hin2 : decide ((1 : Int) ≤ (s.size : Int) ∧ (s.size : Int) ≤ 4) = true := by simp; omega
   have h0 : 0 < s.size := by omega
   have h4 : s.size ≤ 4 := hin.2
   have h0' : (0 : Int) < (s.size : Int) := by omega
   have hf := first_of s h0
   obtain ⟨b, hb⟩ : ∃ b, b = s[0] := ⟨_, rfl⟩
   rw [← hb] at hf
   have hb8 : s[0] = b := hb.symm
   by_cases hlet : 97 ≤ b.toNat ∧ b.toNat ≤ 122
   · have HN := H_ (isNm_rest hf (by simpa using h4) hlet)
     have hd1 : ¬ ((b.toNat : Int) < 97) := by omega
     have hd2 : ¬ ((122 : Int) < b.toNat) := by omega
     clear hin hf hb hlet
     go_enter func53, ntmps53
     go_wp2_with (go_at_call 96; go_must (refine (Z1m _ _ _ _).mono ?_; rintro e w1 ⟨rfl, rfl⟩; rw [hin2]))
     go_loop [3] (fun i => ∃ k : Nat, 1 ≤ k ∧ k ≤ s.size ∧ i = .int .i64 k ∧ Hid (∃ m, Lib.decFrom 0 ((s.data.toList.drop 1).take (k - 1)) = some m)) (fun i => s.size - (intOf i).toNat)
     case atStart => exact ⟨1, Nat.le_refl _, by omega, rfl, H_ ⟨0, rfl⟩⟩
     case round =>
      obtain ⟨k, hk1, hk, rfl, hm⟩ := hrel
      by_cases hlt : k < s.size
      · have hbk : (s.data.toList.drop 1)[k - 1]? = some s[k] := by rw [List.getElem?_drop, show 1 + (k - 1) = k by omega, List.getElem?_eq_getElem (by simpa using hlt)]; rfl
        have hk0 : (0 : Int) ≤ (k : Int) := by omega
        obtain ⟨c, hc⟩ : ∃ c, c = s[k] := ⟨_, rfl⟩
        by_cases hdg : 48 ≤ c.toNat ∧ c.toNat ≤ 57
        · have hdv : Lib.digitVal s[k] = some (c.toNat - 48) := by rw [← hc]; simp [Lib.digitVal, hdg]
          have HS : Hid (∃ m, Lib.decFrom 0 ((s.data.toList.drop 1).take (k + 1 - 1)) = some m) := H_ (by obtain ⟨m, h⟩ := hm.out; rw [show k + 1 - 1 = k - 1 + 1 by omega]; exact ⟨_, Lib.decFrom_take _ (k - 1) 0 m _ _ h hbk hdv⟩)
          have hd3 : ¬ ((c.toNat : Int) < 48) := by omega
          have hd4 : ¬ ((57 : Int) < c.toNat) := by omega
          have hc8 : s[k] = c := hc.symm
          clear hc hbk hdv
          go_wp2_with fail
          exact ⟨⟨k + 1, by omega, by omega, by go_num, HS⟩, by simp [intOf]; omega⟩
        · have hdv : Lib.digitVal s[k] = none := by rw [← hc]; simp only [Lib.digitVal]; rw [if_neg hdg]
          have HNN := H_ (J9 (s.data.toList.drop 1) 0 (k - 1) _ hbk hdv)
          have hc8 : s[k] = c := hc.symm
          clear hc hbk hdv
          by_cases hd3 : ((c.toNat : Int) < 48)
          · go_wp2_with fail
            go_ret
            exact ⟨Zf (by rw [HR.out, HN.out, HNN.out]; rfl), rfl⟩
          · have hd4 : (57 : Int) < c.toNat := by omega
            go_wp2_with fail
            go_ret
            exact ⟨Zf (by rw [HR.out, HN.out, HNN.out]; rfl), rfl⟩
      · have : k = s.size := by omega
        subst this
        have hm' := hm.out
        rw [List.take_of_length_le (by simp)] at hm'
        have HM := H_ hm'
        clear hm'
        go_wp2_with fail
        go_ret
        exact ⟨Zf (by obtain ⟨m, h⟩ := HM.out; rw [HR.out, HN.out, h]; rfl), rfl⟩
   · have HN := H_ (Z7r hf hlet)
     clear hin hf hb
     by_cases hd1 : ((b.toNat : Int) < 97)
     · go_enter func53, ntmps53
       go_wp2_with (go_at_call 96; go_must (refine (Z1m _ _ _ _).mono ?_; rintro e w1 ⟨rfl, rfl⟩; rw [hin2]))
       go_ret
       exact ⟨Zf (by rw [HR.out, HN.out]), rfl⟩
     · have hd2 : (122 : Int) < b.toNat := by omega
       go_enter func53, ntmps53
       go_wp2_with (go_at_call 96; go_must (refine (Z1m _ _ _ _).mono ?_; rintro e w1 ⟨rfl, rfl⟩; rw [hin2]))
       go_ret
       exact ⟨Zf (by rw [HR.out, HN.out]), rfl⟩
 · have hin2 : decide ((1 : Int) ≤ (s.size : Int) ∧ (s.size : Int) ≤ 4) = false := by simp; omega
   have HN := H_ (isNm_len (l := s.data.toList) (by simpa using hin))
   clear hin
   go_enter func53, ntmps53
   go_wp2_with (go_at_call 96; go_must (refine (Z1m _ _ _ _).mono ?_; rintro e w1 ⟨rfl, rfl⟩; rw [hin2]))
   go_ret
   exact ⟨Zf (by rw [HR.out, HN.out]), rfl⟩
theorem Z0b (l : List UInt8) (hl : l.length ≤ 1048576) (w : World) : Calls prog 53 #[.string (bs l)] w fun e w' => e = .returned (.bool (Yg l)) ∧ w' = w := by
 have := Z7i (bs l) (by rw [Y0]; exact hl) w
 rw [K4] at this
 exact this
theorem l2Kids_c (l : List UInt8) (w : World) : Calls prog 98 #[.string (bs l)] w fun e w' => e = .returned (.tuple #[.int .i64 ((Yi l).1 : Int), .int .i64 ((Yi l).2 : Int)]) ∧ w' = w := by
 by_cases h0 : l = [43]
 · subst h0
   have HN := H_ (show Yi [43] = (1, 3) by decide)
   rw [show bs [43] = ⟨#[43]⟩ from rfl]
   go_enter func98, ntmps98
   go_wp2_with fail
   go_ret2
   exact ⟨by rw [HN.out]; rfl, rfl⟩
 have e0 : ((bs l).toList == [43]) = false := by rw [Z9]; simpa using h0
 by_cases h1 : l = [45]
 · subst h1
   have HN := H_ (show Yi [45] = (1, 3) by decide)
   clear e0 h0
   rw [show bs [45] = ⟨#[45]⟩ from rfl]
   go_enter func98, ntmps98
   go_wp2_with fail
   go_ret2
   exact ⟨by rw [HN.out]; rfl, rfl⟩
 have e1 : ((bs l).toList == [45]) = false := by rw [Z9]; simpa using h1
 by_cases h2 : l = [42]
 · subst h2
   have HN := H_ (show Yi [42] = (1, 3) by decide)
   clear e0 h0 e1 h1
   rw [show bs [42] = ⟨#[42]⟩ from rfl]
   go_enter func98, ntmps98
   go_wp2_with fail
   go_ret2
   exact ⟨by rw [HN.out]; rfl, rfl⟩
 have e2 : ((bs l).toList == [42]) = false := by rw [Z9]; simpa using h2
 by_cases h3 : l = [99, 97, 108, 108]
 · subst h3
   have HN := H_ (show Yi [99, 97, 108, 108] = (1, 3) by decide)
   clear e0 h0 e1 h1 e2 h2
   rw [show bs [99, 97, 108, 108] = ⟨#[99, 97, 108, 108]⟩ from rfl]
   go_enter func98, ntmps98
   go_wp2_with fail
   go_ret2
   exact ⟨by rw [HN.out]; rfl, rfl⟩
 have e3 : ((bs l).toList == [99, 97, 108, 108]) = false := by rw [Z9]; simpa using h3
 by_cases h4 : l = [112, 97, 105, 114]
 · subst h4
   have HN := H_ (show Yi [112, 97, 105, 114] = (1, 3) by decide)
   clear e0 h0 e1 h1 e2 h2 e3 h3
   rw [show bs [112, 97, 105, 114] = ⟨#[112, 97, 105, 114]⟩ from rfl]
   go_enter func98, ntmps98
   go_wp2_with fail
   go_ret2
   exact ⟨by rw [HN.out]; rfl, rfl⟩
 have e4 : ((bs l).toList == [112, 97, 105, 114]) = false := by rw [Z9]; simpa using h4
 by_cases h5 : l = [105, 102]
 · subst h5
   have HN := H_ (show Yi [105, 102] = (1, 4) by decide)
   clear e0 h0 e1 h1 e2 h2 e3 h3 e4 h4
   rw [show bs [105, 102] = ⟨#[105, 102]⟩ from rfl]
   go_enter func98, ntmps98
   go_wp2_with fail
   go_ret2
   exact ⟨by rw [HN.out]; rfl, rfl⟩
 have e5 : ((bs l).toList == [105, 102]) = false := by rw [Z9]; simpa using h5
 by_cases h6 : l = [108, 101, 116]
 · subst h6
   have HN := H_ (show Yi [108, 101, 116] = (2, 4) by decide)
   clear e0 h0 e1 h1 e2 h2 e3 h3 e4 h4 e5 h5
   rw [show bs [108, 101, 116] = ⟨#[108, 101, 116]⟩ from rfl]
   go_enter func98, ntmps98
   go_wp2_with fail
   go_ret2
   exact ⟨by rw [HN.out]; rfl, rfl⟩
 have e6 : ((bs l).toList == [108, 101, 116]) = false := by rw [Z9]; simpa using h6
 by_cases h7 : l = [102, 117, 110]
 · subst h7
   have HN := H_ (show Yi [102, 117, 110] = (5, 6) by decide)
   clear e0 h0 e1 h1 e2 h2 e3 h3 e4 h4 e5 h5 e6 h6
   rw [show bs [102, 117, 110] = ⟨#[102, 117, 110]⟩ from rfl]
   go_enter func98, ntmps98
   go_wp2_with fail
   go_ret2
   exact ⟨by rw [HN.out]; rfl, rfl⟩
 have e7 : ((bs l).toList == [102, 117, 110]) = false := by rw [Z9]; simpa using h7
 by_cases h8 : l = [102, 115, 116]
 · subst h8
   have HN := H_ (show Yi [102, 115, 116] = (1, 2) by decide)
   clear e0 h0 e1 h1 e2 h2 e3 h3 e4 h4 e5 h5 e6 h6 e7 h7
   rw [show bs [102, 115, 116] = ⟨#[102, 115, 116]⟩ from rfl]
   go_enter func98, ntmps98
   go_wp2_with fail
   go_ret2
   exact ⟨by rw [HN.out]; rfl, rfl⟩
 have e8 : ((bs l).toList == [102, 115, 116]) = false := by rw [Z9]; simpa using h8
 by_cases h9 : l = [115, 110, 100]
 · subst h9
   have HN := H_ (show Yi [115, 110, 100] = (1, 2) by decide)
   clear e0 h0 e1 h1 e2 h2 e3 h3 e4 h4 e5 h5 e6 h6 e7 h7 e8 h8
   rw [show bs [115, 110, 100] = ⟨#[115, 110, 100]⟩ from rfl]
   go_enter func98, ntmps98
   go_wp2_with fail
   go_ret2
   exact ⟨by rw [HN.out]; rfl, rfl⟩
 have e9 : ((bs l).toList == [115, 110, 100]) = false := by rw [Z9]; simpa using h9
 have HN : Hid (Yi l = (0, 0)) := H_ (by simp [Yi, kIf, Yy, Yt, h0, h1, h2, h3, h4, h5, h6, h7, h8, h9])
 clear h0 h1 h2 h3 h4 h5 h6 h7 h8 h9
 go_enter func98, ntmps98
 go_wp2_with fail
 go_ret2
 exact ⟨by rw [HN.out]; rfl, rfl⟩
end Go.Proofs.YtjaaalojcdbcpaaGreatDoor
