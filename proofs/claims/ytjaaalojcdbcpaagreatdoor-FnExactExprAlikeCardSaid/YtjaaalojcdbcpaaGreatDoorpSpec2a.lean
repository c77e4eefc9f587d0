/- The reference model's names and heads. -/
import Derived.Test.YtjaaalojcdbcpaaGreatDoorpNumS
import Derived.Test.YtjaaalojcdbcpaaGreatDoorpB3
set_option maxHeartbeats 20000000
set_option linter.unusedVariables false
set_option linter.unusedSimpArgs false
namespace Go.Proofs.YtjaaalojcdbcpaaGreatDoor
open Go.RowKit Go.Proofs.Tryz
set_option maxRecDepth 8000
theorem isNm_len {l : List UInt8} (h : ¬ (1 ≤ l.length ∧ l.length ≤ 4)) : Y4 l = false := by
 cases l with
 | nil => rfl
 | cons b r =>
   simp only [Y4, List.length_cons] at h ⊢
   have : decide (r.length ≤ 3) = false := by simp; omega
   simp [this]
theorem Z2r {l : List UInt8} {b : UInt8} (hb : l[0]? = some b) (h : ¬ (97 ≤ b.toNat ∧ b.toNat ≤ 122)) : Y4 l = false := by
 cases l with
 | nil => rfl
 | cons c r =>
   simp only [List.getElem?_cons_zero, Option.some.injEq] at hb
   subst hb
   have : (decide (97 ≤ c.toNat) && decide (c.toNat ≤ 122)) = false := by
    rw [Bool.and_eq_false_iff]
    by_cases h1 : 97 ≤ c.toNat
    · right; simp; omega
    · left; simp; omega
   simp [Y4, this]
theorem isNm_rest {l : List UInt8} {b : UInt8} (hb : l[0]? = some b) (hl : l.length ≤ 4) (h : 97 ≤ b.toNat ∧ b.toNat ≤ 122) : Y4 l = (Lib.decFrom 0 (l.drop 1)).isSome := by
 cases l with
 | nil => simp at hb
 | cons c r =>
   simp only [List.getElem?_cons_zero, Option.some.injEq] at hb
   subst hb
   simp only [List.length_cons] at hl
   simp [Y4, h.1, h.2, show r.length ≤ 3 by omega]
theorem first_of (s : ByteArray) (h : 0 < s.size) : s.data.toList[0]? = some s[0] := by rw [List.getElem?_eq_getElem (by simpa using h)]; rfl
theorem l2Name_c (s : ByteArray) (hs : s.size ≤ 1048576) (w : World) : Calls prog 53 #[.string s] w fun e w' => e = .returned (.bool (Y4 s.data.toList)) ∧ w' = w := by
 obtain ⟨R, hR⟩ : ∃ R, R = Y4 s.data.toList := ⟨_, rfl⟩
 rw [← hR]
 have HR := H_ hR
 clear hR
 by_cases hin : 1 ≤ s.size ∧ s.size ≤ 4
 · have hin2 : decide ((1 : Int) ≤ (s.size : Int) ∧ (s.size : Int) ≤ 4) = true := by simp; omega
   have h0 : 0 < s.size := by omega
   have h4 : s.size ≤ 4 := hin.2
   have h0' : (0 : Int) < (s.size : Int) := by omega
   have hf := first_of s h0
   obtain ⟨b, hb⟩ : ∃ b, b = s[0] := ⟨_, rfl⟩
   rw [← hb] at hf
   have hb8 : s[0] = b := hb.symm
   by_cases hlet : 97 ≤ b.toNat ∧ b.toNat ≤ 122
   · have HN := H_ (isNm_rest hf (by simpa using h4) hlet)
     have hd1 : ¬ ((b.toNat : Int) < 97) := by omega
     have hd2 : ¬ ((122 : Int) < b.toNat) := by omega
     clear hin hf hb hlet
     go_enter func53, ntmps53
     go_wp2_with (go_at_call 96; go_must (refine (Kr _ _ _ _).mono ?_; rintro e w1 ⟨rfl, rfl⟩; rw [hin2]))
     go_loop [3] (fun i => ∃ k : Nat, 1 ≤ k ∧ k ≤ s.size ∧ i = .int .i64 k ∧ Hid (∃ m, Lib.decFrom 0 ((s.data.toList.drop 1).take (k - 1)) = some m)) (fun i => s.size - (intOf i).toNat)
     case atStart => exact ⟨1, Nat.le_refl _, by omega, rfl, H_ ⟨0, rfl⟩⟩
     case round =>
      obtain ⟨k, hk1, hk, rfl, hm⟩ := hrel
      by_cases hlt : k < s.size
      · have hbk : (s.data.toList.drop 1)[k - 1]? = some s[k] := by rw [List.getElem?_drop, show 1 + (k - 1) = k by omega, List.getElem?_eq_getElem (by simpa using hlt)]; rfl
        have hk0 : (0 : Int) ≤ (k : Int) := by omega
        obtain ⟨c, hc⟩ : ∃ c, c = s[k] := ⟨_, rfl⟩
        by_cases hdg : 48 ≤ c.toNat ∧ c.toNat ≤ 57
        · have hdv : Lib.digitVal s[k] = some (c.toNat - 48) := by rw [← hc]; simp [Lib.digitVal, hdg]
          have HS : Hid (∃ m, Lib.decFrom 0 ((s.data.toList.drop 1).take (k + 1 - 1)) = some m) := H_ (by obtain ⟨m, h⟩ := hm.out; rw [show k + 1 - 1 = k - 1 + 1 by omega]; exact ⟨_, Lib.decFrom_take _ (k - 1) 0 m _ _ h hbk hdv⟩)
          have hd3 : ¬ ((c.toNat : Int) < 48) := by omega
          have hd4 : ¬ ((57 : Int) < c.toNat) := by omega
          have hc8 : s[k] = c := hc.symm
          clear hc hbk hdv
          go_wp2_with fail
          exact ⟨⟨k + 1, by omega, by omega, by go_num, HS⟩, by simp [intOf]; omega⟩
        · have hdv : Lib.digitVal s[k] = none := by rw [← hc]; simp only [Lib.digitVal]; rw [if_neg hdg]
          have HNN := H_ (Q6 (s.data.toList.drop 1) 0 (k - 1) _ hbk hdv)
          have hc8 : s[k] = c := hc.symm
          clear hc hbk hdv
          by_cases hd3 : ((c.toNat : Int) < 48)
          · go_wp2_with fail
            go_ret
            exact ⟨Zg (by rw [HR.out, HN.out, HNN.out]; rfl), rfl⟩
          · have hd4 : (57 : Int) < c.toNat := by omega
            go_wp2_with fail
            go_ret
            exact ⟨Zg (by rw [HR.out, HN.out, HNN.out]; rfl), rfl⟩
      · have : k = s.size := by omega
        subst this
        have hm' := hm.out
        rw [List.take_of_length_le (by simp)] at hm'
        have HM := H_ hm'
        clear hm'
        go_wp2_with fail
        go_ret
        exact ⟨Zg (by obtain ⟨m, h⟩ := HM.out; rw [HR.out, HN.out, h]; rfl), rfl⟩
   · have HN := H_ (Z2r hf hlet)
     clear hin hf hb
     by_cases hd1 : ((b.toNat : Int) < 97)
     · go_enter func53, ntmps53
       go_wp2_with (go_at_call 96; go_must (refine (Kr _ _ _ _).mono ?_; rintro e w1 ⟨rfl, rfl⟩; rw [hin2]))
       go_ret
       exact ⟨Zg (by rw [HR.out, HN.out]), rfl⟩
     · have hd2 : (122 : Int) < b.toNat := by omega
       go_enter func53, ntmps53
       go_wp2_with (go_at_call 96; go_must (refine (Kr _ _ _ _).mono ?_; rintro e w1 ⟨rfl, rfl⟩; rw [hin2]))
       go_ret
       exact ⟨Zg (by rw [HR.out, HN.out]), rfl⟩
 · have hin2 : decide ((1 : Int) ≤ (s.size : Int) ∧ (s.size : Int) ≤ 4) = false := by simp; omega
   have HN := H_ (isNm_len (l := s.data.toList) (by simpa using hin))
   clear hin
   go_enter func53, ntmps53
   go_wp2_with (go_at_call 96; go_must (refine (Kr _ _ _ _).mono ?_; rintro e w1 ⟨rfl, rfl⟩; rw [hin2]))
   go_ret
   exact ⟨Zg (by rw [HR.out, HN.out]), rfl⟩
theorem Ju (l : List UInt8) (hl : l.length ≤ 1048576) (w : World) : Calls prog 53 #[.string (bs l)] w fun e w' => e = .returned (.bool (Y4 l)) ∧ w' = w := by
 have := l2Name_c (bs l) (by rw [Xj]; exact hl) w
 rw [Kw] at this
 exact this
theorem l2Kids_c (l : List UInt8) (w : World) : Calls prog 98 #[.string (bs l)] w fun e w' => e = .returned (.tuple #[.int .i64 ((Zz l).1 : Int), .int .i64 ((Zz l).2 : Int)]) ∧ w' = w := by
 by_cases h0 : l = [43]
 · subst h0
   have HN := H_ (show Zz [43] = (1, 3) by decide)
   rw [show bs [43] = ⟨#[43]⟩ from rfl]
   go_enter func98, ntmps98
   go_wp2_with fail
   go_ret2
   exact ⟨by rw [HN.out]; rfl, rfl⟩
 have e0 : ((bs l).toList == [43]) = false := by rw [Za]; simpa using h0
 by_cases h1 : l = [45]
 · subst h1
   have HN := H_ (show Zz [45] = (1, 3) by decide)
   clear e0 h0
   rw [show bs [45] = ⟨#[45]⟩ from rfl]
   go_enter func98, ntmps98
   go_wp2_with fail
   go_ret2
   exact ⟨by rw [HN.out]; rfl, rfl⟩
 have e1 : ((bs l).toList == [45]) = false := by rw [Za]; simpa using h1
 by_cases h2 : l = [42]
 · subst h2
   have HN := H_ (show Zz [42] = (1, 3) by decide)
   clear e0 h0 e1 h1
   rw [show bs [42] = ⟨#[42]⟩ from rfl]
   go_enter func98, ntmps98
   go_wp2_with fail
   go_ret2
   exact ⟨by rw [HN.out]; rfl, rfl⟩
 have e2 : ((bs l).toList == [42]) = false := by rw [Za]; simpa using h2
 by_cases h3 : l = [99, 97, 108, 108]
 · subst h3
   have HN := H_ (show Zz [99, 97, 108, 108] = (1, 3) by decide)
   clear e0 h0 e1 h1 e2 h2
   rw [show bs [99, 97, 108, 108] = ⟨#[99, 97, 108, 108]⟩ from rfl]
   go_enter func98, ntmps98
   go_wp2_with fail
   go_ret2
   exact ⟨by rw [HN.out]; rfl, rfl⟩
 have e3 : ((bs l).toList == [99, 97, 108, 108]) = false := by rw [Za]; simpa using h3
 by_cases h4 : l = [112, 97, 105, 114]
 · subst h4
   have HN := H_ (show Zz [112, 97, 105, 114] = (1, 3) by decide)
   clear e0 h0 e1 h1 e2 h2 e3 h3
   rw [show bs [112, 97, 105, 114] = ⟨#[112, 97, 105, 114]⟩ from rfl]
   go_enter func98, ntmps98
   go_wp2_with fail
   go_ret2
   exact ⟨by rw [HN.out]; rfl, rfl⟩
 have e4 : ((bs l).toList == [112, 97, 105, 114]) = false := by rw [Za]; simpa using h4
 by_cases h5 : l = [105, 102]
 · subst h5
   have HN := H_ (show Zz [105, 102] = (1, 4) by decide)
   clear e0 h0 e1 h1 e2 h2 e3 h3 e4 h4
   rw [show bs [105, 102] = ⟨#[105, 102]⟩ from rfl]
   go_enter func98, ntmps98
   go_wp2_with fail
   go_ret2
   exact ⟨by rw [HN.out]; rfl, rfl⟩
 have e5 : ((bs l).toList == [105, 102]) = false := by rw [Za]; simpa using h5
 by_cases h6 : l = [108, 101, 116]
 · subst h6
   have HN := H_ (show Zz [108, 101, 116] = (2, 4) by decide)
   clear e0 h0 e1 h1 e2 h2 e3 h3 e4 h4 e5 h5
   rw [show bs [108, 101, 116] = ⟨#[108, 101, 116]⟩ from rfl]
   go_enter func98, ntmps98
   go_wp2_with fail
   go_ret2
   exact ⟨by rw [HN.out]; rfl, rfl⟩
 have e6 : ((bs l).toList == [108, 101, 116]) = false := by rw [Za]; simpa using h6
 by_cases h7 : l = [102, 117, 110]
 · subst h7
   have HN := H_ (show Zz [102, 117, 110] = (5, 6) by decide)
   clear e0 h0 e1 h1 e2 h2 e3 h3 e4 h4 e5 h5 e6 h6
   rw [show bs [102, 117, 110] = ⟨#[102, 117, 110]⟩ from rfl]
   go_enter func98, ntmps98
   go_wp2_with fail
   go_ret2
   exact ⟨by rw [HN.out]; rfl, rfl⟩
 have e7 : ((bs l).toList == [102, 117, 110]) = false := by rw [Za]; simpa using h7
 by_cases h8 : l = [102, 115, 116]
 · subst h8
   have HN := H_ (show Zz [102, 115, 116] = (1, 2) by decide)
   clear e0 h0 e1 h1 e2 h2 e3 h3 e4 h4 e5 h5 e6 h6 e7 h7
   rw [show bs [102, 115, 116] = ⟨#[102, 115, 116]⟩ from rfl]
   go_enter func98, ntmps98
   go_wp2_with fail
   go_ret2
   exact ⟨by rw [HN.out]; rfl, rfl⟩
 have e8 : ((bs l).toList == [102, 115, 116]) = false := by rw [Za]; simpa using h8
 by_cases h9 : l = [115, 110, 100]
 · subst h9
   have HN := H_ (show Zz [115, 110, 100] = (1, 2) by decide)
   clear e0 h0 e1 h1 e2 h2 e3 h3 e4 h4 e5 h5 e6 h6 e7 h7 e8 h8
   rw [show bs [115, 110, 100] = ⟨#[115, 110, 100]⟩ from rfl]
   go_enter func98, ntmps98
   go_wp2_with fail
   go_ret2
   exact ⟨by rw [HN.out]; rfl, rfl⟩
 have e9 : ((bs l).toList == [115, 110, 100]) = false := by rw [Za]; simpa using h9
 have HN : Hid (Zz l = (0, 0)) := H_ (by simp [Zz, kIf, Yn, Yi, h0, h1, h2, h3, h4, h5, h6, h7, h8, h9])
 clear h0 h1 h2 h3 h4 h5 h6 h7 h8 h9
 go_enter func98, ntmps98
 go_wp2_with fail
 go_ret2
 exact ⟨by rw [HN.out]; rfl, rfl⟩
end Go.Proofs.YtjaaalojcdbcpaaGreatDoor
