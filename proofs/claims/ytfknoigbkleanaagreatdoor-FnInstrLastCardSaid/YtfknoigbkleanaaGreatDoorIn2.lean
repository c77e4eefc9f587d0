/- Instructions: the reference's registers, labels and shapes. -/
import Derived.Test.YtfknoigbkleanaaGreatDoorIn1
import Derived.Test.YtfknoigbkleanaaGreatDoorTg2
import Derived.Test.YtfknoigbkleanaaGreatDoorNumS
import Derived.Deep.QuietTactic
import Derived.BigQuiet
namespace Go.Proofs.YtfknoigbkleanaaGreatDoor
open Go.RowKit
set_option maxRecDepth 8000
set_option linter.unusedSimpArgs false
set_option linter.unusedVariables false
theorem l6tReg_c (A : List UInt8) (p : Option Addr) (m c : Nat) (hl : A.length ≤ 12000) (w : World) :
    Calls Tryz.prog 169 #[.agg #[.string (bs A), .slice p m c]] w fun e w' => e = .returned (.int .i64 ((regZ A).getD (-1))) ∧ Below w.heap.size w w' := by
  cases hn : numOf A with
  | none =>
    have HR := Lib.hid (show (regZ A).getD (-1) = -1 by simp [regZ, hn])
    have C : Hid (∀ W, Calls Tryz.prog 122 #[.string (bs A)] W fun e w' => e = .returned (.tuple #[.int .i64 0, .bool false]) ∧ w' = W) := Lib.hid (fun W => (l2Number_c A (by omega) W).mono fun e w' ⟨h1, h2⟩ => ⟨by rw [hn] at h1; exact h1, h2⟩)
    rw [HR.out]
    clear hn HR
    generalize bs A = S at *
    go_enter Tryz.func169, Tryz.ntmps169
    go_wp2_with (go_at_call 122; go_must (refine (C.out _).mono ?_; rintro e w1 ⟨rfl, rfl⟩))
    go_ret
    exact ⟨rfl, by first | exact Below.refl _ _ | exact below1 _ _⟩
  | some n =>
    have C : Hid (∀ W, Calls Tryz.prog 122 #[.string (bs A)] W fun e w' => e = .returned (.tuple #[.int .i64 n, .bool true]) ∧ w' = W) := Lib.hid (fun W => (l2Number_c A (by omega) W).mono fun e w' ⟨h1, h2⟩ => ⟨by rw [hn] at h1; exact h1, h2⟩)
    by_cases hin : 0 ≤ n ∧ n ≤ 39
    · have HR := Lib.hid (show (regZ A).getD (-1) = n by simp [regZ, hn, Option.filter, hin])
      have CI : Hid (∀ W, Calls Tryz.prog 126 #[.int .i64 n, .int .i64 0, .int .i64 39] W fun e w' => e = .returned (.bool true) ∧ w' = W) := Lib.hid (fun W => (l6In_c n 0 39 W).mono fun e w' ⟨h1, h2⟩ => ⟨by rw [h1, decide_eq_true hin], h2⟩)
      rw [HR.out]
      clear hn HR hin
      generalize bs A = S at *
      go_enter Tryz.func169, Tryz.ntmps169
      go_wp2_with (first | (go_at_call 122; go_must (refine (C.out _).mono ?_; rintro e w1 ⟨rfl, rfl⟩)) | (go_at_call 126; go_must (refine (CI.out _).mono ?_; rintro e w2 ⟨rfl, rfl⟩)))
      go_ret
      exact ⟨rfl, by first | exact Below.refl _ _ | exact below1 _ _⟩
    · have HR := Lib.hid (show (regZ A).getD (-1) = -1 by simp [regZ, hn, Option.filter, hin])
      have CI : Hid (∀ W, Calls Tryz.prog 126 #[.int .i64 n, .int .i64 0, .int .i64 39] W fun e w' => e = .returned (.bool false) ∧ w' = W) := Lib.hid (fun W => (l6In_c n 0 39 W).mono fun e w' ⟨h1, h2⟩ => ⟨by rw [h1, decide_eq_false hin], h2⟩)
      rw [HR.out]
      clear hn HR hin
      generalize bs A = S at *
      go_enter Tryz.func169, Tryz.ntmps169
      go_wp2_with (first | (go_at_call 122; go_must (refine (C.out _).mono ?_; rintro e w1 ⟨rfl, rfl⟩)) | (go_at_call 126; go_must (refine (CI.out _).mono ?_; rintro e w2 ⟨rfl, rfl⟩)))
      go_ret
      exact ⟨rfl, by first | exact Below.refl _ _ | exact below1 _ _⟩
def labAt (l : List UInt8) (j : Nat) : Bool := isLo (l.getD j 0) || (decide (0 < j) && isDg (l.getD j 0))
theorem labB_eq (l : List UInt8) : labB l = (!l.isEmpty && allB (labAt l) l.length) := by
  cases l with
  | nil => rfl
  | cons c r =>
    have e : allB (labAt (c :: r)) (c :: r).length = (isLo c && r.all (fun d => isLo d || isDg d)) := by
      cases h : (isLo c && r.all (fun d => isLo d || isDg d)) with
      | true =>
        simp only [Bool.and_eq_true, List.all_eq_true] at h
        refine allB_all fun j hj => ?_
        cases j with
        | zero => simp [labAt, h.1]
        | succ j =>
          have hj2 : j < r.length := by simpa using hj
          have := h.2 r[j] (List.getElem_mem hj2)
          simp only [labAt, List.getD_eq_getElem?_getD, List.getElem?_cons_succ, List.getElem?_eq_getElem hj2, Option.getD_some]
          simpa using this
      | false =>
        by_cases h1 : isLo c = true
        · rw [h1, Bool.true_and, List.all_eq_false] at h
          obtain ⟨d, hd, h2⟩ := h
          obtain ⟨j, hj, rfl⟩ := List.getElem_of_mem hd
          refine allB_bad (j := j + 1) (by simpa using hj) ?_
          simp only [labAt, List.getD_eq_getElem?_getD, List.getElem?_cons_succ, List.getElem?_eq_getElem hj, Option.getD_some]
          simpa using h2
        · refine allB_bad (j := 0) (by simp) ?_
          simp [labAt, h1]
    rw [e]
    simp [labB]
set_option maxHeartbeats 1000000 in
theorem l6tLabel_c (l : List UInt8) (hl : l.length ≤ 12000) (w : World) :
    Calls Tryz.prog 170 #[.string (bs l)] w fun e w' => e = .returned (.bool (labB l)) ∧ w' = w := by
  obtain ⟨R, hR⟩ : ∃ R, R = labB l := ⟨_, rfl⟩
  rw [← hR]
  rw [labB_eq] at hR
  have HR := Lib.hid hR
  clear hR
  have HAT : Hid (∀ k (h : k < (bs l).size), labAt l k = (isLo (bs l)[k] || (decide (0 < k) && isDg (bs l)[k]))) := Lib.hid (fun k h => by
    have h2 : k < l.length := by rwa [bs_size] at h
    unfold labAt
    rw [List.getD_eq_getElem?_getD, List.getElem?_eq_getElem h2]
    rfl)
  have HSZ := Lib.hid (bs_size l)
  have hs : (bs l).size ≤ 12000 := by rw [bs_size]; exact hl
  have HE : Hid (l.isEmpty = ((bs l).toList == [])) := Lib.hid (by rw [bs_toList]; cases l <;> rfl)
  go_enter Tryz.func170, Tryz.ntmps170
  generalize bs l = s at *
  go_wp2_with fail
  go_loop [3] (fun i => ∃ k : Nat, k ≤ s.size ∧ i = .int .i64 k ∧ Hid (∀ j, j < k → labAt l j = true)) (fun i => s.size - (intOf i).toNat)
  case atStart => exact ⟨0, Nat.zero_le _, rfl, Lib.hid (fun j hj => by omega)⟩
  case round =>
    obtain ⟨k, hk, rfl, hp⟩ := hrel
    by_cases hlt : k < s.size
    · have hk0 : (0 : Int) ≤ (k : Int) := by omega
      have hat := HAT.out k hlt
      obtain ⟨b, hb⟩ : ∃ b, b = s[k] := ⟨_, rfl⟩
      rw [← hb] at hat
      have hb8 : s[k] = b := hb.symm
      clear hb
      by_cases hlo : 97 ≤ b.toNat ∧ b.toNat ≤ 122
      · have HP : Hid (∀ j, j < k + 1 → labAt l j = true) := Lib.hid (fun j hj => by
          by_cases e : j = k
          · subst e; rw [hat]; simp [isLo, hlo.1, hlo.2]
          · exact hp.out j (by omega))
        have hd1 : (97 : Int) ≤ (b.toNat : Int) := by omega
        have hd2 : (b.toNat : Int) ≤ 122 := by omega
        clear hat hp hlo
        go_wp2_with fail
        exact ⟨⟨k + 1, by omega, by go_num, HP⟩, by simp [intOf]; omega⟩
      · by_cases hdg : 0 < k ∧ 48 ≤ b.toNat ∧ b.toNat ≤ 57
        · have HP : Hid (∀ j, j < k + 1 → labAt l j = true) := Lib.hid (fun j hj => by
            by_cases e : j = k
            · subst e; rw [hat]; simp [isDg, hdg.1, hdg.2.1, hdg.2.2]
            · exact hp.out j (by omega))
          have hd1 : ¬ (97 : Int) ≤ (b.toNat : Int) := by omega
          have hd3 : (0 : Int) < (k : Int) := by omega
          have hd4 : (48 : Int) ≤ (b.toNat : Int) := by omega
          have hd5 : (b.toNat : Int) ≤ 57 := by omega
          clear hat hp hlo hdg
          go_wp2_with fail
          exact ⟨⟨k + 1, by omega, by go_num, HP⟩, by simp [intOf]; omega⟩
        · have HF : Hid (R = false) := Lib.hid (by
            rw [HR.out, allB_bad (j := k) (by rw [← HSZ.out]; exact hlt) (by
              rw [hat]
              have e1 : isLo b = false := by unfold isLo; rw [Bool.and_eq_false_iff, decide_eq_false_iff_not, decide_eq_false_iff_not]; omega
              rw [e1, Bool.false_or, Bool.and_eq_false_iff, decide_eq_false_iff_not]
              unfold isDg
              rw [Bool.and_eq_false_iff, decide_eq_false_iff_not, decide_eq_false_iff_not]
              omega)]
            simp)
          have HFo := HF.out
          subst HFo
          have h3 : (¬ (97 : Int) ≤ (b.toNat : Int)) ∨ ((97 : Int) ≤ (b.toNat : Int) ∧ ¬ (b.toNat : Int) ≤ 122) := by omega
          have h4 : (¬ (0 : Int) < (k : Int)) ∨ ((0 : Int) < (k : Int) ∧ ¬ (48 : Int) ≤ (b.toNat : Int)) ∨ ((0 : Int) < (k : Int) ∧ (48 : Int) ≤ (b.toNat : Int) ∧ ¬ (b.toNat : Int) ≤ 57) := by omega
          clear hat hp hlo hdg HAT HR HF
          rcases h3 with h3 | ⟨h3, h3'⟩ <;> rcases h4 with h4 | ⟨h4, h4'⟩ | ⟨h4, h4', h4''⟩ <;>
            (go_wp2_with fail
             all_goals go_ret
             all_goals exact ⟨rfl, rfl⟩)
    · have : k = s.size := by omega
      subst this
      have HF : Hid (R = !l.isEmpty) := Lib.hid (by rw [HR.out, allB_all (fun j hj => hp.out j (by rw [HSZ.out]; exact hj))]; simp)
      have HE2 := HE.out
      cases hz : (s.toList == ([] : List UInt8)) with
      | true =>
        have HF2 : Hid (R = false) := Lib.hid (by rw [HF.out, HE2, hz]; rfl)
        have hz2 : s.toList = [] := by simpa using hz
        have hz3 : s.toList.isEmpty = true := by rw [hz2]; rfl
        have HFo := HF2.out
        subst HFo
        clear hp HAT HR HF HE HE2 HF2
        go_wp2_with fail
        go_ret
        exact ⟨ret_bool (by simp), rfl⟩
      | false =>
        have HF2 : Hid (R = true) := Lib.hid (by rw [HF.out, HE2, hz]; rfl)
        have hz2 : ¬ s.toList = [] := by simpa using hz
        have hz3 : s.toList.isEmpty = false := by cases h : s.toList with | nil => exact absurd h hz2 | cons a b => rfl
        have HFo := HF2.out
        subst HFo
        clear hp HAT HR HF HE HE2 HF2
        go_wp2_with fail
        go_ret
        exact ⟨ret_bool (by simp), rfl⟩
theorem sEq {S : ByteArray} {h k : List UInt8} (hS : S = bs h) (e : h = k) : (S.toList == k) = true ∧ S.toList = k := by subst hS; subst e; simp [bs_toList]
theorem sNe {S : ByteArray} {h k : List UInt8} (hS : S = bs h) (e : ¬ h = k) : (S.toList == k) = false ∧ ¬ S.toList = k := by subst hS; simp [bs_toList, e]
set_option maxHeartbeats 4000000 in
theorem l6tShape_c (h : List UInt8) (w : World) :
    Calls Tryz.prog 119 #[.string (bs h)] w fun e w' => e = .returned (.string (bs (shapeOf h))) ∧ w' = w := by
  obtain ⟨S, hS⟩ : ∃ S, S = bs h := ⟨_, rfl⟩
  rw [← hS]
  by_cases h1 : h = kConst
  · have HR := Lib.hid (show bs (shapeOf h) = bs [114, 110] by rw [h1]; rfl)
    obtain ⟨f1, g1⟩ := sEq (k := [99, 111, 110, 115, 116]) hS h1
    rw [HR.out]
    clear HR hS h1
    go_enter Tryz.func119, Tryz.ntmps119
    go_wp2_with fail
    go_ret
    exact ⟨rfl, rfl⟩
  by_cases h2 : h = kMov
  · have HR := Lib.hid (show bs (shapeOf h) = bs [114, 114] by rw [h2]; rfl)
    obtain ⟨f1, g1⟩ := sNe (k := [99, 111, 110, 115, 116]) hS h1
    obtain ⟨f2, g2⟩ := sEq (k := [109, 111, 118]) hS h2
    rw [HR.out]
    clear HR hS h1 h2
    go_enter Tryz.func119, Tryz.ntmps119
    go_wp2_with fail
    go_ret
    exact ⟨rfl, rfl⟩
  by_cases h3 : h = kOpen
  · have HR := Lib.hid (show bs (shapeOf h) = bs [114, 114] by rw [h3]; rfl)
    obtain ⟨f1, g1⟩ := sNe (k := [99, 111, 110, 115, 116]) hS h1
    obtain ⟨f2, g2⟩ := sNe (k := [109, 111, 118]) hS h2
    obtain ⟨f3, g3⟩ := sEq (k := [111, 112, 101, 110]) hS h3
    rw [HR.out]
    clear HR hS h1 h2 h3
    go_enter Tryz.func119, Tryz.ntmps119
    go_wp2_with fail
    go_ret
    exact ⟨rfl, rfl⟩
  by_cases h4 : h = kAdd
  · have HR := Lib.hid (show bs (shapeOf h) = bs [114, 114, 114] by rw [h4]; rfl)
    obtain ⟨f1, g1⟩ := sNe (k := [99, 111, 110, 115, 116]) hS h1
    obtain ⟨f2, g2⟩ := sNe (k := [109, 111, 118]) hS h2
    obtain ⟨f3, g3⟩ := sNe (k := [111, 112, 101, 110]) hS h3
    obtain ⟨f4, g4⟩ := sEq (k := [97, 100, 100]) hS h4
    rw [HR.out]
    clear HR hS h1 h2 h3 h4
    go_enter Tryz.func119, Tryz.ntmps119
    go_wp2_with fail
    go_ret
    exact ⟨rfl, rfl⟩
  by_cases h5 : h = kSub
  · have HR := Lib.hid (show bs (shapeOf h) = bs [114, 114, 114] by rw [h5]; rfl)
    obtain ⟨f1, g1⟩ := sNe (k := [99, 111, 110, 115, 116]) hS h1
    obtain ⟨f2, g2⟩ := sNe (k := [109, 111, 118]) hS h2
    obtain ⟨f3, g3⟩ := sNe (k := [111, 112, 101, 110]) hS h3
    obtain ⟨f4, g4⟩ := sNe (k := [97, 100, 100]) hS h4
    obtain ⟨f5, g5⟩ := sEq (k := [115, 117, 98]) hS h5
    rw [HR.out]
    clear HR hS h1 h2 h3 h4 h5
    go_enter Tryz.func119, Tryz.ntmps119
    go_wp2_with fail
    go_ret
    exact ⟨rfl, rfl⟩
  by_cases h6 : h = kMul
  · have HR := Lib.hid (show bs (shapeOf h) = bs [114, 114, 114] by rw [h6]; rfl)
    obtain ⟨f1, g1⟩ := sNe (k := [99, 111, 110, 115, 116]) hS h1
    obtain ⟨f2, g2⟩ := sNe (k := [109, 111, 118]) hS h2
    obtain ⟨f3, g3⟩ := sNe (k := [111, 112, 101, 110]) hS h3
    obtain ⟨f4, g4⟩ := sNe (k := [97, 100, 100]) hS h4
    obtain ⟨f5, g5⟩ := sNe (k := [115, 117, 98]) hS h5
    obtain ⟨f6, g6⟩ := sEq (k := [109, 117, 108]) hS h6
    rw [HR.out]
    clear HR hS h1 h2 h3 h4 h5 h6
    go_enter Tryz.func119, Tryz.ntmps119
    go_wp2_with fail
    go_ret
    exact ⟨rfl, rfl⟩
  by_cases h7 : h = kNew
  · have HR := Lib.hid (show bs (shapeOf h) = bs [114, 42] by rw [h7]; rfl)
    obtain ⟨f1, g1⟩ := sNe (k := [99, 111, 110, 115, 116]) hS h1
    obtain ⟨f2, g2⟩ := sNe (k := [109, 111, 118]) hS h2
    obtain ⟨f3, g3⟩ := sNe (k := [111, 112, 101, 110]) hS h3
    obtain ⟨f4, g4⟩ := sNe (k := [97, 100, 100]) hS h4
    obtain ⟨f5, g5⟩ := sNe (k := [115, 117, 98]) hS h5
    obtain ⟨f6, g6⟩ := sNe (k := [109, 117, 108]) hS h6
    obtain ⟨f7, g7⟩ := sEq (k := [110, 101, 119]) hS h7
    rw [HR.out]
    clear HR hS h1 h2 h3 h4 h5 h6 h7
    go_enter Tryz.func119, Tryz.ntmps119
    go_wp2_with fail
    go_ret
    exact ⟨rfl, rfl⟩
  by_cases h8 : h = kGet
  · have HR := Lib.hid (show bs (shapeOf h) = bs [114, 114, 110] by rw [h8]; rfl)
    obtain ⟨f1, g1⟩ := sNe (k := [99, 111, 110, 115, 116]) hS h1
    obtain ⟨f2, g2⟩ := sNe (k := [109, 111, 118]) hS h2
    obtain ⟨f3, g3⟩ := sNe (k := [111, 112, 101, 110]) hS h3
    obtain ⟨f4, g4⟩ := sNe (k := [97, 100, 100]) hS h4
    obtain ⟨f5, g5⟩ := sNe (k := [115, 117, 98]) hS h5
    obtain ⟨f6, g6⟩ := sNe (k := [109, 117, 108]) hS h6
    obtain ⟨f7, g7⟩ := sNe (k := [110, 101, 119]) hS h7
    obtain ⟨f8, g8⟩ := sEq (k := [103, 101, 116]) hS h8
    rw [HR.out]
    clear HR hS h1 h2 h3 h4 h5 h6 h7 h8
    go_enter Tryz.func119, Tryz.ntmps119
    go_wp2_with fail
    go_ret
    exact ⟨rfl, rfl⟩
  by_cases h9 : h = kLab
  · have HR := Lib.hid (show bs (shapeOf h) = bs [114, 108] by rw [h9]; rfl)
    obtain ⟨f1, g1⟩ := sNe (k := [99, 111, 110, 115, 116]) hS h1
    obtain ⟨f2, g2⟩ := sNe (k := [109, 111, 118]) hS h2
    obtain ⟨f3, g3⟩ := sNe (k := [111, 112, 101, 110]) hS h3
    obtain ⟨f4, g4⟩ := sNe (k := [97, 100, 100]) hS h4
    obtain ⟨f5, g5⟩ := sNe (k := [115, 117, 98]) hS h5
    obtain ⟨f6, g6⟩ := sNe (k := [109, 117, 108]) hS h6
    obtain ⟨f7, g7⟩ := sNe (k := [110, 101, 119]) hS h7
    obtain ⟨f8, g8⟩ := sNe (k := [103, 101, 116]) hS h8
    obtain ⟨f9, g9⟩ := sEq (k := [108, 97, 98]) hS h9
    rw [HR.out]
    clear HR hS h1 h2 h3 h4 h5 h6 h7 h8 h9
    go_enter Tryz.func119, Tryz.ntmps119
    go_wp2_with fail
    go_ret
    exact ⟨rfl, rfl⟩
  by_cases h10 : h = kZero
  · have HR := Lib.hid (show bs (shapeOf h) = bs [114, 108] by rw [h10]; rfl)
    obtain ⟨f1, g1⟩ := sNe (k := [99, 111, 110, 115, 116]) hS h1
    obtain ⟨f2, g2⟩ := sNe (k := [109, 111, 118]) hS h2
    obtain ⟨f3, g3⟩ := sNe (k := [111, 112, 101, 110]) hS h3
    obtain ⟨f4, g4⟩ := sNe (k := [97, 100, 100]) hS h4
    obtain ⟨f5, g5⟩ := sNe (k := [115, 117, 98]) hS h5
    obtain ⟨f6, g6⟩ := sNe (k := [109, 117, 108]) hS h6
    obtain ⟨f7, g7⟩ := sNe (k := [110, 101, 119]) hS h7
    obtain ⟨f8, g8⟩ := sNe (k := [103, 101, 116]) hS h8
    obtain ⟨f9, g9⟩ := sNe (k := [108, 97, 98]) hS h9
    obtain ⟨f10, g10⟩ := sEq (k := [122, 101, 114, 111]) hS h10
    rw [HR.out]
    clear HR hS h1 h2 h3 h4 h5 h6 h7 h8 h9 h10
    go_enter Tryz.func119, Tryz.ntmps119
    go_wp2_with fail
    go_ret
    exact ⟨rfl, rfl⟩
  by_cases h11 : h = kPack
  · have HR := Lib.hid (show bs (shapeOf h) = bs [114, 114, 101, 119] by rw [h11]; rfl)
    obtain ⟨f1, g1⟩ := sNe (k := [99, 111, 110, 115, 116]) hS h1
    obtain ⟨f2, g2⟩ := sNe (k := [109, 111, 118]) hS h2
    obtain ⟨f3, g3⟩ := sNe (k := [111, 112, 101, 110]) hS h3
    obtain ⟨f4, g4⟩ := sNe (k := [97, 100, 100]) hS h4
    obtain ⟨f5, g5⟩ := sNe (k := [115, 117, 98]) hS h5
    obtain ⟨f6, g6⟩ := sNe (k := [109, 117, 108]) hS h6
    obtain ⟨f7, g7⟩ := sNe (k := [110, 101, 119]) hS h7
    obtain ⟨f8, g8⟩ := sNe (k := [103, 101, 116]) hS h8
    obtain ⟨f9, g9⟩ := sNe (k := [108, 97, 98]) hS h9
    obtain ⟨f10, g10⟩ := sNe (k := [122, 101, 114, 111]) hS h10
    obtain ⟨f11, g11⟩ := sEq (k := [112, 97, 99, 107]) hS h11
    rw [HR.out]
    clear HR hS h1 h2 h3 h4 h5 h6 h7 h8 h9 h10 h11
    go_enter Tryz.func119, Tryz.ntmps119
    go_wp2_with fail
    go_ret
    exact ⟨rfl, rfl⟩
  by_cases h12 : h = kJump
  · have HR := Lib.hid (show bs (shapeOf h) = bs [114] by rw [h12]; rfl)
    obtain ⟨f1, g1⟩ := sNe (k := [99, 111, 110, 115, 116]) hS h1
    obtain ⟨f2, g2⟩ := sNe (k := [109, 111, 118]) hS h2
    obtain ⟨f3, g3⟩ := sNe (k := [111, 112, 101, 110]) hS h3
    obtain ⟨f4, g4⟩ := sNe (k := [97, 100, 100]) hS h4
    obtain ⟨f5, g5⟩ := sNe (k := [115, 117, 98]) hS h5
    obtain ⟨f6, g6⟩ := sNe (k := [109, 117, 108]) hS h6
    obtain ⟨f7, g7⟩ := sNe (k := [110, 101, 119]) hS h7
    obtain ⟨f8, g8⟩ := sNe (k := [103, 101, 116]) hS h8
    obtain ⟨f9, g9⟩ := sNe (k := [108, 97, 98]) hS h9
    obtain ⟨f10, g10⟩ := sNe (k := [122, 101, 114, 111]) hS h10
    obtain ⟨f11, g11⟩ := sNe (k := [112, 97, 99, 107]) hS h11
    obtain ⟨f12, g12⟩ := sEq (k := [106, 117, 109, 112]) hS h12
    rw [HR.out]
    clear HR hS h1 h2 h3 h4 h5 h6 h7 h8 h9 h10 h11 h12
    go_enter Tryz.func119, Tryz.ntmps119
    go_wp2_with fail
    go_ret
    exact ⟨rfl, rfl⟩
  by_cases h13 : h = kHalt
  · have HR := Lib.hid (show bs (shapeOf h) = bs [114] by rw [h13]; rfl)
    obtain ⟨f1, g1⟩ := sNe (k := [99, 111, 110, 115, 116]) hS h1
    obtain ⟨f2, g2⟩ := sNe (k := [109, 111, 118]) hS h2
    obtain ⟨f3, g3⟩ := sNe (k := [111, 112, 101, 110]) hS h3
    obtain ⟨f4, g4⟩ := sNe (k := [97, 100, 100]) hS h4
    obtain ⟨f5, g5⟩ := sNe (k := [115, 117, 98]) hS h5
    obtain ⟨f6, g6⟩ := sNe (k := [109, 117, 108]) hS h6
    obtain ⟨f7, g7⟩ := sNe (k := [110, 101, 119]) hS h7
    obtain ⟨f8, g8⟩ := sNe (k := [103, 101, 116]) hS h8
    obtain ⟨f9, g9⟩ := sNe (k := [108, 97, 98]) hS h9
    obtain ⟨f10, g10⟩ := sNe (k := [122, 101, 114, 111]) hS h10
    obtain ⟨f11, g11⟩ := sNe (k := [112, 97, 99, 107]) hS h11
    obtain ⟨f12, g12⟩ := sNe (k := [106, 117, 109, 112]) hS h12
    obtain ⟨f13, g13⟩ := sEq (k := [104, 97, 108, 116]) hS h13
    rw [HR.out]
    clear HR hS h1 h2 h3 h4 h5 h6 h7 h8 h9 h10 h11 h12 h13
    go_enter Tryz.func119, Tryz.ntmps119
    go_wp2_with fail
    go_ret
    exact ⟨rfl, rfl⟩
  have HR := Lib.hid (show bs (shapeOf h) = bs [] by simp [shapeOf, h1, h2, h3, h4, h5, h6, h7, h8, h9, h10, h11, h12, h13])
  obtain ⟨f1, g1⟩ := sNe (k := [99, 111, 110, 115, 116]) hS h1
  obtain ⟨f2, g2⟩ := sNe (k := [109, 111, 118]) hS h2
  obtain ⟨f3, g3⟩ := sNe (k := [111, 112, 101, 110]) hS h3
  obtain ⟨f4, g4⟩ := sNe (k := [97, 100, 100]) hS h4
  obtain ⟨f5, g5⟩ := sNe (k := [115, 117, 98]) hS h5
  obtain ⟨f6, g6⟩ := sNe (k := [109, 117, 108]) hS h6
  obtain ⟨f7, g7⟩ := sNe (k := [110, 101, 119]) hS h7
  obtain ⟨f8, g8⟩ := sNe (k := [103, 101, 116]) hS h8
  obtain ⟨f9, g9⟩ := sNe (k := [108, 97, 98]) hS h9
  obtain ⟨f10, g10⟩ := sNe (k := [122, 101, 114, 111]) hS h10
  obtain ⟨f11, g11⟩ := sNe (k := [112, 97, 99, 107]) hS h11
  obtain ⟨f12, g12⟩ := sNe (k := [106, 117, 109, 112]) hS h12
  obtain ⟨f13, g13⟩ := sNe (k := [104, 97, 108, 116]) hS h13
  rw [HR.out]
  clear HR hS h1 h2 h3 h4 h5 h6 h7 h8 h9 h10 h11 h12 h13
  go_enter Tryz.func119, Tryz.ntmps119
  go_wp2_with fail
  go_ret
  exact ⟨rfl, rfl⟩
end Go.Proofs.YtfknoigbkleanaaGreatDoor
