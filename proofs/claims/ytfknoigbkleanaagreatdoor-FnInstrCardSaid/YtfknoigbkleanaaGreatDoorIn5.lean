/- Instructions: the program's registers, labels and packages. -/
import Derived.Test.YtfknoigbkleanaaGreatDoorIn1
import Derived.Test.YtfknoigbkleanaaGreatDoorNumI
import Derived.Test.YtfknoigbkleanaaGreatDoorTg5
import Derived.Deep.QuietTactic
import Derived.BigQuiet
namespace Go.Proofs.YtfknoigbkleanaaGreatDoor
open Go.RowKit
set_option maxRecDepth 8000
set_option linter.unusedSimpArgs false
set_option linter.unusedVariables false
theorem readRegister_c (A : List UInt8) (hl : A.length ≤ 12000) (w : World) :
    Calls Tryz.prog 165 #[.string (bs A)] w fun e w' => (∃ r, e = .returned (.tuple #[.int .i64 r, .bool (regZ A).isSome])) ∧ Below w.heap.size w w' := by
  cases hn : numOf A with
  | none =>
    have HR := Lib.hid (show (regZ A).isSome = false by simp [regZ, hn])
    have C : Hid (∀ W, Calls Tryz.prog 74 #[.string (bs A)] W fun e w' => e = .returned (.tuple #[.int .i64 0, .bool false]) ∧ Below W.heap.size W w') := Lib.hid (fun W => (readNumeral_c A (by omega) W).mono fun e w' ⟨h1, h2⟩ => ⟨by rw [hn] at h1; exact h1, h2⟩)
    rw [HR.out]
    clear hn HR
    generalize bs A = S at *
    go_enter Tryz.func165, Tryz.ntmps165
    go_wp2_with (go_at_call 74; go_must (refine (C.out _).mono ?_; rintro e w1 ⟨rfl, hb1⟩))
    go_ret2
    exact ⟨⟨_, rfl⟩, hb1⟩
  | some n =>
    have C : Hid (∀ W, Calls Tryz.prog 74 #[.string (bs A)] W fun e w' => e = .returned (.tuple #[.int .i64 n, .bool true]) ∧ Below W.heap.size W w') := Lib.hid (fun W => (readNumeral_c A (by omega) W).mono fun e w' ⟨h1, h2⟩ => ⟨by rw [hn] at h1; exact h1, h2⟩)
    have HR := Lib.hid (show (regZ A).isSome = decide (0 ≤ n ∧ n ≤ 39) by by_cases h : 0 ≤ n ∧ n ≤ 39 <;> simp [regZ, hn, Option.filter, h])
    rw [HR.out]
    by_cases h1 : 0 ≤ n
    · by_cases h2 : n < 40
      · have h3 : decide (0 ≤ n ∧ n ≤ 39) = true := by simp; omega
        rw [h3]
        clear hn HR h3
        generalize bs A = S at *
        go_enter Tryz.func165, Tryz.ntmps165
        go_wp2_with (go_at_call 74; go_must (refine (C.out _).mono ?_; rintro e w1 ⟨rfl, hb1⟩))
        go_ret2
        exact ⟨⟨n, by simp [h1, h2]⟩, hb1⟩
      · have h3 : decide (0 ≤ n ∧ n ≤ 39) = false := by simp; omega
        rw [h3]
        clear hn HR h3
        generalize bs A = S at *
        go_enter Tryz.func165, Tryz.ntmps165
        go_wp2_with (go_at_call 74; go_must (refine (C.out _).mono ?_; rintro e w1 ⟨rfl, hb1⟩))
        go_ret2
        exact ⟨⟨n, by simp [h1, h2]⟩, hb1⟩
    · have h3 : decide (0 ≤ n ∧ n ≤ 39) = false := by simp; omega
      rw [h3]
      clear hn HR h3
      generalize bs A = S at *
      go_enter Tryz.func165, Tryz.ntmps165
      go_wp2_with (go_at_call 74; go_must (refine (C.out _).mono ?_; rintro e w1 ⟨rfl, hb1⟩))
      go_ret2
      exact ⟨⟨n, by simp [h1]⟩, hb1⟩
theorem labI_eq (l : List UInt8) (hl : l.length ≤ 12000) : labB l = (decide (0 < l.length) && (isLo (l.getD 0 0) && allB (fun j => isLo (l.getD j 0) || isDg (l.getD j 0)) l.length)) := by
  cases l with
  | nil => rfl
  | cons c r =>
    have e : allB (fun j => isLo ((c :: r).getD j 0) || isDg ((c :: r).getD j 0)) (c :: r).length = ((isLo c || isDg c) && r.all (fun d => isLo d || isDg d)) := by
      cases h : ((isLo c || isDg c) && r.all (fun d => isLo d || isDg d)) with
      | true =>
        simp only [Bool.and_eq_true, List.all_eq_true] at h
        refine allB_all fun j hj => ?_
        cases j with
        | zero => simpa using h.1
        | succ j =>
          have hj2 : j < r.length := by simpa using hj
          have := h.2 r[j] (List.getElem_mem hj2)
          simp only [List.getD_eq_getElem?_getD, List.getElem?_cons_succ, List.getElem?_eq_getElem hj2, Option.getD_some]
          exact this
      | false =>
        by_cases h1 : (isLo c || isDg c) = true
        · rw [h1, Bool.true_and, List.all_eq_false] at h
          obtain ⟨d, hd, h2⟩ := h
          obtain ⟨j, hj, rfl⟩ := List.getElem_of_mem hd
          refine allB_bad (j := j + 1) (by simpa using hj) ?_
          simp only [List.getD_eq_getElem?_getD, List.getElem?_cons_succ, List.getElem?_eq_getElem hj, Option.getD_some]
          simpa using h2
        · refine allB_bad (j := 0) (by simp) ?_
          simpa using h1
    rw [e]
    simp only [labB, List.length_cons, List.getD_cons_zero]
    cases isLo c <;> simp
set_option maxHeartbeats 1000000 in
theorem isLabel_c (l : List UInt8) (hl : l.length ≤ 12000) (w : World) :
    Calls Tryz.prog 166 #[.string (bs l)] w fun e w' => e = .returned (.bool (labB l)) ∧ w' = w := by
  obtain ⟨R, hR⟩ : ∃ R, R = labB l := ⟨_, rfl⟩
  rw [← hR]
  rw [labI_eq l hl] at hR
  have HR := Lib.hid hR
  clear hR
  have HAT : Hid (∀ k (h : k < (bs l).size), l.getD k 0 = (bs l)[k]) := Lib.hid (fun k h => by
    have h2 : k < l.length := by rwa [bs_size] at h
    rw [List.getD_eq_getElem?_getD, List.getElem?_eq_getElem h2]
    rfl)
  have HSZ := Lib.hid (bs_size l)
  have hs : (bs l).size ≤ 12000 := by rw [bs_size]; exact hl
  generalize bs l = s at *
  by_cases hz : 0 < s.size
  · have hat0 := HAT.out 0 hz
    obtain ⟨b0, hb0⟩ : ∃ b, b = s[0] := ⟨_, rfl⟩
    rw [← hb0] at hat0
    have hb00 : s[0] = b0 := hb0.symm
    clear hb0
    by_cases hlo0 : 97 ≤ b0.toNat ∧ b0.toNat ≤ 122
    · have d1 : ¬ (b0.toNat : Int) < 97 := by omega
      have d2 : ¬ (122 : Int) < (b0.toNat : Int) := by omega
      have d3 : ((s.size : Int) == 0) = false := beq_eq_false_iff_ne.2 (by omega)
      have d4 : ¬ (12000 : Int) < (s.size : Int) := by omega
      have HF : Hid (R = allB (fun j => isLo (l.getD j 0) || isDg (l.getD j 0)) l.length) := Lib.hid (by
        rw [HR.out, hat0, show isLo b0 = true by simp [isLo, hlo0.1, hlo0.2], show decide (0 < l.length) = true from decide_eq_true (by have := HSZ.out; omega)]; simp)
      clear hat0 HR hlo0
      go_enter Tryz.func166, Tryz.ntmps166
      go_wp2_with fail
      go_loop [24] (fun i => ∃ k : Nat, k ≤ s.size ∧ i = .int .i64 k ∧ Hid (∀ j, j < k → (isLo (l.getD j 0) || isDg (l.getD j 0)) = true)) (fun i => s.size - (intOf i).toNat)
      case atStart => exact ⟨0, Nat.zero_le _, rfl, Lib.hid (fun j hj => by omega)⟩
      case round =>
        obtain ⟨k, hk, rfl, hp⟩ := hrel
        by_cases hlt : k < s.size
        · have hk0 : (0 : Int) ≤ (k : Int) := by omega
          have hat := HAT.out k hlt
          obtain ⟨b, hb⟩ : ∃ b, b = s[k] := ⟨_, rfl⟩
          rw [← hb] at hat
          have hb8 : s[k] = b := hb.symm
          clear hb
          by_cases hin : (97 ≤ b.toNat ∧ b.toNat ≤ 122) ∨ (48 ≤ b.toNat ∧ b.toNat ≤ 57)
          · have HP : Hid (∀ j, j < k + 1 → (isLo (l.getD j 0) || isDg (l.getD j 0)) = true) := Lib.hid (fun j hj => by
              by_cases e : j = k
              · subst e
                rw [hat]
                rcases hin with h | h
                · simp [isLo, h.1, h.2]
                · simp [isDg, h.1, h.2]
              · exact hp.out j (by omega))
            have h3 : (¬ (b.toNat : Int) < 97 ∧ ¬ (122 : Int) < (b.toNat : Int)) ∨ ((b.toNat : Int) < 97 ∧ ¬ (b.toNat : Int) < 48 ∧ ¬ (57 : Int) < (b.toNat : Int)) := by omega
            clear hat hp hin
            rcases h3 with ⟨h3, h4⟩ | ⟨h3, h4, h5⟩
            · go_wp2_with fail
              exact ⟨⟨k + 1, by omega, by go_num, HP⟩, by simp [intOf]; omega⟩
            · go_wp2_with fail
              exact ⟨⟨k + 1, by omega, by go_num, HP⟩, by simp [intOf]; omega⟩
          · have HF2 : Hid (R = false) := Lib.hid (by
              rw [HF.out]
              refine allB_bad (j := k) (by rw [← HSZ.out]; exact hlt) ?_
              rw [hat]
              unfold isLo isDg
              rw [Bool.or_eq_false_iff, Bool.and_eq_false_iff, Bool.and_eq_false_iff, decide_eq_false_iff_not, decide_eq_false_iff_not, decide_eq_false_iff_not, decide_eq_false_iff_not]
              omega)
            have HFo := HF2.out
            subst HFo
            have h3 : ((b.toNat : Int) < 97 ∧ (b.toNat : Int) < 48) ∨ ((b.toNat : Int) < 97 ∧ ¬ (b.toNat : Int) < 48 ∧ (57 : Int) < (b.toNat : Int)) ∨ (¬ (b.toNat : Int) < 97 ∧ (122 : Int) < (b.toNat : Int) ∧ ¬ (b.toNat : Int) < 48 ∧ (57 : Int) < (b.toNat : Int)) := by omega
            clear hat hp hin HAT HF HF2
            rcases h3 with ⟨h3, h4⟩ | ⟨h3, h4, h5⟩ | ⟨h3, h4, h5, h6⟩ <;>
              (go_wp2_with fail
               go_ret
               exact ⟨rfl, rfl⟩)
        · have : k = s.size := by omega
          subst this
          have HF2 : Hid (R = true) := Lib.hid (by rw [HF.out]; exact allB_all (fun j hj => hp.out j (by rw [HSZ.out]; exact hj)))
          have HFo := HF2.out
          subst HFo
          clear hp HAT HF HF2
          go_wp2_with fail
          go_ret
          exact ⟨rfl, rfl⟩
    · have HF : Hid (R = false) := Lib.hid (by
        rw [HR.out, hat0]
        have : isLo b0 = false := by unfold isLo; rw [Bool.and_eq_false_iff, decide_eq_false_iff_not, decide_eq_false_iff_not]; omega
        rw [this]; simp)
      have d3 : ((s.size : Int) == 0) = false := beq_eq_false_iff_ne.2 (by omega)
      have d4 : ¬ (12000 : Int) < (s.size : Int) := by omega
      have h3 : (b0.toNat : Int) < 97 ∨ (¬ (b0.toNat : Int) < 97 ∧ (122 : Int) < (b0.toNat : Int)) := by omega
      rw [HF.out]
      clear hat0 HR hlo0 HF HAT
      rcases h3 with h3 | ⟨h3, h4⟩
      · go_enter Tryz.func166, Tryz.ntmps166
        go_wp2_with fail
        go_ret
        exact ⟨rfl, rfl⟩
      · go_enter Tryz.func166, Tryz.ntmps166
        go_wp2_with fail
        go_ret
        exact ⟨rfl, rfl⟩
  · have hz0 : s.size = 0 := by omega
    have d3 : ((s.size : Int) == 0) = true := beq_iff_eq.2 (by omega)
    have HF : Hid (R = false) := Lib.hid (by rw [HR.out, show decide (0 < l.length) = false from decide_eq_false (by have := HSZ.out; omega)]; rfl)
    rw [HF.out]
    clear HR HF HAT hz
    go_enter Tryz.func166, Tryz.ntmps166
    go_wp2_with fail
    go_ret
    exact ⟨rfl, rfl⟩
end Go.Proofs.YtfknoigbkleanaaGreatDoor
