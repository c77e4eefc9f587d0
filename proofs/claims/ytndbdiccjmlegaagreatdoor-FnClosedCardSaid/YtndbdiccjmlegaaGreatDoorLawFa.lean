/- The law FnClosed: its walk. In a closed expression nothing can be put. -/
import Derived.Test.YtndbdiccjmlegaaGreatDoorDrawC
import Derived.Test.YtndbdiccjmlegaaGreatDoorImpl2y
import Derived.Test.YtndbdiccjmlegaaGreatDoorSpec2h
namespace Go.Proofs.YtndbdiccjmlegaaGreatDoor
open Go.RowKit
set_option maxRecDepth 8000
set_option linter.unusedSimpArgs false
set_option linter.unusedVariables false
theorem putE_out (n : Nm) (b : Ex) : ∀ x : Ex, n ∉ freeP x → putE n b x = x
  | .name s, h => by
    simp only [freeP, List.mem_singleton] at h
    simp only [putE]
    rw [if_neg (fun e => h e.symm)]
  | .num _, _ => rfl
  | .two _ x y, h => by
    simp only [freeP, List.mem_append, not_or] at h
    simp only [putE, putE_out n b x h.1, putE_out n b y h.2]
  | .one _ x, h => by simp only [freeP] at h; simp only [putE, putE_out n b x h]
  | .cond x y z, h => by
    simp only [freeP, List.mem_append, not_or] at h
    simp only [putE, putE_out n b x h.1.1, putE_out n b y h.1.2, putE_out n b z h.2]
  | .lete s x y, h => by
    simp only [freeP, List.mem_append, not_or] at h
    simp only [putE, putE_out n b x h.1]
    by_cases hs : s = n
    · rw [if_pos hs]
    · rw [if_neg hs, putE_out n b y (fun hy => h.2 (by simp only [rm, List.mem_filter, decide_eq_true_eq, List.mem_singleton]; exact ⟨hy, fun e => hs e.symm⟩))]
  | .func f a A B x, h => by
    simp only [freeP] at h
    simp only [putE]
    by_cases hs : f = n ∨ a = n
    · rw [if_pos hs]
    · rw [if_neg hs, putE_out n b x (fun hy => h (by
        simp only [rm, List.mem_filter, decide_eq_true_eq, List.mem_cons, List.not_mem_nil, or_false, not_or]
        exact ⟨hy, fun e => hs (.inl e.symm), fun e => hs (.inr e.symm)⟩))]
theorem readEx_lim {l : List UInt8} {x : Ex} (h : readEx l = some x) : limT (formOf x) = some l := by
  unfold readEx at h
  cases hp : parse l with
  | none => simp [hp] at h
  | some t =>
    simp only [hp] at h
    split at h
    · rename_i hs
      have g := parse_got hp
      rw [formOf_eq _ _ h, limT, if_pos ⟨hs, g.2.1, g.2.2.1⟩, g.2.2.2]
    · cases h
theorem putTx_closed {l n y : List UInt8} {x b : Ex} (h : readCl l = some x) (hn : isNm n = true) (hy : readCl y = some b) : putTx l n y = some l := by
  have g := readCl_got h
  rw [putTx_some g.1 hn hy, putE_out n b x (by rw [g.2]; simp), readEx_lim g.1]
theorem lit_plus : ∃ b, readCl [40, 43, 32, 49, 32, 50, 41] = some b := Option.isSome_iff_exists.1 (by kernel_rfl)
theorem lit_seven : ∃ b, readCl [55] = some b := Option.isSome_iff_exists.1 (by kernel_rfl)
set_option maxHeartbeats 4000000 in
theorem walk_FnClosed (a : Option Addr) (L c : Nat) (zs : List Int) (w : World) (hr : BRow w a L c zs) (hT : Tab w) :
    Calls Tryz.prog 4 #[.slice a L c] w fun e w' => e = .returned (.bool true) ∧ Below w.heap.size w w' := by
  by_cases h0 : L ≤ 1048576
  · have hd0 : decide (1048576 < (L : Int)) = false := by simp; omega
    have C := Lib.hid (drawExprClosed_c a L c zs w hr)
    have HT := Lib.hid hT
    clear hr hT
    go_enter Tryz.func4, Tryz.ntmps4
    go_wp2_with fail
    refine (C.out).mono ?_
    rintro e w1 ⟨⟨s, rfl, hs⟩, hb1⟩
    have HB := Lib.hid hb1
    clear hb1 C
    have CI := Lib.hid (fun W => implExprClosed_c s (by omega) W)
    have CS := Lib.hid (fun W => specExprClosed_c s (by omega) W)
    cases hc : readCl s.data.toList with
    | none =>
      rw [hc] at CI CS
      simp only [Option.isSome_none] at CI CS
      clear hc
      go_wp2_with (first | (go_at_call 18; go_must (refine (CI.out _).mono ?_; rintro e wn ⟨rfl, hbn⟩; have HB := Lib.hid ((nextB (firstB HB.out) hbn).1); clear hbn)) | (go_at_call 20; go_must (refine (CS.out _).mono ?_; rintro e wn ⟨rfl, hbn⟩; have HB := Lib.hid ((nextB (firstB HB.out) hbn).1); clear hbn)))
      go_ret
      exact ⟨rfl, HB.out⟩
    | some x =>
      rw [hc] at CI CS
      simp only [Option.isSome_some] at CI CS
      obtain ⟨g1, g2⟩ := readCl_got hc
      have CF : Hid (∀ W, Calls Tryz.prog 11 #[.string s] W fun e w' => (∃ p c, e = .returned (.tuple #[.slice p 0 c, .bool true])) ∧ Below W.heap.size W w') := Lib.hid (fun W => (implExprFree_c s (by omega) W).mono fun e w' ⟨⟨v, h1, h2⟩, h3⟩ => ⟨by
        rw [freeE_some g1, g2] at h1 h2
        obtain ⟨p, c, rfl⟩ := owns_slice h2
        exact ⟨p, c, h1⟩, h3⟩)
      have hss : bs s.data.toList = s := (bs_ext rfl : s = bs s.data.toList).symm
      obtain ⟨b1, hb1⟩ := lit_plus
      obtain ⟨b2, hb2⟩ := lit_seven
      have CP1 : Hid (∀ W, Below w.heap.size w W → Calls Tryz.prog 15 #[.string s, .string ⟨#[97]⟩, .string ⟨#[40, 43, 32, 49, 32, 50, 41]⟩] W fun e w' => e = .returned (.tuple #[.string s, .bool true]) ∧ Below W.heap.size W w') := Lib.hid (fun W hW => (implExprPut_c s ⟨#[97]⟩ ⟨#[40, 43, 32, 49, 32, 50, 41]⟩ (by omega) (by decide) (by decide) W (HT.out.below hW)).mono fun e w' ⟨h1, h3⟩ => ⟨by
        have h2 : putTx s.data.toList [97] [40, 43, 32, 49, 32, 50, 41] = some s.data.toList := putTx_closed hc (by kernel_rfl) hb1
        unfold TxPost at h1
        rw [show (ByteArray.mk #[97]).data.toList = [97] from rfl, show (ByteArray.mk #[40, 43, 32, 49, 32, 50, 41]).data.toList = [40, 43, 32, 49, 32, 50, 41] from rfl, h2] at h1
        simp only [Option.getD_some, Option.isSome_some, hss] at h1
        exact h1, h3⟩)
      have CP2 : Hid (∀ W, Below w.heap.size w W → Calls Tryz.prog 15 #[.string s, .string ⟨#[120, 48]⟩, .string ⟨#[55]⟩] W fun e w' => e = .returned (.tuple #[.string s, .bool true]) ∧ Below W.heap.size W w') := Lib.hid (fun W hW => (implExprPut_c s ⟨#[120, 48]⟩ ⟨#[55]⟩ (by omega) (by decide) (by decide) W (HT.out.below hW)).mono fun e w' ⟨h1, h3⟩ => ⟨by
        have h2 : putTx s.data.toList [120, 48] [55] = some s.data.toList := putTx_closed hc (by kernel_rfl) hb2
        unfold TxPost at h1
        rw [show (ByteArray.mk #[120, 48]).data.toList = [120, 48] from rfl, show (ByteArray.mk #[55]).data.toList = [55] from rfl, h2] at h1
        simp only [Option.getD_some, Option.isSome_some, hss] at h1
        exact h1, h3⟩)
      have tok1 : True := trivial
      clear hc g1 g2 hb1 hb2 hss
      go_wp2_with (first | (go_at_call 18; go_must (refine (CI.out _).mono ?_; rintro e wn ⟨rfl, hbn⟩; have HB := Lib.hid ((nextB (firstB HB.out) hbn).1); clear hbn)) | (go_at_call 20; go_must (refine (CS.out _).mono ?_; rintro e wn ⟨rfl, hbn⟩; have HB := Lib.hid ((nextB (firstB HB.out) hbn).1); clear hbn)) | (go_at_call 11; go_must (refine (CF.out _).mono ?_; rintro e wn ⟨⟨pf, cf, rfl⟩, hbn⟩; have HB := Lib.hid ((nextB (firstB HB.out) hbn).1); clear hbn)) | (go_at_call 15; clear tok1; go_must (refine (CP1.out _ HB.out).mono ?_; rintro e wn ⟨rfl, hbn⟩; have HB := Lib.hid ((nextB (firstB HB.out) hbn).1); clear hbn)) | (go_at_call 15; go_must (refine (CP2.out _ HB.out).mono ?_; rintro e wn ⟨rfl, hbn⟩; have HB := Lib.hid ((nextB (firstB HB.out) hbn).1); clear hbn)))
      go_ret
      exact ⟨ret_bool (by simp), HB.out⟩
  · have hd0 : decide (1048576 < (L : Int)) = true := by simp; omega
    have hm0 : L ≤ 9223372036854775807 := hr.bound
    go_enter Tryz.func4, Tryz.ntmps4
    go_wp2_with fail
    go_ret
    exact ⟨rfl, Below.refl _ _⟩
end Go.Proofs.YtndbdiccjmlegaaGreatDoor
