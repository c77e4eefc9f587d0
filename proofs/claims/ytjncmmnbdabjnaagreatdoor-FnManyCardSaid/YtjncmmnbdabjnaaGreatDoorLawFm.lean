/- The law FnMany: its walk. Expressions are counted by their parts. -/
import Derived.Test.YtjncmmnbdabjnaaGreatDoorLawFe
import Derived.Test.YtjncmmnbdabjnaaGreatDoorSpec3aM
import Derived.Test.YtjncmmnbdabjnaaGreatDoorImpl3a
import Derived.OwnWalk
namespace Go.Proofs.YtjncmmnbdabjnaaGreatDoor
open Go.RowKit
set_option maxRecDepth 8000
set_option linter.unusedSimpArgs false
set_option linter.unusedVariables false
theorem sumM_all (ks : List Ex) : ∀ j, ks.length ≤ j → sumM (ks.take j) = sumM ks := fun j h => by rw [List.take_of_length_le h]
set_option maxHeartbeats 8000000 in
theorem walk_FnMany (a : Option Addr) (L c : Nat) (zs : List Int) (w : World) (hr : BRow w a L c zs) (hT : Tab w) :
    Calls Tryz.prog 4 #[.slice a L c] w fun e w' => e = .returned (.bool true) ∧ Below w.heap.size w w' := by
  by_cases h0 : L ≤ 1048576
  · have hd0 : decide (1048576 < (L : Int)) = false := by simp; omega
    have C := Lib.hid (drawExprMany_c a L c zs w hr)
    have HT := Lib.hid hT
    clear hr hT
    go_enter Tryz.func4, Tryz.ntmps4
    go_wp2_with fail
    refine (C.out).mono ?_
    rintro e w1 ⟨⟨s, rfl, hs⟩, hb1⟩
    have HB := Lib.hid hb1
    clear hb1 C
    have CI := Lib.hid (fun W => implExprMany_c s (by omega) W)
    have CS := Lib.hid (fun W => specExprMany_c s (by omega) W)
    cases hc : readEx s.data.toList with
    | none =>
      unfold Hid at CI CS
      rw [manyOf_none hc] at CI CS
      have CI := Lib.hid CI
      have CS := Lib.hid CS
      clear hc
      go_wp2_with (first | (go_at_call 15; go_must (refine (CI.out _).mono ?_; rintro e wn ⟨rfl, hbn⟩; have HB := Lib.hid ((nextB (firstB HB.out) hbn).1); clear hbn)) | (go_at_call 16; go_must (refine (CS.out _).mono ?_; rintro e wn ⟨rfl, hbn⟩; have HB := Lib.hid ((nextB (firstB HB.out) hbn).1); clear hbn)))
      go_ret
      exact ⟨ret_bool (by simp), HB.out⟩
    | some x =>
      unfold Hid at CI CS
      rw [manyOf_some hc] at CI CS
      have CI := Lib.hid CI
      have CS := Lib.hid CS
      obtain ⟨hp, -, hsz, -, -, hw, hg⟩ := read_all hc
      obtain ⟨kl, hkl⟩ : ∃ kl, kl = (kidsE x).map (fun k => (formOf k).text) := ⟨_, rfl⟩
      have hkll : kl.length = (kidsE x).length := by rw [hkl]; simp
      have hk3 : (kidsE x).length ≤ 3 := by cases x <;> simp [kidsE]
      have hmS := manyA_size hc
      have hM1 := many_kids x
      have CK : Hid (∀ W, Below w.heap.size w W → Calls Tryz.prog 17 #[.string s] W fun e w' => (∃ v, e = .returned (.tuple #[v, .bool true]) ∧ StrS w' v kl) ∧ Below W.heap.size W w') := Lib.hid (fun W hW => (implExprKids_c s (by omega) W (HT.out.below hW)).mono fun e w' ⟨⟨v, h1, h2⟩, h3⟩ => ⟨by
        rw [kidsTx_some hc, Option.isSome_some] at h1
        rw [kidsTx_some hc, Option.getD_some, ← hkl] at h2
        exact ⟨v, h1, owns_strS6D h2 (by omega)⟩, h3⟩)
      obtain ⟨q1, q2⟩ := plX_read hc
      obtain ⟨PT, hPT⟩ : ∃ PT, PT = bs (formOf (plX x)).text := ⟨_, rfl⟩
      have CP : Hid (∀ W, Below w.heap.size w W → Calls Tryz.prog 18 #[.string s] W fun e w' => e = .returned (.tuple #[.string PT, .bool true]) ∧ Below W.heap.size W w') := Lib.hid (fun W hW => (implExprPlain_c s (by omega) W (HT.out.below hW)).mono fun e w' ⟨h1, h2⟩ => ⟨by rw [plTx_some hc] at h1; rw [hPT]; exact h1, h2⟩)
      have CM : Hid (∀ W, Calls Tryz.prog 15 #[.string PT] W fun e w' => e = .returned (.int .i64 (manyE x : Nat)) ∧ Below W.heap.size W w') := Lib.hid (fun W => (implExprMany_c PT (by rw [hPT, bs_size]; omega) W).mono fun e w' ⟨h1, h2⟩ => ⟨by rw [hPT, bs_data, manyOf_some q1, plX_many] at h1; exact h1, h2⟩)
      have CZ : Hid (∀ W, Calls Tryz.prog 19 #[.string s] W fun e w' => e = .returned (.int .i64 ((formOf x).size : Nat)) ∧ Below W.heap.size W w') := Lib.hid (fun W => (implFormSizeF_c s (by omega) W).mono fun e w' ⟨h1, h2⟩ => ⟨by rw [h1]; simp [sizeOfText, hp], h2⟩)
      have HKD : Hid (∀ j (hj : j < kl.length), ∃ M : Nat, M ≤ 120 ∧ sumM ((kidsE x).take (j + 1)) = sumM ((kidsE x).take j) + M ∧ (∀ W, Calls Tryz.prog 15 #[.string (bs kl[j])] W fun e w' => e = .returned (.int .i64 (M : Nat)) ∧ Below W.heap.size W w')) := Lib.hid (fun j hj => by
        have hj2 : j < (kidsE x).length := by omega
        have hmem : (kidsE x)[j] ∈ kidsE x := List.getElem_mem hj2
        have hkj : kl[j] = (formOf ((kidsE x)[j])).text := by simp [hkl]
        obtain ⟨hr1, hr2⟩ := kid_read hc hmem
        have hb1 : (bs kl[j]).data.toList = kl[j] := by simp [bs]
        have hbs : (bs kl[j]).size ≤ 1048576 := by rw [bs_size, hkj]; omega
        rw [← hkj] at hr1
        exact ⟨manyE (kidsE x)[j], readEx_many hr1, sumM_take _ j hj2, fun W => (implExprMany_c (bs kl[j]) hbs W).mono fun e w' ⟨h1, h2⟩ => ⟨by rw [hb1, manyOf_some hr1] at h1; exact h1, h2⟩⟩)
      have HSL : Hid (∀ j, sumM ((kidsE x).take j) ≤ 120) := Lib.hid (fun j => by have := sumM_take_le (kidsE x) j; omega)
      have HE : Hid (1 + sumM (kidsE x) = manyE x) := Lib.hid hM1.symm
      have hmI : (((manyE x : Nat) : Int)) ≤ (((formOf x).size : Nat) : Int) := by omega
      have hM0 : (0 : Int) ≤ ((manyE x : Nat) : Int) := by omega
      have hM9 : ((manyE x : Nat) : Int) ≤ 120 := by omega
      generalize manyE x = MX at *
      generalize (formOf x).size = SZ at *
      generalize kidsE x = ks at *
      have HKL := Lib.hid hkll
      have hklb : kl.length ≤ 3 := by omega
      clear hc hp hsz hw hg hkl hPT q1 q2 hM1 hmS hkll
      have tok1 : True := trivial
      go_wp2_with (first | (go_at_call 15; clear tok1; go_must (refine (CI.out _).mono ?_; rintro e wn ⟨rfl, hbn⟩; have HB := Lib.hid ((nextB (firstB HB.out) hbn).1); clear hbn)) | (go_at_call 16; go_must (refine (CS.out _).mono ?_; rintro e wn ⟨rfl, hbn⟩; have HB := Lib.hid ((nextB (firstB HB.out) hbn).1); clear hbn)) | (go_at_call 17; go_must (refine (CK.out _ HB.out).mono ?_; rintro e wk ⟨⟨v2, rfl, hv2⟩, hbn⟩; obtain ⟨p2, m2, c2, rfl⟩ := hv2.shape; have HB := Lib.hid ((nextB (firstB HB.out) hbn).1); clear hbn)) | (go_at_call 18; go_must (refine (CP.out _ HB.out).mono ?_; rintro e w6 ⟨rfl, hbn⟩; have HK := Lib.hid (strS_keep2D hv2 hbn); clear hv2; have HB := Lib.hid ((nextB (firstB HB.out) hbn).1); clear hbn)))
      have hm2 : m2 = kl.length := by obtain ⟨_, _, e, -, -⟩ := HK.out; injection e
      subst hm2
      go_loopw [10, 11] (fun v i wr => ∃ j : Nat, j ≤ kl.length ∧ i = .int .i64 j ∧ v = .int .i64 ((1 + sumM (ks.take j) : Nat)) ∧ Hid (Below w6.heap.size w6 wr)) (fun _ i _ => kl.length - (intOf i).toNat)
      case atStart => exact ⟨0, Nat.zero_le _, rfl, rfl, Lib.hid (Below.refl _ _)⟩
      case round =>
        obtain ⟨j, hj, rfl, rfl, hB⟩ := hrel
        have hAl := HSL.out j
        by_cases hlt : j < kl.length
        · obtain ⟨M, hM, hsum, cM⟩ := HKD.out j hlt
          have CMk := Lib.hid cM
          have HS2 := Lib.hid hsum
          clear cM hsum
          have hst := strS_keep2D HK.out hB.out
          obtain ⟨rr, off, c9, he, hrr, hcell⟩ := StrS.rows hst (fun e => by rw [e] at hlt; simp at hlt)
          simp only [Value.slice.injEq] at he
          obtain ⟨rfl, -, rfl⟩ := he
          have x0 : wr.cell? ⟨rr, off + j, none⟩ = some (.string (bs kl[j])) := by rw [hcell j hlt, List.getD_eq_getElem?_getD, List.getElem?_eq_getElem hlt]; rfl
          have hjI : (j : Int) < (kl.length : Int) := by omega
          generalize bs kl[j] = KT at *
          generalize sumM (ks.take j) = SJ at *
          clear hcell hst
          go_wp2_with (go_at_call 15; go_must (refine (CMk.out _).mono ?_; rintro e w7 ⟨rfl, hb7⟩))
          go_roundw
          case rel => exact ⟨j + 1, by omega, by go_num, by rw [HS2.out]; go_num, Lib.hid (hB.out.trans (hb7.mono hB.out.size))⟩
          case measure => simp [intOf]; omega
        · have : j = kl.length := by omega
          subst this
          have hfin : ks.take kl.length = ks := List.take_of_length_le (by have := HKL.out; omega)
          rw [hfin] at hAl ⊢
          have HE2 : Hid ((1 + sumM ks : Nat) = MX) := HE
          rw [HE2.out]
          have HBr := Lib.hid (HB.out.trans (hB.out.mono HB.out.size))
          clear hB HKD HSL hfin HE HE2 hAl
          go_wp2_with (first | (go_at_call 19; go_must (refine (CZ.out _).mono ?_; rintro e wn ⟨rfl, hbn⟩; have HBr := Lib.hid ((nextB (firstB HBr.out) hbn).1); clear hbn)) | (go_at_call 15; go_must (refine (CM.out _).mono ?_; rintro e wn ⟨rfl, hbn⟩; have HBr := Lib.hid ((nextB (firstB HBr.out) hbn).1); clear hbn)))
          go_ret
          exact ⟨ret_bool (by simp), HBr.out⟩
  · have hd0 : decide (1048576 < (L : Int)) = true := by simp; omega
    have hm0 : L ≤ 9223372036854775807 := hr.bound
    go_enter Tryz.func4, Tryz.ntmps4
    go_wp2_with fail
    go_ret
    exact ⟨rfl, Below.refl _ _⟩
end Go.Proofs.YtjncmmnbdabjnaaGreatDoor
