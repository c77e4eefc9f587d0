/- The law FnLook: its walk. What is looked up is the type of the name. -/
import Derived.Test.YtjncmmnbdabjnaaGreatDoorLawBM
import Derived.Test.YtjncmmnbdabjnaaGreatDoorLawRi
import Derived.OwnWalk
namespace Go.Proofs.YtjncmmnbdabjnaaGreatDoor
open Go.RowKit
set_option maxRecDepth 8000
set_option linter.unusedSimpArgs false
set_option linter.unusedVariables false
set_option maxHeartbeats 8000000 in
theorem walk_FnLook (a : Option Addr) (L c : Nat) (zs : List Int) (w : World) (hr : BRow w a L c zs) :
    Calls Tryz.prog 3 #[.slice a L c] w fun e w' => e = .returned (.bool true) ∧ Below w.heap.size w w' := by
  by_cases h0 : L ≤ 1048576
  · have hd0 : decide (1048576 < (L : Int)) = false := by simp; omega
    have C := Lib.hid (drawEnvLook_c a L c zs w hr)
    clear hr
    go_enter Tryz.func3, Tryz.ntmps3
    go_wp2_with fail
    refine (C.out).mono ?_
    rintro e w1 ⟨v1, v2, ns, ts, s, rfl, ⟨h1, h2, ⟨l1, l2, l3, l4⟩, hb1⟩, hs⟩
    have HB := Lib.hid hb1
    have hn : ∀ k (h : k < ns.length), ns[k].length ≤ 1048576 := fun k h => by have := l3 _ (List.getElem_mem h); omega
    have ht : ∀ k (h : k < ts.length), ts[k].length ≤ 1048576 := fun k h => by have := l4 _ (List.getElem_mem h); omega
    obtain ⟨p1, c1, rfl, -, -⟩ := id h1
    obtain ⟨p2, c2, rfl, -, -⟩ := id h2
    have H1 := Lib.hid h1
    have H2 := Lib.hid h2
    obtain ⟨L1, hL1⟩ : ∃ L1, L1 = ns.length := ⟨_, rfl⟩
    obtain ⟨L2, hL2⟩ : ∃ L2, L2 = ts.length := ⟨_, rfl⟩
    rw [← hL1] at H1 ⊢
    rw [← hL2] at H2 ⊢
    obtain ⟨Z, hZ⟩ : ∃ Z, Z = (lookOf ns ts s.data.toList).isSome := ⟨_, rfl⟩
    obtain ⟨O, hO⟩ : ∃ O, O = bs ((lookOf ns ts s.data.toList).getD []) := ⟨_, rfl⟩
    have CI : Hid (∀ W, Below w1.heap.size w1 W → Calls Tryz.prog 10 #[.slice p1 L1 c1, .slice p2 L2 c2, .string s] W fun e w' => e = .returned (.tuple #[.string O, .bool Z]) ∧ Below W.heap.size W w') := Lib.hid (fun W hW => (implEnvLook_c _ _ ns ts s W (strS_keep2D H1.out hW) (strS_keep2D H2.out hW) hn ht).mono fun e w' ⟨k1, k2⟩ => ⟨by rw [hZ, hO]; exact k1, k2⟩)
    have CS : Hid (∀ W, Below w1.heap.size w1 W → Calls Tryz.prog 11 #[.slice p1 L1 c1, .slice p2 L2 c2, .string s] W fun e w' => e = .returned (.tuple #[.string O, .bool Z]) ∧ Below W.heap.size W w') := Lib.hid (fun W hW => (specEnvLook_c _ _ ns ts s W (strS_keep2D H1.out hW) (strS_keep2D H2.out hW) hn ht).mono fun e w' ⟨k1, k2⟩ => ⟨by rw [hZ, hO]; exact k1, k2⟩)
    have hx1 : (O.toList == O.toList) = true := by simp
    cases hR : lookOf ns ts s.data.toList with
    | none =>
      have hz : Z = false := by rw [hZ, hR]; rfl
      subst hz
      clear hR hZ hO h1 h2 hn ht l1 l2 l3 l4 hL1 hL2 hb1 C
      go_wp2_with (first | (go_at_call 10; go_must (refine (CI.out _ (Below.refl _ _)).mono ?_; rintro e w2 ⟨rfl, hb2⟩)) | (go_at_call 11; go_must (refine (CS.out _ hb2).mono ?_; rintro e w3 ⟨rfl, hb3⟩)))
      go_ret
      exact ⟨ret_bool (by simp), (HB.out.trans ((hb2.trans (hb3.mono hb2.size)).mono HB.out.size))⟩
    | some X =>
      have hz : Z = true := by rw [hZ, hR]; rfl
      subst hz
      have hOX : O = bs X := by rw [hO, hR]; rfl
      cases he : envOf ns ts with
      | none => rw [lookOf_none _ he] at hR; cases hR
      | some env =>
      obtain ⟨q1, q2, q3, q4⟩ := look_law he hR l1
      have hX7 := l4 X q3
      have hOs : O.size ≤ 1048576 := by rw [hOX, bs_size]; omega
      have CX : Hid (∀ W, Below w1.heap.size w1 W → Calls Tryz.prog 12 #[.slice p1 L1 c1, .slice p2 L2 c2, .string s] W fun e w' => e = .returned (.tuple #[.string O, .bool true]) ∧ Below W.heap.size W w') := Lib.hid (fun W hW => (implExprType_c _ _ ns ts s W (strS_keep2D H1.out hW) (strS_keep2D H2.out hW) hn ht (by omega)).mono fun e w' ⟨k1, k2⟩ => ⟨by rw [q1] at k1; rw [hOX]; exact k1, k2⟩)
      have CV : Hid (∀ W, Calls Tryz.prog 13 #[.string O] W fun e w' => e = .returned (.bool true) ∧ Below W.heap.size W w') := Lib.hid (fun W => (implTypeValid_c O hOs W).mono fun e w' ⟨k1, k2⟩ => ⟨by rw [k1, hOX, bs_data, q2], k2⟩)
      have CL : Hid (∀ W v u, StrS W v ([[122, 57]] ++ ns) → StrS W u ([[40, 62, 32, 105, 32, 105, 41]] ++ ts) → Calls Tryz.prog 10 #[v, u, .string s] W fun e w' => e = .returned (.tuple #[.string O, .bool true]) ∧ Below W.heap.size W w') := Lib.hid (fun W v u hv hu => (implEnvLook_c v u _ _ s W hv hu (fun k h => by
          have hm := List.getElem_mem h
          rcases List.mem_append.1 hm with hm | hm
          · rw [List.mem_singleton.1 hm]; decide
          · have := l3 _ hm; omega) (fun k h => by
          have hm := List.getElem_mem h
          rcases List.mem_append.1 hm with hm | hm
          · rw [List.mem_singleton.1 hm]; decide
          · have := l4 _ hm; omega)).mono fun e w' ⟨k1, k2⟩ => ⟨by rw [q4] at k1; rw [hOX]; exact k1, k2⟩)
      obtain ⟨i0, hi0, hz0, hz1, hz2⟩ := info_parts Tryz.infoStrD
      have HN := Lib.hid (show ([[122, 57]] ++ ns).length ≤ 5 by simp; omega)
      have hna : ([[122, 57]] : List Nm).length + ns.length ≤ 1000000 := by simp; omega
      have hta : ([[40, 62, 32, 105, 32, 105, 41]] : List Nm).length + ts.length ≤ 1000000 := by simp; omega
      clear he hR hZ hO hOX q1 q2 q3 q4 hX7 h1 h2 hn ht l1 l2 l3 l4 hL1 hL2 hb1 C
      go_wp2_with (first | (go_at_call 11; go_must (refine (CS.out _ hb2).mono ?_; rintro e w3 ⟨rfl, hb3⟩; have hB3 := hb2.trans (hb3.mono hb2.size))) | (go_at_call 12; go_must (refine (CX.out _ hB3).mono ?_; rintro e w4 ⟨rfl, hb4⟩; have HB4 := Lib.hid (hB3.trans (hb4.mono hB3.size)))) | (go_at_call 10; first | (refine (CL.out _ _ _ hv10 hv11).mono ?_; rintro e w6 ⟨rfl, hb6⟩) | (go_must (refine (CI.out _ (Below.refl _ _)).mono ?_; rintro e w2 ⟨rfl, hb2⟩))) | (go_at_call 13; go_must (refine (CV.out _).mono ?_; rintro e w7 ⟨rfl, hb7⟩)) | (at_builtin; (have HO10 := owns_oneD (base := w10.heap.size) (x := [40, 62, 32, 105, 32, 105, 41]) (heap_alloc_new w10 (.cells #[.string (bs [40, 62, 32, 105, 32, 105, 41])] 9)) (Nat.le_refl _); refine wpList_append_str _ rfl _ _ 23 rfl w10.heap.size 9 i0 Tryz.underlying23 hi0 hz0 hz1 hz2 _ [[40, 62, 32, 105, 32, 105, 41]] rfl HO10 _ ts rfl (strS_keep2D (strS_keep2D (strS_keep2D H2.out HB4.out) hB10) (below1 w10 _)) hta (by simp) ?_; intro v11 w11 ho11 hg11 hv11x; have hB11 := below_grown2D (Below.refl _ w10) (below1 w10 _) hg11 (fun k hk => (own_ltD HO10 hk).1); have hv11 := owns_strS6D ho11 (by simp; omega); have hv10 := strS_keep2D hv10a hB11; obtain ⟨p11, c11, rfl⟩ := owns_slice ho11)) | (at_builtin; go_must (have HO4 := owns_oneD (base := w4.heap.size) (x := [122, 57]) (heap_alloc_new w4 (.cells #[.string (bs [122, 57])] 9)) (Nat.le_refl _); refine wpList_append_str _ rfl _ _ 23 rfl w4.heap.size 9 i0 Tryz.underlying23 hi0 hz0 hz1 hz2 _ [[122, 57]] rfl HO4 _ ns rfl (strS_keep2D (strS_keep2D H1.out HB4.out) (below1 w4 _)) hna (by simp) ?_; intro v10 w10 ho10 hg10 hv10x; have hB10 := below_grown2D (Below.refl _ w4) (below1 w4 _) hg10 (fun k hk => (own_ltD HO4 hk).1); have hv10a := owns_strS6D ho10 (by have := HN.out; omega); obtain ⟨p10, c10, rfl⟩ := owns_slice ho10; clear ho10 hv10x; generalize ([[122, 57]] ++ ns).length = N1 at *; have hd8 : decide (8 < (N1 : Int)) = false := (by have := HN.out; simp; omega))))
      go_ret
      exact ⟨ret_bool (by simp), by
        have k4 := HB4.out
        have k10 := k4.trans (hB10.mono k4.size)
        have k11 := k10.trans (hB11.mono k10.size)
        have k6 := k11.trans (hb6.mono k11.size)
        have k7 := k6.trans (hb7.mono k6.size)
        exact HB.out.trans (k7.mono HB.out.size)⟩
  · have hd0 : decide (1048576 < (L : Int)) = true := by simp; omega
    have hm0 : L ≤ 9223372036854775807 := hr.bound
    go_enter Tryz.func3, Tryz.ntmps3
    go_wp2_with fail
    go_ret
    exact ⟨rfl, Below.refl _ _⟩
end Go.Proofs.YtjncmmnbdabjnaaGreatDoor
