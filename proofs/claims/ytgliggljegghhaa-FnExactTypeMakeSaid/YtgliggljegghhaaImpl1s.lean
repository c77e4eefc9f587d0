/- TypeMake of the program. -/
import Derived.Test.YtgliggljegghhaaImpl1l
namespace Go.Proofs.Ytgliggljegghhaa
open Go.RowKit
set_option linter.unusedSimpArgs false
set_option linter.unusedVariables false
set_option maxHeartbeats 4000000 in
theorem implTypeMake_h (f : Bool) (c : UInt8) (hc : c = if f = true then 62 else 42) (a b : ByteArray) (ha : a.size ≤ 1048576) (hb : b.size ≤ 1048576) (w : World) :
    Calls Try.prog 13 #[.bool f, .string a, .string b] w fun e w' => MakePost (makeT c a.data.toList b.data.toList) e ∧ Below w.heap.size w w' := by
  have hcc : c = 62 ∨ c = 42 := by rw [hc]; split <;> simp
  cases h1 : readTy a.data.toList with
  | none =>
    have C1 := Lib.hid (readType_none ha h1)
    have HR := Lib.hid (makeT_left (c := c) b.data.toList h1)
    clear h1 hc hcc
    go_enter Try.func13, Try.ntmps13
    go_wp2_with (go_at_call 24; go_must (refine (C1.out _).mono ?_; rintro e w1 ⟨rfl, hb1⟩))
    go_ret2
    exact ⟨by rw [HR.out]; rfl, hb1.alloc hb1.size _⟩
  | some ta =>
    have C1 := Lib.hid (readType_some ha h1)
    obtain ⟨ua, a1, a2, a3, hua, ha1, ha2, ha3, hna⟩ := nI_named ta
    rw [← hua, ← ha1, ← ha2, ← ha3] at C1
    cases h2 : readTy b.data.toList with
    | none =>
      have C2 := Lib.hid (readType_none hb h2)
      have HR := Lib.hid (makeT_right (c := c) a.data.toList h2)
      clear h1 h2 hc hcc hua ha1 ha2 ha3 hna
      go_enter Try.func13, Try.ntmps13
      go_wp2_with (go_at_call 24; first | ((with_reducible refine (C1.out _).mono ?_); rintro e w1 ⟨⟨p1, n1, c1, rfl, hv1⟩, hb1⟩; have B1 := Lib.hid (hb1.alloc hb1.size (.cells #[.string ua, .slice p1 n1 c1, .int .i64 a1, .int .i64 a2, .int .i64 a3] 37))) | ((with_reducible refine (C2.out _).mono ?_); rintro e w2 ⟨rfl, hb2⟩))
      go_ret2
      exact ⟨by rw [HR.out]; rfl, (nextB (nextB (firstB B1.out) hb2) (below1 _ _)).1⟩
    | some tb =>
      have C2 := Lib.hid (readType_some hb h2)
      obtain ⟨ub, b1, b2, b3, hub, hb1', hb2', hb3', hnb⟩ := nI_named tb
      rw [← hub, ← hb1', ← hb2', ← hb3'] at C2
      have hga := readTy_got h1
      have hgb := readTy_got h2
      have hR0 := makeT_some (c := c) h1 h2
      obtain ⟨m1, hm1⟩ : ∃ m : Int, m = (mkTr c ta tb).bytes := ⟨_, rfl⟩
      obtain ⟨m2, hm2⟩ : ∃ m : Int, m = (mkTr c ta tb).size := ⟨_, rfl⟩
      obtain ⟨m3, hm3⟩ : ∃ m : Int, m = (mkTr c ta tb).depth := ⟨_, rfl⟩
      have CM : Hid (∀ (W : World) p1 n1 c1 p2 n2 c2, FV nI W (fun q => q < W.heap.size) ta (nI ta (.slice p1 n1 c1)) → FV nI W (fun q => q < W.heap.size) tb (nI tb (.slice p2 n2 c2)) → Calls Try.prog 25 #[.string ⟨#[c]⟩, .agg #[.string ua, .slice p1 n1 c1, .int .i64 a1, .int .i64 a2, .int .i64 a3], .agg #[.string ub, .slice p2 n2 c2, .int .i64 b1, .int .i64 b2, .int .i64 b3]] W fun e w' => (∃ r, e = .returned (.tuple #[.agg #[.string ⟨#[]⟩, .slice (some ⟨r, 0, none⟩) 3 3, .int .i64 m1, .int .i64 m2, .int .i64 m3], .bool (decide (m2 ≤ 16))]) ∧ FV nI w' (fun q => q < w'.heap.size) (mkTr c ta tb) (nI (mkTr c ta tb) (.slice (some ⟨r, 0, none⟩) 3 3))) ∧ Below W.heap.size W w') :=
        Lib.hid (fun W p1 n1 c1 p2 n2 c2 k1 k2 => makeType_n c hcc ta tb hga.2.2.2.2.1 hga.2.2.2.2.2 hgb.2.2.2.2.1 hgb.2.2.2.2.2 ua ub a1 a2 a3 b1 b2 b3 m1 m2 m3 p1 p2 n1 c1 n2 c2 W hna hnb hm1 hm2 hm3 k1 k2)
      have hsm := isTy_small _ _ (Nat.le_refl _) (made_ty (c := c) hcc hga.2.2.2.2.1 hgb.2.2.2.2.1)
      have hsz := mkTr_size c ta tb
      have hbyt : (mkTr c ta tb).bytes ≤ 100000000000 := by have h9 := hsm.1; have h7 := hga.2.2.2.2.2; have h8 := hgb.2.2.2.2.2; unfold mkTr at hsz ⊢; omega
      have TX : Hid (∀ (W : World) (r : Nat), FV nI W (fun k => k < W.heap.size) (mkTr c ta tb) (nI (mkTr c ta tb) (.slice (some ⟨r, 0, none⟩) 3 3)) → Calls Try.prog 26 #[.agg #[.string ⟨#[]⟩, .slice (some ⟨r, 0, none⟩) 3 3, .int .i64 m1, .int .i64 m2, .int .i64 m3]] W fun e w' => e = .returned (.string (bs (mkTr c ta tb).text)) ∧ Below W.heap.size W w') :=
        Lib.hid (fun W r k1 => by rw [hm1, hm2, hm3]; exact text_c (mkTr c ta tb) _ 3 3 _ W hsm.2.2 hbyt k1 (fun k hk => hk))
      obtain ⟨v, hv⟩ : ∃ v, v = decide (m2 ≤ 16) := ⟨_, rfl⟩
      have HR : Hid (makeT c a.data.toList b.data.toList = if v = true then some (mkTr c ta tb) else none) := Lib.hid (by
        rw [hR0, hv, hm2, hsz]
        by_cases q : 1 + ta.size + tb.size ≤ 16
        · rw [if_pos q, if_pos (by simp; omega)]; rfl
        · rw [if_neg q, if_neg (by simp; omega)])
      rw [← hv] at CM
      generalize mkTr c ta tb = MT at *
      clear h1 h2 hua ha1 ha2 ha3 hub hb1' hb2' hb3' hga hgb hR0 hm1 hm2 hm3 hsm hsz hbyt hv hcc
      have hcf : c = 42 ∧ f = false ∨ c = 62 ∧ f = true := by
        cases f
        · exact .inl ⟨by simpa using hc, rfl⟩
        · exact .inr ⟨by simpa using hc, rfl⟩
      clear hc
      rcases hcf with ⟨rfl, rfl⟩ | ⟨rfl, rfl⟩ <;> cases v <;>
        (go_enter Try.func13, Try.ntmps13
         go_wp2_with (first | (go_at_call 24; first | ((with_reducible refine (C1.out _).mono ?_); rintro e w1 ⟨⟨p1, n1, c1, rfl, hv1⟩, hb1⟩; have B1 := Lib.hid (hb1.alloc hb1.size (.cells #[.string ua, .slice p1 n1 c1, .int .i64 a1, .int .i64 a2, .int .i64 a3] 37)); have V1 := Lib.hid ((hv1.below (below1 w1 (.cells #[.string ua, .slice p1 n1 c1, .int .i64 a1, .int .i64 a2, .int .i64 a3] 37)) (fun k hk => hk.2)).wide (ok' := fun q => q < (w1.alloc (.cells #[.string ua, .slice p1 n1 c1, .int .i64 a1, .int .i64 a2, .int .i64 a3] 37)).heap.size) (fun q hq => by simp; omega)); have N1 := heap_alloc_new w1 (.cells #[.string ua, .slice p1 n1 c1, .int .i64 a1, .int .i64 a2, .int .i64 a3] 37); clear hv1 hb1) | ((with_reducible refine (C2.out _).mono ?_); rintro e w2 ⟨⟨p2, n2, c2, rfl, hv2⟩, hb2⟩; have B2 := Lib.hid (nextB (nextB (firstB B1.out) hb2) (below1 w2 (.cells #[.string ub, .slice p2 n2 c2, .int .i64 b1, .int .i64 b2, .int .i64 b3] 37))); have V2 := Lib.hid ((hv2.below (below1 w2 (.cells #[.string ub, .slice p2 n2 c2, .int .i64 b1, .int .i64 b2, .int .i64 b3] 37)) (fun k hk => hk.2)).wide (ok' := fun q => q < (w2.alloc (.cells #[.string ub, .slice p2 n2 c2, .int .i64 b1, .int .i64 b2, .int .i64 b3] 37)).heap.size) (fun q hq => by simp; omega)); have V3 := Lib.hid (((V1.out.below hb2 (fun _ h => h)).below (below1 w2 (.cells #[.string ub, .slice p2 n2 c2, .int .i64 b1, .int .i64 b2, .int .i64 b3] 37)) (fun q hq => Nat.lt_of_lt_of_le hq hb2.size)).wide (ok' := fun q => q < (w2.alloc (.cells #[.string ub, .slice p2 n2 c2, .int .i64 b1, .int .i64 b2, .int .i64 b3] 37)).heap.size) (fun q hq => by have := hb2.size; simp at this hq ⊢; omega)); have Y1 := blk_alloc (o' := .cells #[.string ub, .slice p2 n2 c2, .int .i64 b1, .int .i64 b2, .int .i64 b3] 37) (below_blk hb2 (lt_of_block N1) N1); have Y2 := heap_alloc_new w2 (.cells #[.string ub, .slice p2 n2 c2, .int .i64 b1, .int .i64 b2, .int .i64 b3] 37); have d0 := cell_of (j := 0) Y1; have d1 := cell_of (j := 1) Y1; have d2 := cell_of (j := 2) Y1; have d3 := cell_of (j := 3) Y1; have d4 := cell_of (j := 4) Y1; have e0 := cell_of (j := 0) Y2; have e1 := cell_of (j := 1) Y2; have e2 := cell_of (j := 2) Y2; have e3 := cell_of (j := 3) Y2; have e4 := cell_of (j := 4) Y2; clear hv2)) | (go_at_call 25; go_must (refine (CM.out _ _ _ _ _ _ _ V3.out V2.out).mono ?_; rintro e w3 ⟨⟨r, rfl, hf3⟩, hb3⟩; have V4 := Lib.hid ((hf3.below (below1 w3 (.cells #[.string ⟨#[]⟩, .slice (some ⟨r, 0, none⟩) 3 3, .int .i64 m1, .int .i64 m2, .int .i64 m3] 37)) (fun _ h => h)).wide (ok' := fun q => q < (w3.alloc (.cells #[.string ⟨#[]⟩, .slice (some ⟨r, 0, none⟩) 3 3, .int .i64 m1, .int .i64 m2, .int .i64 m3] 37)).heap.size) (fun q hq => by simp; omega)); have B3 := Lib.hid (nextB (nextB B2.out hb3) (below1 w3 (.cells #[.string ⟨#[]⟩, .slice (some ⟨r, 0, none⟩) 3 3, .int .i64 m1, .int .i64 m2, .int .i64 m3] 37))))) | (go_at_call 26; go_must (refine (TX.out _ r V4.out).mono ?_; rintro e w9 ⟨rfl, hb9⟩)))
         go_ret2
         first
           | exact ⟨by rw [HR.out]; rfl, B3.out.1⟩
           | exact ⟨by rw [HR.out]; rfl, (nextB B3.out hb9).1⟩)
end Go.Proofs.Ytgliggljegghhaa
