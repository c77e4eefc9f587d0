/- The program's ExprType and ExprTyped. The walks of the laws on ExprType and ExprTyped. -/
import Derived.Test.YtgljnmbbmjmkjaaGreatDoorImpl3y
import Derived.Test.YtgljnmbbmjmkjaaGreatDoorImpl3c
import Derived.Test.YtgljnmbbmjmkjaaGreatDoorPureT
import Derived.Test.YtgljnmbbmjmkjaaGreatDoorSpec3h
namespace Go.Proofs.YtgljnmbbmjmkjaaGreatDoor
open Go.RowKit
set_option maxRecDepth 8000
set_option linter.unusedSimpArgs false
set_option linter.unusedVariables false
theorem tyW {env : List (Nm × Tr)} {x : Ex} (henv : envOK env) (hty : tyEx x) (W : World) (q : Option Addr) (T : TypeId) (z : Value) (B : Nat) (hq : FrV W env (.pointer q)) (hv : EV W (fun k => B ≤ k ∧ k < W.heap.size) x (.iface T z)) :
    Calls Tryz.prog 61 #[.pointer q, .iface T z] W fun e w' => Ty3 W (fun k => k < W.heap.size) (tyR env x) e w' ∧ Below W.heap.size W w' :=
  ty_all x _ env q _ W henv hty (fun k hk => hk) hq.toO (hv.move (fun k hk => hk.2) (fun _ _ => rfl))
set_option maxHeartbeats 2000000 in
theorem implExprType_c (v1 v2 : Value) (ns : List Nm) (ts : List (List UInt8)) (s : ByteArray) (w : World) (h1 : StrS w v1 ns) (h2 : StrS w v2 ts) (hn : ∀ k (h : k < ns.length), ns[k].length ≤ 1048576) (ht : ∀ k (h : k < ts.length), ts[k].length ≤ 1048576) (hs : s.size ≤ 1048576) :
    Calls Tryz.prog 23 #[v1, v2, .string s] w fun e w' => LkPost (tyOf ns ts s.data.toList) e ∧ Below w.heap.size w w' := by
  have C := Lib.hid (readEnv_c v1 v2 ns ts w h1 h2 hn ht)
  obtain ⟨p1, c1, rfl, -, -⟩ := h1
  obtain ⟨p2, c2, rfl, -, -⟩ := h2
  cases he : envOf ns ts with
  | none =>
    have HR := Lib.hid (tyOf_env (l := s.data.toList) he)
    rw [he] at C
    clear hn ht he
    go_enter Tryz.func23, Tryz.ntmps23
    go_wp2_with (go_at_call 60; go_must (refine (C.out).mono ?_; rintro e w1 ⟨rfl, hb1⟩))
    go_ret2
    exact ⟨by rw [HR.out]; rfl, hb1⟩
  | some env =>
    have hok := envOf_ok he
    rw [he] at C
    cases hx : readEx s.data.toList with
    | none =>
      have HR := Lib.hid (tyOf_ex (ns := ns) (ts := ts) hx)
      have CX := Lib.hid (readExpr_none hs hx)
      clear hn ht he hx hok
      go_enter Tryz.func23, Tryz.ntmps23
      go_wp2_with (first | (go_at_call 60; go_must (refine (C.out).mono ?_; rintro e w1 ⟨⟨q, rfl, hq⟩, hb1⟩)) | (go_at_call 37; go_must (refine (CX.out _).mono ?_; rintro e w2 ⟨⟨v, rfl⟩, hb2⟩)))
      go_ret2
      exact ⟨by rw [HR.out]; rfl, (nextB (firstB hb1) hb2).1⟩
    | some x =>
      have CX := Lib.hid (readExpr_some hs hx)
      have hty := readEx_tyEx hx
      cases hr : tyR env x with
      | error f =>
        have HR := Lib.hid (tyOf_bad he hx hr)
        have CT : Hid (∀ W q T z B, FrV W env (.pointer q) → EV W (fun k => B ≤ k ∧ k < W.heap.size) x (.iface T z) → Calls Tryz.prog 61 #[.pointer q, .iface T z] W fun e w' => (∃ T2 z2, e = .returned (.tuple #[.agg #[.string ⟨#[]⟩, .slice none 0 0, .int .i64 0, .int .i64 0, .int .i64 0], .iface T2 z2])) ∧ Below W.heap.size W w') := Lib.hid (fun W q T z B k1 k2 => by
          have h := tyW hok hty W q T z B k1 k2
          rw [hr] at h
          exact h.mono fun e w' ⟨⟨T2, z2, h1, _⟩, h3⟩ => ⟨⟨T2, z2, h1⟩, h3⟩)
        clear hn ht he hx hok hty hr
        go_enter Tryz.func23, Tryz.ntmps23
        go_wp2_with (first | (go_at_call 60; go_must (refine (C.out).mono ?_; rintro e w1 ⟨⟨q, rfl, hq⟩, hb1⟩)) | (go_at_call 37; go_must (refine (CX.out _).mono ?_; rintro e w2 ⟨⟨v, rfl, hv⟩, hb2⟩; obtain ⟨T, z, rfl⟩ := hv.iface; have hq2 := hq.below hb2; clear hq)) | (go_at_call 61; go_must (refine (CT.out _ _ _ _ _ hq2 hv).mono ?_; rintro e w3 ⟨⟨T2, z2, rfl⟩, hb3⟩)))
        go_ret2
        exact ⟨by rw [HR.out]; rfl, (nextB (nextB (nextB (firstB hb1) hb2) hb3) (below1 _ _)).1⟩
      | ok t =>
        have HR := Lib.hid (tyOf_good he hx hr)
        obtain ⟨k1, k2, k3, k4, k5⟩ := isTyL_small (tyR_ok x env t hok hty hr)
        obtain ⟨u, t1, t2, t3, hu, ht1, ht2, ht3, hqq⟩ := nI_named t
        have CT : Hid (∀ W q T z B, FrV W env (.pointer q) → EV W (fun k => B ≤ k ∧ k < W.heap.size) x (.iface T z) → Calls Tryz.prog 61 #[.pointer q, .iface T z] W fun e w' => (∃ p m c, e = .returned (.tuple #[.agg #[.string u, .slice p m c, .int .i64 t1, .int .i64 t2, .int .i64 t3], .nilIface]) ∧ FV nI w' (fun k => k < w'.heap.size) t (nI t (.slice p m c))) ∧ Below W.heap.size W w') := Lib.hid (fun W q T z B k1 k2 => by
          have h := tyW hok hty W q T z B k1 k2
          rw [hr] at h
          rw [hu, ht1, ht2, ht3]
          exact h.mono fun e w' ⟨⟨p, m, c, h1, h2⟩, h3⟩ => ⟨⟨p, m, c, h1, h2.move (fun k hk => by have := h3.size; rcases hk with hk | hk <;> omega) (fun _ _ => rfl) _ _⟩, h3⟩)
        have TX : Hid (∀ (W : World) p m c, FV nI W (fun k => k < W.heap.size) t (nI t (.slice p m c)) → Calls Tryz.prog 62 #[.agg #[.string u, .slice p m c, .int .i64 t1, .int .i64 t2, .int .i64 t3]] W fun e w' => e = .returned (.string (bs t.text)) ∧ Below W.heap.size W w') :=
          Lib.hid (fun W p m c h1 => by rw [hu, ht1, ht2, ht3]; exact text_c t p m c _ W k1 (by omega) h1 (fun k hk => hk))
        clear hn ht he hx hok hty hr k1 k2 k3 k4 k5 hu ht1 ht2 ht3 hqq
        go_enter Tryz.func23, Tryz.ntmps23
        go_wp2_with (first | (go_at_call 60; go_must (refine (C.out).mono ?_; rintro e w1 ⟨⟨q, rfl, hq⟩, hb1⟩)) | (go_at_call 37; go_must (refine (CX.out _).mono ?_; rintro e w2 ⟨⟨v, rfl, hv⟩, hb2⟩; obtain ⟨T, z, rfl⟩ := hv.iface; have hq2 := hq.below hb2; clear hq)) | (go_at_call 61; go_must (refine (CT.out _ _ _ _ _ hq2 hv).mono ?_; rintro e w3 ⟨⟨p, m, c, rfl, hf⟩, hb3⟩; have V2 := Lib.hid (hf.on (below1 w3 (.cells #[.string u, .slice p m c, .int .i64 t1, .int .i64 t2, .int .i64 t3] 66))); clear hf)) | (go_at_call 62; go_must (refine (TX.out _ _ _ _ V2.out).mono ?_; rintro e w4 ⟨rfl, hb4⟩)))
        go_ret2
        exact ⟨by rw [HR.out]; rfl, (nextB (nextB (nextB (nextB (firstB hb1) hb2) hb3) (below1 _ _)) hb4).1⟩
theorem strS_none {w : World} : StrS w (.slice none 0 0) [] := ⟨none, 0, rfl, by simp, fun h => absurd rfl h⟩
set_option maxHeartbeats 1000000 in
theorem implExprTyped_c (s : ByteArray) (hs : s.size ≤ 1048576) (w : World) :
    Calls Tryz.prog 25 #[.string s] w fun e w' => e = .returned (.bool (typedOf s.data.toList)) ∧ Below w.heap.size w w' := by
  have C : Hid (∀ W, Calls Tryz.prog 23 #[.slice none 0 0, .slice none 0 0, .string s] W fun e w' => LkPost (tyOf [] [] s.data.toList) e ∧ Below W.heap.size W w') := Lib.hid (fun W => implExprType_c _ _ [] [] s W strS_none strS_none (fun k h => by simp at h) (fun k h => by simp at h) hs)
  obtain ⟨R, hR⟩ : ∃ R, R = tyOf [] [] s.data.toList := ⟨_, rfl⟩
  have HR := Lib.hid hR
  rw [← hR] at C
  clear hR
  go_enter Tryz.func25, Tryz.ntmps25
  go_wp2_with (go_at_call 23; go_must (refine (C.out _).mono ?_; rintro e w1 ⟨hp, hb1⟩; obtain rfl := hp))
  go_ret
  exact ⟨by rw [typedOf, ← HR.out]; rfl, hb1⟩
end Go.Proofs.YtgljnmbbmjmkjaaGreatDoor
namespace Go.Proofs.YtgljnmbbmjmkjaaGreatDoor
open Go.RowKit
set_option maxRecDepth 8000
set_option linter.unusedSimpArgs false
set_option linter.unusedVariables false
theorem below_drewR (w : World) (m N : Nat) : Below N w (w.drewN m) := ⟨rfl, rfl, rfl, Nat.le_refl _, fun _ _ => rfl⟩
set_option maxHeartbeats 4000000 in
theorem walk_FnExactExprType (w : World) (v : Value) (l : List (List UInt8)) (h : StrS w v l) (hm : ∀ x ∈ l, x.length ≤ 9223372036854775807) (u : Value) (k : List (List UInt8)) (g : StrS w u k) (gm : ∀ x ∈ k, x.length ≤ 9223372036854775807) (a2 : ByteArray) (w2 : a2.size ≤ maxLen) :
    Calls Tryz.prog 8 #[v, u, .string a2] w fun e w' => e = .returned (.bool true) ∧ Below w.heap.size w w' := by
  by_cases hs0 : a2.size ≤ 1048576
  · have hd0 : decide (1048576 < (a2.size : Int)) = false := by simp; omega
    have SZ1 : Hid (∀ W, W = w → Calls Tryz.prog 29 #[v, .int .i64 1048576] W fun e w' => e = .returned (.int .i64 (leftS l 1048576)) ∧ w' = W) := Lib.hid (fun W hW => by subst hW; exact szS_c v l 1048576 (Nat.le_refl _) W h hm)
    by_cases hsz : l.length + lens l ≤ 1048576
    · obtain ⟨n, hn, hn2⟩ := leftS_nonneg hsz
      rw [hn] at SZ1
      have hneg : decide ((n : Int) < 0) = false := by simp
      have SZ2 : Hid (∀ W, W = w → Calls Tryz.prog 29 #[u, .int .i64 n] W fun e w' => e = .returned (.int .i64 (leftS k n)) ∧ w' = W) := Lib.hid (fun W hW => by subst hW; exact szS_c u k n hn2 W g gm)
      by_cases hsz2 : k.length + lens k ≤ n
      · obtain ⟨n2, hn3, hn4⟩ := leftS_nonneg hsz2
        rw [hn3] at SZ2
        have hneg2 : decide ((n2 : Int) < 0) = false := by simp
        have hl1 : ∀ j (hj : j < l.length), l[j].length ≤ 1048576 := fun j hj => by have := length_le_lens l j hj; omega
        have hl2 : ∀ j (hj : j < k.length), k[j].length ≤ 1048576 := fun j hj => by have := length_le_lens k j hj; omega
        obtain ⟨x, z, hx⟩ : ∃ x z, ∀ e : Ending, LkPost (tyOf l k a2.data.toList) e → e = .returned (.tuple #[.string x, .bool z]) := ⟨_, _, fun _ h => h⟩
        have C1 : Hid (∀ W v u, StrS W v l → StrS W u k → Calls Tryz.prog 24 #[v, u, .string a2] W fun e w' => e = .returned (.tuple #[.string x, .bool z]) ∧ Below W.heap.size W w') := Lib.hid (fun W v u hv hu => (specExprType_c v u l k a2 W hv hu hl1 hl2 hs0).mono fun e w' ⟨k1, k2⟩ => ⟨hx e k1, k2⟩)
        have C2 : Hid (∀ W v u, StrS W v l → StrS W u k → Calls Tryz.prog 23 #[v, u, .string a2] W fun e w' => e = .returned (.tuple #[.string x, .bool z]) ∧ Below W.heap.size W w') := Lib.hid (fun W v u hv hu => (implExprType_c v u l k a2 W hv hu hl1 hl2 hs0).mono fun e w' ⟨k1, k2⟩ => ⟨hx e k1, k2⟩)
        have TS1 : Hid (∀ W, Below w.heap.size w W → Calls Tryz.prog 30 #[v] W fun e w' => CopyS W.heap.size l e w' ∧ Below W.heap.size W w') := Lib.hid (fun W hW => toS_c v l (by omega) W (h.below hW))
        have TS2 : Hid (∀ W, Below w.heap.size w W → Calls Tryz.prog 30 #[u] W fun e w' => CopyS W.heap.size k e w' ∧ Below W.heap.size W w') := Lib.hid (fun W hW => toS_c u k (by omega) W (g.below hW))
        have EQ : Hid (∀ W va vb x, StrS W va x → StrS W vb x → Calls Tryz.prog 31 #[va, vb] W fun e w' => e = .returned (.bool true) ∧ ∃ n, w' = W.drewN n) := Lib.hid (fun W va vb x k1 k2 => (eqS_c va vb x x W k1 k2).mono fun e w' ⟨k3, k4⟩ => ⟨by rw [k3]; simp, k4⟩)
        have B0 := Lib.hid (Below.refl w.heap.size w)
        clear hx h hm hn hsz g gm hn3 hsz2 hl1 hl2
        go_enter Tryz.func8, Tryz.ntmps8
        go_wp2_with (go_at_call 29; first | ((with_reducible refine (SZ1.out _ rfl).mono ?_); rintro e w0 ⟨rfl, rfl⟩) | ((with_reducible refine (SZ2.out _ rfl).mono ?_); rintro e w0 ⟨rfl, rfl⟩))
        refine (TS1.out _ B0.out).mono ?_
        rintro e w1 ⟨⟨v1, rfl, hv1, ho1⟩, hb1⟩
        go_wp2_with fail
        have B1 := Lib.hid hb1
        refine (TS2.out _ B1.out).mono ?_
        rintro e w2 ⟨⟨u1, rfl, hu1, ho2⟩, hb2⟩
        have B2 := Lib.hid (B1.out.trans (hb2.mono B1.out.size))
        go_wp2_with fail
        refine (C1.out _ v1 u1 (hv1.below hb2) hu1).mono ?_
        rintro e w3 ⟨rfl, hb3⟩
        have B3 := Lib.hid (B2.out.trans (hb3.mono B2.out.size))
        go_wp2_with fail
        refine (TS1.out _ B3.out).mono ?_
        rintro e w4 ⟨⟨v4, rfl, hv4, ho4⟩, hb4⟩
        have B4 := Lib.hid (B3.out.trans (hb4.mono B3.out.size))
        go_wp2_with fail
        refine (TS2.out _ B4.out).mono ?_
        rintro e w5 ⟨⟨u5, rfl, hu5, ho5⟩, hb5⟩
        have B5 := Lib.hid (B4.out.trans (hb5.mono B4.out.size))
        have hv5 := hv4.below hb5
        go_wp2_with fail
        refine (C2.out _ v4 u5 hv5 hu5).mono ?_
        rintro e w6 ⟨rfl, hb6⟩
        have B6 := Lib.hid (B5.out.trans (hb6.mono B5.out.size))
        have hv6 := hv5.below hb6
        have hu6 := hu5.below hb6
        go_wp2_with fail
        refine (TS1.out _ B6.out).mono ?_
        rintro e w7 ⟨⟨v7, rfl, hv7, ho7⟩, hb7⟩
        have B7 := Lib.hid (B6.out.trans (hb7.mono B6.out.size))
        have hv8 := hv6.below hb7
        have hu8 := hu6.below hb7
        go_wp2_with fail
        refine (EQ.out _ v4 v7 l hv8 hv7).mono ?_
        rintro e w8 ⟨rfl, n8, rfl⟩
        have B8 := Lib.hid (B7.out.trans (below_drewR w7 n8 _))
        have hu9 : StrS (w7.drewN n8) u5 k := hu8
        go_wp2_with fail
        refine (TS2.out _ B8.out).mono ?_
        rintro e w9 ⟨⟨u9, rfl, hu10, ho9⟩, hb9⟩
        have B9 := Lib.hid (B8.out.trans (hb9.mono B8.out.size))
        have hu11 := hu9.below hb9
        go_wp2_with fail
        refine (EQ.out _ u5 u9 k hu11 hu10).mono ?_
        rintro e w10 ⟨rfl, n10, rfl⟩
        go_wp2_with fail
        go_ret
        exact ⟨rfl, B9.out.trans ⟨rfl, rfl, rfl, Nat.le_refl _, fun _ _ => rfl⟩⟩
      · rw [leftS_neg hsz2] at SZ2
        clear h hm g gm
        go_enter Tryz.func8, Tryz.ntmps8
        go_wp2_with (go_at_call 29; first | ((with_reducible refine (SZ1.out _ rfl).mono ?_); rintro e w0 ⟨rfl, rfl⟩) | ((with_reducible refine (SZ2.out _ rfl).mono ?_); rintro e w0 ⟨rfl, rfl⟩))
        go_ret
        exact ⟨rfl, Below.refl _ _⟩
    · rw [leftS_neg hsz] at SZ1
      clear h hm g gm
      go_enter Tryz.func8, Tryz.ntmps8
      go_wp2_with (go_at_call 29; go_must (refine (SZ1.out _ rfl).mono ?_; rintro e w0 ⟨rfl, rfl⟩))
      go_ret
      exact ⟨rfl, Below.refl _ _⟩
  · have hd0 : decide (1048576 < (a2.size : Int)) = true := by simp; omega
    have hm0 := maxLen_le w2
    clear h hm g gm
    go_enter Tryz.func8, Tryz.ntmps8
    go_wp2_with fail
    go_ret
    exact ⟨rfl, Below.refl _ _⟩
set_option maxHeartbeats 1000000 in
theorem walk_FnExactExprTyped (a0 : ByteArray) (w0 : a0.size ≤ maxLen) (w : World) :
    Calls Tryz.prog 9 #[.string a0] w fun e w' => e = .returned (.bool true) ∧ Below w.heap.size w w' := by
  by_cases h0 : a0.size ≤ 1048576
  · have hd0 : decide (1048576 < (a0.size : Int)) = false := by simp; omega
    obtain ⟨x0, hx⟩ : ∃ x0, x0 = typedOf a0.data.toList := ⟨_, rfl⟩
    have C1 : Hid (∀ W, Calls Tryz.prog 32 #[.string a0] W fun e w' => e = .returned (.bool x0) ∧ Below W.heap.size W w') := Lib.hid (fun W => by rw [hx]; exact specExprTyped_c a0 h0 W)
    have C2 : Hid (∀ W, Calls Tryz.prog 25 #[.string a0] W fun e w' => e = .returned (.bool x0) ∧ Below W.heap.size W w') := Lib.hid (fun W => by rw [hx]; exact implExprTyped_c a0 h0 W)
    clear hx
    go_enter Tryz.func9, Tryz.ntmps9
    go_wp2_with (first | (go_at_call 32; go_must (refine (C1.out _).mono ?_; rintro e w1 ⟨rfl, hb1⟩)) | (go_at_call 25; go_must (refine (C2.out _).mono ?_; rintro e w2 ⟨rfl, hb2⟩)))
    go_ret
    exact ⟨rfl, hb1.trans (hb2.mono hb1.size)⟩
  · have hd0 : decide (1048576 < (a0.size : Int)) = true := by simp; omega
    have hm0 := maxLen_le w0
    go_enter Tryz.func9, Tryz.ntmps9
    go_wp2_with fail
    go_ret
    exact ⟨rfl, Below.refl _ _⟩
end Go.Proofs.YtgljnmbbmjmkjaaGreatDoor
