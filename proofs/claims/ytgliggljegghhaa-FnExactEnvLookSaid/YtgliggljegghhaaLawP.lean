/- The walks of the laws on EnvValid and EnvLook. -/
import Derived.Test.YtgliggljegghhaaImpl3c
namespace Go.Proofs.Ytgliggljegghhaa
open Go.RowKit
set_option linter.unusedSimpArgs false
set_option linter.unusedVariables false
theorem below_drewP (w : World) (m N : Nat) : Below N w (w.drewN m) := ⟨rfl, rfl, rfl, Nat.le_refl _, fun _ _ => rfl⟩
set_option maxHeartbeats 4000000 in
theorem walk_FnExactEnvValid (w : World) (v : Value) (l : List (List UInt8)) (h : StrS w v l) (hm : ∀ x ∈ l, x.length ≤ 9223372036854775807) (u : Value) (k : List (List UInt8)) (g : StrS w u k) (gm : ∀ x ∈ k, x.length ≤ 9223372036854775807) :
    Calls Try.prog 6 #[v, u] w fun e w' => e = .returned (.bool true) ∧ Below w.heap.size w w' := by
  have SZ1 : Hid (∀ W, W = w → Calls Try.prog 14 #[v, .int .i64 1048576] W fun e w' => e = .returned (.int .i64 (leftS l 1048576)) ∧ w' = W) := Lib.hid (fun W hW => by subst hW; exact szS_c v l 1048576 (Nat.le_refl _) W h hm)
  by_cases hsz : l.length + lens l ≤ 1048576
  · obtain ⟨n, hn, hn2⟩ := leftS_nonneg hsz
    rw [hn] at SZ1
    have hneg : decide ((n : Int) < 0) = false := by simp
    have SZ2 : Hid (∀ W, W = w → Calls Try.prog 14 #[u, .int .i64 n] W fun e w' => e = .returned (.int .i64 (leftS k n)) ∧ w' = W) := Lib.hid (fun W hW => by subst hW; exact szS_c u k n hn2 W g gm)
    by_cases hsz2 : k.length + lens k ≤ n
    · obtain ⟨n2, hn3, hn4⟩ := leftS_nonneg hsz2
      rw [hn3] at SZ2
      have hneg2 : decide ((n2 : Int) < 0) = false := by simp
      have hl1 : ∀ j (hj : j < l.length), l[j].length ≤ 1048576 := fun j hj => by have := length_le_lens l j hj; omega
      have hl2 : ∀ j (hj : j < k.length), k[j].length ≤ 1048576 := fun j hj => by have := length_le_lens k j hj; omega
      obtain ⟨x, hx⟩ : ∃ x, ∀ e : Ending, e = .returned (.bool (envOf l k).isSome) → e = .returned (.bool x) := ⟨_, fun _ h => h⟩
      have C1 : Hid (∀ W v u, StrS W v l → StrS W u k → Calls Try.prog 15 #[v, u] W fun e w' => e = .returned (.bool x) ∧ Below W.heap.size W w') := Lib.hid (fun W v u hv hu => (specEnvValid_c v u l k W hv hu hl1 hl2).mono fun e w' ⟨k1, k2⟩ => ⟨hx e k1, k2⟩)
      have C2 : Hid (∀ W v u, StrS W v l → StrS W u k → Calls Try.prog 17 #[v, u] W fun e w' => e = .returned (.bool x) ∧ Below W.heap.size W w') := Lib.hid (fun W v u hv hu => (implEnvValid_c v u l k W hv hu hl1 hl2).mono fun e w' ⟨k1, k2⟩ => ⟨hx e k1, k2⟩)
      have TS1 : Hid (∀ W, Below w.heap.size w W → Calls Try.prog 16 #[v] W fun e w' => CopyS W.heap.size l e w' ∧ Below W.heap.size W w') := Lib.hid (fun W hW => toS_c v l (by omega) W (h.below hW))
      have TS2 : Hid (∀ W, Below w.heap.size w W → Calls Try.prog 16 #[u] W fun e w' => CopyS W.heap.size k e w' ∧ Below W.heap.size W w') := Lib.hid (fun W hW => toS_c u k (by omega) W (g.below hW))
      have EQ : Hid (∀ W va vb x, StrS W va x → StrS W vb x → Calls Try.prog 18 #[va, vb] W fun e w' => e = .returned (.bool true) ∧ ∃ n, w' = W.drewN n) := Lib.hid (fun W va vb x k1 k2 => (eqS_c va vb x x W k1 k2).mono fun e w' ⟨k3, k4⟩ => ⟨by rw [k3]; simp, k4⟩)
      have B0 := Lib.hid (Below.refl w.heap.size w)
      clear hx h hm hn hsz g gm hn3 hsz2 hl1 hl2
      go_enter Try.func6, Try.ntmps6
      go_wp2_with (go_at_call 14; first | ((with_reducible refine (SZ1.out _ rfl).mono ?_); rintro e w0 ⟨rfl, rfl⟩) | ((with_reducible refine (SZ2.out _ rfl).mono ?_); rintro e w0 ⟨rfl, rfl⟩))
      refine (TS1.out _ B0.out).mono ?_
      rintro e w1 ⟨⟨v1, rfl, hv1, ho1⟩, hb1⟩
      go_wp2_with fail
      have B1 := Lib.hid hb1
      refine (TS2.out _ B1.out).mono ?_
      rintro e w2 ⟨⟨u1, rfl, hu1, ho2⟩, hb2⟩
      have B2 := Lib.hid (B1.out.trans (hb2.mono B1.out.size))
      go_wp2_with fail
      refine (C1.out _ v1 u1 (hv1.below hb2) hu1).mono ?_
      rintro e w3 ⟨rfl, hb3⟩
      have B3 := Lib.hid (B2.out.trans (hb3.mono B2.out.size))
      go_wp2_with fail
      refine (TS1.out _ B3.out).mono ?_
      rintro e w4 ⟨⟨v4, rfl, hv4, ho4⟩, hb4⟩
      have B4 := Lib.hid (B3.out.trans (hb4.mono B3.out.size))
      go_wp2_with fail
      refine (TS2.out _ B4.out).mono ?_
      rintro e w5 ⟨⟨u5, rfl, hu5, ho5⟩, hb5⟩
      have B5 := Lib.hid (B4.out.trans (hb5.mono B4.out.size))
      have hv5 := hv4.below hb5
      go_wp2_with fail
      refine (C2.out _ v4 u5 hv5 hu5).mono ?_
      rintro e w6 ⟨rfl, hb6⟩
      have B6 := Lib.hid (B5.out.trans (hb6.mono B5.out.size))
      have hv6 := hv5.below hb6
      have hu6 := hu5.below hb6
      go_wp2_with fail
      refine (TS1.out _ B6.out).mono ?_
      rintro e w7 ⟨⟨v7, rfl, hv7, ho7⟩, hb7⟩
      have B7 := Lib.hid (B6.out.trans (hb7.mono B6.out.size))
      have hv8 := hv6.below hb7
      have hu8 := hu6.below hb7
      go_wp2_with fail
      refine (EQ.out _ v4 v7 l hv8 hv7).mono ?_
      rintro e w8 ⟨rfl, n8, rfl⟩
      have B8 := Lib.hid (B7.out.trans (below_drewP w7 n8 _))
      have hu9 : StrS (w7.drewN n8) u5 k := hu8
      go_wp2_with fail
      refine (TS2.out _ B8.out).mono ?_
      rintro e w9 ⟨⟨u9, rfl, hu10, ho9⟩, hb9⟩
      have B9 := Lib.hid (B8.out.trans (hb9.mono B8.out.size))
      have hu11 := hu9.below hb9
      go_wp2_with fail
      refine (EQ.out _ u5 u9 k hu11 hu10).mono ?_
      rintro e w10 ⟨rfl, n10, rfl⟩
      go_wp2_with fail
      go_ret
      exact ⟨rfl, B9.out.trans ⟨rfl, rfl, rfl, Nat.le_refl _, fun _ _ => rfl⟩⟩
    · rw [leftS_neg hsz2] at SZ2
      clear h hm g gm
      go_enter Try.func6, Try.ntmps6
      go_wp2_with (go_at_call 14; first | ((with_reducible refine (SZ1.out _ rfl).mono ?_); rintro e w0 ⟨rfl, rfl⟩) | ((with_reducible refine (SZ2.out _ rfl).mono ?_); rintro e w0 ⟨rfl, rfl⟩))
      go_ret
      exact ⟨rfl, Below.refl _ _⟩
  · rw [leftS_neg hsz] at SZ1
    clear h hm g gm
    go_enter Try.func6, Try.ntmps6
    go_wp2_with (go_at_call 14; go_must (refine (SZ1.out _ rfl).mono ?_; rintro e w0 ⟨rfl, rfl⟩))
    go_ret
    exact ⟨rfl, Below.refl _ _⟩
set_option maxHeartbeats 4000000 in
theorem walk_FnExactEnvLook (w : World) (v : Value) (l : List (List UInt8)) (h : StrS w v l) (hm : ∀ x ∈ l, x.length ≤ 9223372036854775807) (u : Value) (k : List (List UInt8)) (g : StrS w u k) (gm : ∀ x ∈ k, x.length ≤ 9223372036854775807) (a2 : ByteArray) (w2 : a2.size ≤ maxLen) :
    Calls Try.prog 7 #[v, u, .string a2] w fun e w' => e = .returned (.bool true) ∧ Below w.heap.size w w' := by
  by_cases hs0 : a2.size ≤ 1048576
  · have hd0 : decide (1048576 < (a2.size : Int)) = false := by simp; omega
    have SZ1 : Hid (∀ W, W = w → Calls Try.prog 14 #[v, .int .i64 1048576] W fun e w' => e = .returned (.int .i64 (leftS l 1048576)) ∧ w' = W) := Lib.hid (fun W hW => by subst hW; exact szS_c v l 1048576 (Nat.le_refl _) W h hm)
    by_cases hsz : l.length + lens l ≤ 1048576
    · obtain ⟨n, hn, hn2⟩ := leftS_nonneg hsz
      rw [hn] at SZ1
      have hneg : decide ((n : Int) < 0) = false := by simp
      have SZ2 : Hid (∀ W, W = w → Calls Try.prog 14 #[u, .int .i64 n] W fun e w' => e = .returned (.int .i64 (leftS k n)) ∧ w' = W) := Lib.hid (fun W hW => by subst hW; exact szS_c u k n hn2 W g gm)
      by_cases hsz2 : k.length + lens k ≤ n
      · obtain ⟨n2, hn3, hn4⟩ := leftS_nonneg hsz2
        rw [hn3] at SZ2
        have hneg2 : decide ((n2 : Int) < 0) = false := by simp
        have hl1 : ∀ j (hj : j < l.length), l[j].length ≤ 1048576 := fun j hj => by have := length_le_lens l j hj; omega
        have hl2 : ∀ j (hj : j < k.length), k[j].length ≤ 1048576 := fun j hj => by have := length_le_lens k j hj; omega
        obtain ⟨x, z, hx⟩ : ∃ x z, ∀ e : Ending, LkPost (lookOf l k a2.data.toList) e → e = .returned (.tuple #[.string x, .bool z]) := ⟨_, _, fun _ h => h⟩
        have C1 : Hid (∀ W v u, StrS W v l → StrS W u k → Calls Try.prog 19 #[v, u, .string a2] W fun e w' => e = .returned (.tuple #[.string x, .bool z]) ∧ Below W.heap.size W w') := Lib.hid (fun W v u hv hu => (specEnvLook_c v u l k a2 W hv hu hl1 hl2).mono fun e w' ⟨k1, k2⟩ => ⟨hx e k1, k2⟩)
        have C2 : Hid (∀ W v u, StrS W v l → StrS W u k → Calls Try.prog 20 #[v, u, .string a2] W fun e w' => e = .returned (.tuple #[.string x, .bool z]) ∧ Below W.heap.size W w') := Lib.hid (fun W v u hv hu => (implEnvLook_c v u l k a2 W hv hu hl1 hl2).mono fun e w' ⟨k1, k2⟩ => ⟨hx e k1, k2⟩)
        have TS1 : Hid (∀ W, Below w.heap.size w W → Calls Try.prog 16 #[v] W fun e w' => CopyS W.heap.size l e w' ∧ Below W.heap.size W w') := Lib.hid (fun W hW => toS_c v l (by omega) W (h.below hW))
        have TS2 : Hid (∀ W, Below w.heap.size w W → Calls Try.prog 16 #[u] W fun e w' => CopyS W.heap.size k e w' ∧ Below W.heap.size W w') := Lib.hid (fun W hW => toS_c u k (by omega) W (g.below hW))
        have EQ : Hid (∀ W va vb x, StrS W va x → StrS W vb x → Calls Try.prog 18 #[va, vb] W fun e w' => e = .returned (.bool true) ∧ ∃ n, w' = W.drewN n) := Lib.hid (fun W va vb x k1 k2 => (eqS_c va vb x x W k1 k2).mono fun e w' ⟨k3, k4⟩ => ⟨by rw [k3]; simp, k4⟩)
        have B0 := Lib.hid (Below.refl w.heap.size w)
        clear hx h hm hn hsz g gm hn3 hsz2 hl1 hl2
        go_enter Try.func7, Try.ntmps7
        go_wp2_with (go_at_call 14; first | ((with_reducible refine (SZ1.out _ rfl).mono ?_); rintro e w0 ⟨rfl, rfl⟩) | ((with_reducible refine (SZ2.out _ rfl).mono ?_); rintro e w0 ⟨rfl, rfl⟩))
        refine (TS1.out _ B0.out).mono ?_
        rintro e w1 ⟨⟨v1, rfl, hv1, ho1⟩, hb1⟩
        go_wp2_with fail
        have B1 := Lib.hid hb1
        refine (TS2.out _ B1.out).mono ?_
        rintro e w2 ⟨⟨u1, rfl, hu1, ho2⟩, hb2⟩
        have B2 := Lib.hid (B1.out.trans (hb2.mono B1.out.size))
        go_wp2_with fail
        refine (C1.out _ v1 u1 (hv1.below hb2) hu1).mono ?_
        rintro e w3 ⟨rfl, hb3⟩
        have B3 := Lib.hid (B2.out.trans (hb3.mono B2.out.size))
        go_wp2_with fail
        refine (TS1.out _ B3.out).mono ?_
        rintro e w4 ⟨⟨v4, rfl, hv4, ho4⟩, hb4⟩
        have B4 := Lib.hid (B3.out.trans (hb4.mono B3.out.size))
        go_wp2_with fail
        refine (TS2.out _ B4.out).mono ?_
        rintro e w5 ⟨⟨u5, rfl, hu5, ho5⟩, hb5⟩
        have B5 := Lib.hid (B4.out.trans (hb5.mono B4.out.size))
        have hv5 := hv4.below hb5
        go_wp2_with fail
        refine (C2.out _ v4 u5 hv5 hu5).mono ?_
        rintro e w6 ⟨rfl, hb6⟩
        have B6 := Lib.hid (B5.out.trans (hb6.mono B5.out.size))
        have hv6 := hv5.below hb6
        have hu6 := hu5.below hb6
        go_wp2_with fail
        refine (TS1.out _ B6.out).mono ?_
        rintro e w7 ⟨⟨v7, rfl, hv7, ho7⟩, hb7⟩
        have B7 := Lib.hid (B6.out.trans (hb7.mono B6.out.size))
        have hv8 := hv6.below hb7
        have hu8 := hu6.below hb7
        go_wp2_with fail
        refine (EQ.out _ v4 v7 l hv8 hv7).mono ?_
        rintro e w8 ⟨rfl, n8, rfl⟩
        have B8 := Lib.hid (B7.out.trans (below_drewP w7 n8 _))
        have hu9 : StrS (w7.drewN n8) u5 k := hu8
        go_wp2_with fail
        refine (TS2.out _ B8.out).mono ?_
        rintro e w9 ⟨⟨u9, rfl, hu10, ho9⟩, hb9⟩
        have B9 := Lib.hid (B8.out.trans (hb9.mono B8.out.size))
        have hu11 := hu9.below hb9
        go_wp2_with fail
        refine (EQ.out _ u5 u9 k hu11 hu10).mono ?_
        rintro e w10 ⟨rfl, n10, rfl⟩
        go_wp2_with fail
        go_ret
        exact ⟨rfl, B9.out.trans ⟨rfl, rfl, rfl, Nat.le_refl _, fun _ _ => rfl⟩⟩
      · rw [leftS_neg hsz2] at SZ2
        clear h hm g gm
        go_enter Try.func7, Try.ntmps7
        go_wp2_with (go_at_call 14; first | ((with_reducible refine (SZ1.out _ rfl).mono ?_); rintro e w0 ⟨rfl, rfl⟩) | ((with_reducible refine (SZ2.out _ rfl).mono ?_); rintro e w0 ⟨rfl, rfl⟩))
        go_ret
        exact ⟨rfl, Below.refl _ _⟩
    · rw [leftS_neg hsz] at SZ1
      clear h hm g gm
      go_enter Try.func7, Try.ntmps7
      go_wp2_with (go_at_call 14; go_must (refine (SZ1.out _ rfl).mono ?_; rintro e w0 ⟨rfl, rfl⟩))
      go_ret
      exact ⟨rfl, Below.refl _ _⟩
  · have hd0 : decide (1048576 < (a2.size : Int)) = true := by simp; omega
    have hm0 := maxLen_le w2
    clear h hm g gm
    go_enter Try.func7, Try.ntmps7
    go_wp2_with fail
    go_ret
    exact ⟨rfl, Below.refl _ _⟩
end Go.Proofs.Ytgliggljegghhaa
