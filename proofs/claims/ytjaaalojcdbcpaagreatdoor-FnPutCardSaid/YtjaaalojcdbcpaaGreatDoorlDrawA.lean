/- The reference's draws: an expression of a type, one step. The reference's draws: an expression of a type by what makes it; at every depth. -/
import Derived.Test.YtjaaalojcdbcpaaGreatDoorlLawBM
import Derived.Test.YtjaaalojcdbcpaaGreatDoorlImpl1rM
import Derived.OwnWalk
set_option maxHeartbeats 20000000
set_option linter.unusedVariables false
set_option linter.unusedSimpArgs false
namespace Go.Proofs.YtjaaalojcdbcpaaGreatDoor
open Go.RowKit Go.Proofs.Tryz
set_option maxRecDepth 8000
def Pp : Nat → Nat
 | 0 => 3
 | d + 1 => 3 * Pp d + 60
def Tt : Nat → Nat
 | 0 => 12000
 | d + 1 => 3 * Tt d + 20
def ExD (d : Nat) : Prop := ∀ (q : Nat) (a : Option Addr) (L c : Nat) (zs : List Int) (p : Nat) (w : World) (v1 v2 : Value) (n : Nat) (want : ByteArray), Rd w q a L c p zs → Sc w q v1 v2 n → n + 2 * d ≤ 1000 → want.size + 60 * d ≤ 1000 → p + Pp d ≤ 900000 →
    Calls prog 48 #[.pointer (some ⟨q, 0, none⟩), .agg #[v1, v2], .string want, .int .i64 (d : Nat)] w fun e w' => Ql q a L c p zs (Tt d) (Pp d) w e w'
def BuD (d : Nat) : Prop := ∀ (q : Nat) (a : Option Addr) (L c : Nat) (zs : List Int) (p : Nat) (w : World) (v1 v2 : Value) (n : Nat) (want : ByteArray), Rd w q a L c p zs → Sc w q v1 v2 n → n + 2 * (d + 1) ≤ 1000 → want.size + 60 * (d + 1) ≤ 1000 → p + (2 * Pp d + 50) ≤ 900000 →
    Calls prog 92 #[.pointer (some ⟨q, 0, none⟩), .agg #[v1, v2], .string want, .int .i64 ((d + 1 : Nat) : Int)] w fun e w' => Ql q a L c p zs (Tt (d + 1)) (2 * Pp d + 50) w e w'
theorem Tt_ge : ∀ d, 12000 ≤ Tt d
 | 0 => Nat.le_refl _
 | d + 1 => by have := Tt_ge d; simp only [Tt]; omega
theorem Tt_le {d : Nat} (h : d ≤ 4) : Tt d ≤ 1000000 := by
 match d, h with
 | 0, _ => decide
 | 1, _ => decide
 | 2, _ => decide
 | 3, _ => decide
 | 4, _ => decide
theorem Rd.drewD {w : World} {q : Nat} {a : Option Addr} {L c p : Nat} {zs : List Int} (h : Rd w q a L c p zs) : Rd w.drew q a L c p zs := h.below (Below.refl _ _).drew
theorem Z2u (s : ByteArray) : ∃ l : List UInt8, s = bs l := ⟨s.data.toList, Z5j rfl⟩
theorem l91Expr_zero (ho : ∀ s : ByteArray, s.size ≤ 1000 → OfC s) : ExD 0 := by
 intro q a L c zs p w v1 v2 n want h hs hn hw hp
 obtain ⟨ns, ts, ⟨hs1, -⟩, ⟨hs2, -⟩, -⟩ := id hs
 obtain ⟨p1, n1, c1, rfl⟩ := hs1.shape
 obtain ⟨p2, n2, c2, rfl⟩ := hs2.shape
 clear hs1 hs2
 have CL := H_ (fun W (hW : Below w.heap.size w W) => Z5e (.slice p1 n1 c1) (.slice p2 n2 c2) n want (h.below hW) (hs.only (Only.of hW)) (by omega) (by omega) (ho want (by omega)))
 have hb := H_ (Z5 w (.cells #[.slice p1 n1 c1, .slice p2 n2 c2] 78))
 clear h hs
 go_enter func48, ntmps48
 go_wp2_with fail
 refine (CL.out _ hb.out).mono ?_
 rintro e w5 ⟨s5, p5, rfl, b1, b2, hR5, ho5⟩
 go_wp2_with fail
 go_ret
 exact ⟨_, p5, rfl, b1, b2, hR5, (Only.of hb.out).trans ho5⟩
theorem l91Expr_step (d : Nat) (hd : d ≤ 3) (ih : ExD d) (ib : BuD d) : ExD (d + 1) := by
 intro q a L c zs p w v1 v2 n want h hs hn hw hp
 obtain ⟨ns, ts, ⟨hs1, -⟩, ⟨hs2, -⟩, -⟩ := id hs
 obtain ⟨p1, n1, c1, rfl⟩ := hs1.shape
 obtain ⟨p2, n2, c2, rfl⟩ := hs2.shape
 clear hs1 hs2
 have hq0 : q < w.heap.size := lt_of_block h.blk
 have hT1 : Tt (d + 1) = 3 * Tt d + 20 := rfl
 have hP1 : Pp (d + 1) = 3 * Pp d + 60 := rfl
 have hTb := Tt_ge d
 have hTl := Tt_le (d := d) (by omega)
 have IH := H_ ih
 have IB := H_ (ib q a L c zs)
 unfold Hid at IB
 rw [hT1] at IB
 rw [hP1] at hp
 rw [hT1, hP1]
 have IB := H_ IB
 unfold ExD at IH
 generalize Tt d = T at *
 generalize Pp d = P at *
 have hb := H_ (Z5 w (.cells #[.slice p1 n1 c1, .slice p2 n2 c2] 78))
 have CP := H_ (K6 (n := 12) (h.below hb.out) (by omega) (by omega))
 have hSw := H_ (hs.only (Only.of hb.out))
 have X0 := heap_alloc_new w (.cells #[.slice p1 n1 c1, .slice p2 n2 c2] 78)
 have hOb := H_ (Only.of (b := q) hb.out)
 clear ih ib h hs hT1 hP1
 rw [show ((d + 1 : Nat) : Int) = (d : Int) + 1 from by simp] at *
 have k0 : (((d : Int) + 1) == 0) = false := by simp; omega
 have k1 : IntKind.i64.wrap ((d : Int) + 1 - 1) = (d : Int) := by rw [IntKind.wrap_i64]; omega
 have k2 : ¬ (d : Int) + 1 = 0 := by omega
 go_enter func48, ntmps48
 go_wp2_with fail
 refine (CP.out).mono ?_
 rintro e w2 ⟨⟨k, rfl, hk0, hk1⟩, hR2, ho2⟩
 have y2 := ho2.blk X0 (by omega)
 have hsz2 := ho2.size
 have hSc0 := hSw.out.only ho2
 have hOw := H_ (hOb.out.trans ho2)
 have hBq : w.heap.size ≠ q := by omega
 have hBl := lt_of_block y2
 have hql : q < w2.heap.size := Nat.lt_of_lt_of_le (by simp; omega) hsz2
 obtain ⟨B, hB⟩ : ∃ B, B = w.heap.size := ⟨_, rfl⟩
 rw [← hB] at y2 hBq hBl ⊢
 have K : Hid (∀ W, Only q w2 W → (fun W => W.cell? ⟨B, 0, none⟩ = some (.slice p1 n1 c1) ∧ W.cell? ⟨B, 1, none⟩ = some (.slice p2 n2 c2)) W) := H_ (fun W hW => ⟨(hW.cell (p := ⟨B, 0, none⟩) hBl hBq).trans (Z4 (j := 0) y2), (hW.cell (p := ⟨B, 1, none⟩) hBl hBq).trans (Z4 (j := 1) y2)⟩)
 obtain ⟨cf0, cf1⟩ := Zh y2
 have HB := H_ hB
 clear CP hSw hOb hb X0 ho2 hB
 have hk : k = 0 ∨ k = 1 ∨ k = 2 ∨ k = 3 ∨ k = 4 ∨ k = 5 ∨ k = 6 ∨ k = 7 ∨ k = 8 ∨ k = 9 ∨ k = 10 ∨ k = 11 := by omega
 clear hk0 hk1
 rcases hk with rfl | rfl | rfl | rfl | rfl | rfl | rfl | rfl | rfl | rfl | rfl | rfl
 · skip
   have tk1 : True := trivial
   have tk2 : True := trivial
   have tk3 : True := trivial
   go_wp2_with fail
   have S0 := H_ (K.out _ (Only.refl q w2).drew)
   have hR3 := hR2.drewD
   have hQ3 : Only q w2 w2.drew := (Only.refl q w2).drew
   have hSc3 := hSc0.only hQ3
   first | (go_region_held3 (fun W => W.cell? ⟨B, 0, none⟩ = some (.slice p1 n1 c1) ∧ W.cell? ⟨B, 1, none⟩ = some (.slice p2 n2 c2)) (first | exact S0.out | assumption | fail) (first | (clear tk1; go_at_call 48; ((with_reducible refine (IH.out _ _ _ _ _ _ _ _ _ n _ hR3 hSc3 ?_ ?_ ?_).mono ?_); (· omega); (· show 1 + 60 * d ≤ 1000; omega); (· omega)); rintro e w4 ⟨s4, p4, rfl, a4, b4, hR4, hO4⟩; have hQ4 := hQ3.trans hO4; have hK4 := K.out _ hQ4; have hSc4 := hSc0.only hQ4; have := (show ¬ (9223372036854775807 : Nat) < 4 + s4.size by omega); have := (show ¬ (9223372036854775807 : Nat) < 4 + s4.size + 1 by omega)) | (clear tk2; go_at_call 48; ((with_reducible refine (IH.out _ _ _ _ _ _ _ _ _ n _ hR4 hSc4 ?_ ?_ ?_).mono ?_); (· omega); (· omega); (· omega)); rintro e w5 ⟨s5, p5, rfl, a5, b5, hR5, hO5⟩; have hQ5 := hQ4.trans hO5; have hK5 := K.out _ hQ5; have hSc5 := hSc0.only hQ5; have := (show ¬ (9223372036854775807 : Nat) < 4 + s4.size by omega); have := (show ¬ (9223372036854775807 : Nat) < 4 + s4.size + 1 by omega); have := (show ¬ (9223372036854775807 : Nat) < 4 + s4.size + 1 + s5.size by omega); have := (show ¬ (9223372036854775807 : Nat) < 4 + s4.size + 1 + s5.size + 1 by omega)) | (clear tk3; go_at_call 48; ((with_reducible refine (IH.out _ _ _ _ _ _ _ _ _ n _ hR5 hSc5 ?_ ?_ ?_).mono ?_); (· omega); (· omega); (· omega)); rintro e w6 ⟨s6, p6, rfl, a6, b6, hR6, hO6⟩; have hQ6 := hQ5.trans hO6; have hK6 := K.out _ hQ6; have hSc6 := hSc0.only hQ6; have := (show ¬ (9223372036854775807 : Nat) < 4 + s4.size by omega); have := (show ¬ (9223372036854775807 : Nat) < 4 + s4.size + 1 by omega); have := (show ¬ (9223372036854775807 : Nat) < 4 + s4.size + 1 + s5.size by omega); have := (show ¬ (9223372036854775807 : Nat) < 4 + s4.size + 1 + s5.size + 1 by omega); have := (show ¬ (9223372036854775807 : Nat) < 4 + s4.size + 1 + s5.size + 1 + s6.size by omega); have := (show ¬ (9223372036854775807 : Nat) < 4 + s4.size + 1 + s5.size + 1 + s6.size + 1 by omega)))) | fail
   all_goals
    go_wp2_with fail
    go_ret
    exact ⟨_, p6, rfl, by simp [bsz]; omega, by omega, hR6, hOw.out.trans hQ6⟩
 · skip
   have tk1 : True := trivial
   have tk2 : True := trivial
   have tk3 : True := trivial
   have CT := H_ ((Z09 1 (p + 1) w2 hR2 (by omega) (by omega)).mono fun e w' h => Ql.more (N' := 40) (M' := 40) h (by decide) (by decide))
   go_wp2_with fail
   refine (CT.out).mono ?_
   rintro e w3 ⟨kd, p3, rfl, a3, b3, hR3, hO3⟩
   have hQ3 : Only q w2 w3 := hO3
   have CN := H_ (Kp (l := [[97], [98], [99], [120, 49], [121, 48]]) (N := 2) hR3 (by omega) (by decide) (by decide) (by decide))
   go_wp2_with fail
   refine (CN.out).mono ?_
   rintro e w4 ⟨nm, p4, rfl, a4, b4, hR4, hO4⟩
   have hQ4 : Only q w2 w4 := hQ3.trans hO4
   obtain ⟨nl, rfl⟩ := Z2u nm
   obtain ⟨kl, rfl⟩ := Z2u kd
   have hnl : nl.length ≤ 10 := by rw [Y0] at a4; omega
   have CM : Hid (∀ W, Sc W q (.slice p1 n1 c1) (.slice p2 n2 c2) n → q < W.heap.size → Calls prog 90 #[.agg #[.slice p1 n1 c1, .slice p2 n2 c2], .string (bs nl), .string (bs kl)] W fun e w' => (∃ u1 u2, e = .returned (.agg #[u1, u2]) ∧ Sc w' q u1 u2 (n + 1)) ∧ Below W.heap.size W w') := H_ (fun W h1 h2 => Z19 q _ _ n nl kl W h1 (by omega) hnl h2)
   generalize bs nl = nm at *
   generalize bs kl = kd at *
   have := (show ¬ (9223372036854775807 : Nat) < 5 + nm.size by omega)
   have := (show ¬ (9223372036854775807 : Nat) < 5 + nm.size + 1 by omega)
   have S0 := H_ (K.out _ hQ4.drew)
   have hR5 := hR4.drewD
   have hQ5 : Only q w2 w4.drew := hQ4.drew
   have hSc5 := hSc0.only hQ5
   go_wp2_with fail
   first | (go_region_held3 (fun W => W.cell? ⟨B, 0, none⟩ = some (.slice p1 n1 c1) ∧ W.cell? ⟨B, 1, none⟩ = some (.slice p2 n2 c2)) (first | exact S0.out | assumption | fail) (first | (clear tk1; go_at_call 48; ((with_reducible refine (IH.out _ _ _ _ _ _ _ _ _ n _ hR5 hSc5 ?_ ?_ ?_).mono ?_); (· omega); (· omega); (· omega)); rintro e w6 ⟨s6, p6, rfl, a6, b6, hR6, hO6⟩; have hQ6 := hQ5.trans hO6; have hK6 := K.out _ hQ6; have hSc6 := hSc0.only hQ6; have := (show ¬ (9223372036854775807 : Nat) < 5 + nm.size by omega); have := (show ¬ (9223372036854775807 : Nat) < 5 + nm.size + 1 by omega); have := (show ¬ (9223372036854775807 : Nat) < 5 + nm.size + 1 + s6.size by omega); have := (show ¬ (9223372036854775807 : Nat) < 5 + nm.size + 1 + s6.size + 1 by omega)) | (go_at_call 90; ((with_reducible refine (CM.out _ hSc6 ?_).mono ?_); (· exact Nat.lt_of_lt_of_le hql hQ6.size); rintro e w7 ⟨⟨u1, u2, rfl, hSm⟩, hb7⟩; have hR7 := hR6.below hb7; have hQ7 := hQ6.trans (Only.of hb7); have hK7 := K.out _ hQ7)) | (clear tk2; go_at_call 48; ((with_reducible refine (IH.out _ _ _ _ _ _ _ _ _ (n + 1) _ hR7 hSm ?_ ?_ ?_).mono ?_); (· omega); (· omega); (· omega)); rintro e w8 ⟨s8, p8, rfl, a8, b8, hR8, hO8⟩; have hQ8 := hQ7.trans hO8; have hK8 := K.out _ hQ8; have hSc8 := hSc0.only hQ8; have := (show ¬ (9223372036854775807 : Nat) < 5 + nm.size by omega); have := (show ¬ (9223372036854775807 : Nat) < 5 + nm.size + 1 by omega); have := (show ¬ (9223372036854775807 : Nat) < 5 + nm.size + 1 + s6.size by omega); have := (show ¬ (9223372036854775807 : Nat) < 5 + nm.size + 1 + s6.size + 1 by omega); have := (show ¬ (9223372036854775807 : Nat) < 5 + nm.size + 1 + s6.size + 1 + s8.size by omega); have := (show ¬ (9223372036854775807 : Nat) < 5 + nm.size + 1 + s6.size + 1 + s8.size + 1 by omega)))) | fail
   all_goals
    go_wp2_with fail
    go_ret
    exact ⟨_, p8, rfl, by simp [bsz]; omega, by omega, hR8, hOw.out.trans hQ8⟩
 · skip
   have tk1 : True := trivial
   have tk2 : True := trivial
   have tk3 : True := trivial
   have CT := H_ ((Z09 1 (p + 1) w2 hR2 (by omega) (by omega)).mono fun e w' h => Ql.more (N' := 40) (M' := 40) h (by decide) (by decide))
   go_wp2_with fail
   refine (CT.out).mono ?_
   rintro e w3 ⟨kd, p3, rfl, a3, b3, hR3, hO3⟩
   have hQ3 : Only q w2 w3 := hO3
   have CN := H_ (Kp (l := [[97], [98], [99], [120, 49], [121, 48]]) (N := 2) hR3 (by omega) (by decide) (by decide) (by decide))
   go_wp2_with fail
   refine (CN.out).mono ?_
   rintro e w4 ⟨nm, p4, rfl, a4, b4, hR4, hO4⟩
   have hQ4 : Only q w2 w4 := hQ3.trans hO4
   obtain ⟨nl, rfl⟩ := Z2u nm
   obtain ⟨kl, rfl⟩ := Z2u kd
   have hnl : nl.length ≤ 10 := by rw [Y0] at a4; omega
   have CM : Hid (∀ W, Sc W q (.slice p1 n1 c1) (.slice p2 n2 c2) n → q < W.heap.size → Calls prog 90 #[.agg #[.slice p1 n1 c1, .slice p2 n2 c2], .string (bs nl), .string (bs kl)] W fun e w' => (∃ u1 u2, e = .returned (.agg #[u1, u2]) ∧ Sc w' q u1 u2 (n + 1)) ∧ Below W.heap.size W w') := H_ (fun W h1 h2 => Z19 q _ _ n nl kl W h1 (by omega) hnl h2)
   generalize bs nl = nm at *
   generalize bs kl = kd at *
   have := (show ¬ (9223372036854775807 : Nat) < 5 + nm.size by omega)
   have := (show ¬ (9223372036854775807 : Nat) < 5 + nm.size + 1 by omega)
   have S0 := H_ (K.out _ hQ4.drew)
   have hR5 := hR4.drewD
   have hQ5 : Only q w2 w4.drew := hQ4.drew
   have hSc5 := hSc0.only hQ5
   go_wp2_with fail
   first | (go_region_held3 (fun W => W.cell? ⟨B, 0, none⟩ = some (.slice p1 n1 c1) ∧ W.cell? ⟨B, 1, none⟩ = some (.slice p2 n2 c2)) (first | exact S0.out | assumption | fail) (first | (clear tk1; go_at_call 48; ((with_reducible refine (IH.out _ _ _ _ _ _ _ _ _ n _ hR5 hSc5 ?_ ?_ ?_).mono ?_); (· omega); (· omega); (· omega)); rintro e w6 ⟨s6, p6, rfl, a6, b6, hR6, hO6⟩; have hQ6 := hQ5.trans hO6; have hK6 := K.out _ hQ6; have hSc6 := hSc0.only hQ6; have := (show ¬ (9223372036854775807 : Nat) < 5 + nm.size by omega); have := (show ¬ (9223372036854775807 : Nat) < 5 + nm.size + 1 by omega); have := (show ¬ (9223372036854775807 : Nat) < 5 + nm.size + 1 + s6.size by omega); have := (show ¬ (9223372036854775807 : Nat) < 5 + nm.size + 1 + s6.size + 1 by omega)) | (go_at_call 90; ((with_reducible refine (CM.out _ hSc6 ?_).mono ?_); (· exact Nat.lt_of_lt_of_le hql hQ6.size); rintro e w7 ⟨⟨u1, u2, rfl, hSm⟩, hb7⟩; have hR7 := hR6.below hb7; have hQ7 := hQ6.trans (Only.of hb7); have hK7 := K.out _ hQ7)) | (clear tk2; go_at_call 48; ((with_reducible refine (IH.out _ _ _ _ _ _ _ _ _ (n + 1) _ hR7 hSm ?_ ?_ ?_).mono ?_); (· omega); (· omega); (· omega)); rintro e w8 ⟨s8, p8, rfl, a8, b8, hR8, hO8⟩; have hQ8 := hQ7.trans hO8; have hK8 := K.out _ hQ8; have hSc8 := hSc0.only hQ8; have := (show ¬ (9223372036854775807 : Nat) < 5 + nm.size by omega); have := (show ¬ (9223372036854775807 : Nat) < 5 + nm.size + 1 by omega); have := (show ¬ (9223372036854775807 : Nat) < 5 + nm.size + 1 + s6.size by omega); have := (show ¬ (9223372036854775807 : Nat) < 5 + nm.size + 1 + s6.size + 1 by omega); have := (show ¬ (9223372036854775807 : Nat) < 5 + nm.size + 1 + s6.size + 1 + s8.size by omega); have := (show ¬ (9223372036854775807 : Nat) < 5 + nm.size + 1 + s6.size + 1 + s8.size + 1 by omega)))) | fail
   all_goals
    go_wp2_with fail
    go_ret
    exact ⟨_, p8, rfl, by simp [bsz]; omega, by omega, hR8, hOw.out.trans hQ8⟩
 · skip
   have tk1 : True := trivial
   have tk2 : True := trivial
   have tk3 : True := trivial
   have CT := H_ ((Z09 1 (p + 1) w2 hR2 (by omega) (by omega)).mono fun e w' h => Ql.more (N' := 40) (M' := 40) h (by decide) (by decide))
   go_wp2_with fail
   refine (CT.out).mono ?_
   rintro e w3 ⟨kd, p3, rfl, a3, b3, hR3, hO3⟩
   have hQ3 : Only q w2 w3 := hO3
   have := (show ¬ (9223372036854775807 : Nat) < 3 + kd.size by omega)
   have := (show ¬ (9223372036854775807 : Nat) < 3 + kd.size + 1 by omega)
   have := (show ¬ (9223372036854775807 : Nat) < 3 + kd.size + 1 + want.size by omega)
   have := (show ¬ (9223372036854775807 : Nat) < 3 + kd.size + 1 + want.size + 1 by omega)
   have S0 := H_ (K.out _ hQ3.drew)
   have hR4 := hR3.drewD
   have hQ4 : Only q w2 w3.drew := hQ3.drew
   have hSc4 := hSc0.only hQ4
   go_wp2_with fail
   first | (go_region_held3 (fun W => W.cell? ⟨B, 0, none⟩ = some (.slice p1 n1 c1) ∧ W.cell? ⟨B, 1, none⟩ = some (.slice p2 n2 c2)) (first | exact S0.out | assumption | fail) (first | (clear tk1; go_at_call 48; ((with_reducible refine (IH.out _ _ _ _ _ _ _ _ _ n _ hR4 hSc4 ?_ ?_ ?_).mono ?_); (· omega); (· first | omega | (simp [bsz]; omega)); (· omega)); rintro e w5 ⟨s5, p5, rfl, a5, b5, hR5, hO5⟩; have hQ5 := hQ4.trans hO5; have hK5 := K.out _ hQ5; have hSc5 := hSc0.only hQ5; have := (show ¬ (9223372036854775807 : Nat) < 6 + s5.size by omega); have := (show ¬ (9223372036854775807 : Nat) < 6 + s5.size + 1 by omega)) | (clear tk2; go_at_call 48; ((with_reducible refine (IH.out _ _ _ _ _ _ _ _ _ n _ hR5 hSc5 ?_ ?_ ?_).mono ?_); (· omega); (· omega); (· omega)); rintro e w6 ⟨s6, p6, rfl, a6, b6, hR6, hO6⟩; have hQ6 := hQ5.trans hO6; have hK6 := K.out _ hQ6; have hSc6 := hSc0.only hQ6; have := (show ¬ (9223372036854775807 : Nat) < 6 + s5.size by omega); have := (show ¬ (9223372036854775807 : Nat) < 6 + s5.size + 1 by omega); have := (show ¬ (9223372036854775807 : Nat) < 6 + s5.size + 1 + s6.size by omega); have := (show ¬ (9223372036854775807 : Nat) < 6 + s5.size + 1 + s6.size + 1 by omega)))) | fail
   all_goals
    go_wp2_with fail
    go_ret
    exact ⟨_, p6, rfl, by simp [bsz]; omega, by omega, hR6, hOw.out.trans hQ6⟩
 · skip
   have tk1 : True := trivial
   have tk2 : True := trivial
   have tk3 : True := trivial
   have CT := H_ ((Z09 1 (p + 1) w2 hR2 (by omega) (by omega)).mono fun e w' h => Ql.more (N' := 40) (M' := 40) h (by decide) (by decide))
   go_wp2_with fail
   refine (CT.out).mono ?_
   rintro e w3 ⟨kd, p3, rfl, a3, b3, hR3, hO3⟩
   have hQ3 : Only q w2 w3 := hO3
   have := (show ¬ (9223372036854775807 : Nat) < 3 + kd.size by omega)
   have := (show ¬ (9223372036854775807 : Nat) < 3 + kd.size + 1 by omega)
   have := (show ¬ (9223372036854775807 : Nat) < 3 + kd.size + 1 + want.size by omega)
   have := (show ¬ (9223372036854775807 : Nat) < 3 + kd.size + 1 + want.size + 1 by omega)
   have S0 := H_ (K.out _ hQ3.drew)
   have hR4 := hR3.drewD
   have hQ4 : Only q w2 w3.drew := hQ3.drew
   have hSc4 := hSc0.only hQ4
   go_wp2_with fail
   first | (go_region_held3 (fun W => W.cell? ⟨B, 0, none⟩ = some (.slice p1 n1 c1) ∧ W.cell? ⟨B, 1, none⟩ = some (.slice p2 n2 c2)) (first | exact S0.out | assumption | fail) (first | (clear tk1; go_at_call 48; ((with_reducible refine (IH.out _ _ _ _ _ _ _ _ _ n _ hR4 hSc4 ?_ ?_ ?_).mono ?_); (· omega); (· first | omega | (simp [bsz]; omega)); (· omega)); rintro e w5 ⟨s5, p5, rfl, a5, b5, hR5, hO5⟩; have hQ5 := hQ4.trans hO5; have hK5 := K.out _ hQ5; have hSc5 := hSc0.only hQ5; have := (show ¬ (9223372036854775807 : Nat) < 6 + s5.size by omega); have := (show ¬ (9223372036854775807 : Nat) < 6 + s5.size + 1 by omega)) | (clear tk2; go_at_call 48; ((with_reducible refine (IH.out _ _ _ _ _ _ _ _ _ n _ hR5 hSc5 ?_ ?_ ?_).mono ?_); (· omega); (· omega); (· omega)); rintro e w6 ⟨s6, p6, rfl, a6, b6, hR6, hO6⟩; have hQ6 := hQ5.trans hO6; have hK6 := K.out _ hQ6; have hSc6 := hSc0.only hQ6; have := (show ¬ (9223372036854775807 : Nat) < 6 + s5.size by omega); have := (show ¬ (9223372036854775807 : Nat) < 6 + s5.size + 1 by omega); have := (show ¬ (9223372036854775807 : Nat) < 6 + s5.size + 1 + s6.size by omega); have := (show ¬ (9223372036854775807 : Nat) < 6 + s5.size + 1 + s6.size + 1 by omega)))) | fail
   all_goals
    go_wp2_with fail
    go_ret
    exact ⟨_, p6, rfl, by simp [bsz]; omega, by omega, hR6, hOw.out.trans hQ6⟩
 · skip
   go_wp2_with fail
   refine (IH.out q a L c zs (p + 1) _ _ _ n _ hR2 hSc0 (by omega) (by simp [bsz]; omega) (by omega)).mono ?_
   rintro e w3 ⟨s3, p3, rfl, a3, b3, hR3, hO3⟩
   go_wp2_with fail
   go_ret
   exact ⟨_, p3, rfl, by simp [bsz]; omega, by omega, hR3, hOw.out.trans hO3⟩
 · skip
   go_wp2_with fail
   refine (IH.out q a L c zs (p + 1) _ _ _ n _ hR2 hSc0 (by omega) (by simp [bsz]; omega) (by omega)).mono ?_
   rintro e w3 ⟨s3, p3, rfl, a3, b3, hR3, hO3⟩
   go_wp2_with fail
   go_ret
   exact ⟨_, p3, rfl, by simp [bsz]; omega, by omega, hR3, hOw.out.trans hO3⟩
 · skip
   by_cases hw0 : want.toList = [105]
   · have hw2 : (want.toList == [105]) = true := by simpa using hw0
     have CL := H_ (l91Loop_d hR2 (by omega))
     go_wp2_with fail
     refine (CL.out).mono ?_
     rintro e w3 ⟨s3, p3, rfl, a3, b3, hR3, hO3⟩
     go_wp2_with fail
     go_ret
     exact ⟨_, p3, rfl, by omega, by omega, hR3, hOw.out.trans hO3⟩
   · have hw2 : (want.toList == [105]) = false := by simpa using hw0
     go_wp2_with fail
     refine (IB.out (p + 1) _ _ _ n _ hR2 hSc0 (by omega) (by omega) (by omega)).mono ?_
     rintro e w3 ⟨s3, p3, rfl, a3, b3, hR3, hO3⟩
     go_wp2_with fail
     go_ret
     exact ⟨_, p3, rfl, a3, by omega, hR3, hOw.out.trans hO3⟩
 · skip
   go_wp2_with fail
   refine (IB.out (p + 1) _ _ _ n _ hR2 hSc0 (by omega) (by omega) (by omega)).mono ?_
   rintro e w3 ⟨s3, p3, rfl, a3, b3, hR3, hO3⟩
   go_wp2_with fail
   go_ret
   exact ⟨_, p3, rfl, a3, by omega, hR3, hOw.out.trans hO3⟩
 · skip
   go_wp2_with fail
   refine (IB.out (p + 1) _ _ _ n _ hR2 hSc0 (by omega) (by omega) (by omega)).mono ?_
   rintro e w3 ⟨s3, p3, rfl, a3, b3, hR3, hO3⟩
   go_wp2_with fail
   go_ret
   exact ⟨_, p3, rfl, a3, by omega, hR3, hOw.out.trans hO3⟩
 · skip
   go_wp2_with fail
   refine (IB.out (p + 1) _ _ _ n _ hR2 hSc0 (by omega) (by omega) (by omega)).mono ?_
   rintro e w3 ⟨s3, p3, rfl, a3, b3, hR3, hO3⟩
   go_wp2_with fail
   go_ret
   exact ⟨_, p3, rfl, a3, by omega, hR3, hOw.out.trans hO3⟩
 · skip
   go_wp2_with fail
   refine (IB.out (p + 1) _ _ _ n _ hR2 hSc0 (by omega) (by omega) (by omega)).mono ?_
   rintro e w3 ⟨s3, p3, rfl, a3, b3, hR3, hO3⟩
   go_wp2_with fail
   go_ret
   exact ⟨_, p3, rfl, a3, by omega, hR3, hOw.out.trans hO3⟩
theorem sides_len {hd l x y : List UInt8} (h : Kg hd l = some (x, y)) : x.length ≤ l.length ∧ y.length ≤ l.length := by
 unfold Kg at h
 cases hr : Qk l with
 | none => simp [hr] at h
 | some t =>
   simp only [hr, Option.bind_some] at h
   have g := Z74 hr
   match t, h, g with
   | .atom a, h, g => simp [Z0z] at h
   | .list [], h, g => simp [Z0z] at h
   | .list [_], h, g => simp [Z0z] at h
   | .list [_, _], h, g => simp [Z0z] at h
   | .list [u, a, b], h, g =>
     simp only [Z0z] at h
     split at h
     · simp only [Option.some.injEq, Prod.mk.injEq] at h
       obtain ⟨rfl, rfl⟩ := h
       have hw := g.1
       simp only [Tr.wf, wfs] at hw
       rw [g.2.2.2.1, Y4 _ g.1, Y4 _ hw.2.2.1, Y4 _ hw.2.2.2.1]
       simp only [Tr.bytes, Zi]
       omega
     · cases h
   | .list (_ :: _ :: _ :: _ :: _), h, g => simp [Z0z] at h
theorem Rd.far {w2 W : World} {q : Nat} {a : Option Addr} {L c p p2 : Nat} {zs : List Int} (h2 : Rd w2 q a L c p2 zs) (h : RdD W q a L c p) (ho : Only q w2 W) : Rd W q a L c p zs := ⟨h, h2.row.only ho h2.ne, h2.ne, h2.len⟩
theorem ScL.set {W : World} {q B : Nat} {v : Value} {l : List Nm} {p1 p2 : Option Addr} {n1 c1 n2 c2 : Nat} {T : TypeId} (h : ScL W q v l) (hb : W.heap[B]? = some (.cells #[.slice p1 n1 c1, .slice p2 n2 c2] T (0, 0))) (j : Nat) (u : Value) : ScL (W.setCell ⟨B, j, none⟩ u) q v l := by
 obtain ⟨⟨p, c, rfl, h1, h2⟩, h3⟩ := h
 refine ⟨⟨p, c, rfl, h1, fun hne => ?_⟩, fun k hk => ⟨(h3 k hk).1, by simpa using (h3 k hk).2⟩⟩
 obtain ⟨r, off, rfl, h4⟩ := h2 hne
 refine ⟨r, off, rfl, h4.move (Z3 _ ?_)⟩
 rintro rfl
 cases l with
 | nil => exact hne rfl
 | cons x l =>
   have hc := h4 0 (Y3 x) (by simp)
   rw [Z4 hb] at hc
   match off, hc with
   | 0, hc => simp [Y3] at hc
   | 1, hc => simp [Y3] at hc
   | k + 2, hc => simp at hc
theorem Sc.set {W : World} {q B n : Nat} {v1 v2 : Value} {p1 p2 : Option Addr} {n1 c1 n2 c2 : Nat} {T : TypeId} (h : Sc W q v1 v2 n) (hb : W.heap[B]? = some (.cells #[.slice p1 n1 c1, .slice p2 n2 c2] T (0, 0))) (j : Nat) (u : Value) : Sc (W.setCell ⟨B, j, none⟩ u) q v1 v2 n := by
 obtain ⟨ns, ts, h1, h2, h3⟩ := h
 exact ⟨ns, ts, h1.set hb j u, h2.set hb j u, h3⟩
def TwD (s : ByteArray) (w : World) (e : Ending) (w' : World) : Prop := (∃ (x y : ByteArray) (z : Bool), e = .returned (.tuple #[.string x, .string y, .bool z]) ∧ x.size ≤ s.size ∧ y.size ≤ s.size) ∧ Below w.heap.size w w'
theorem l1Two_d (s : ByteArray) (hs : s.size ≤ 1048576) (hd : List UInt8) (w : World) :
 Calls prog 161 #[.string s, .string (bs hd)] w fun e w' => TwD s w e w' :=
 (l1Two_c s hs hd w).mono fun e w' ⟨h1, h2⟩ => ⟨by
   cases hr : Kg hd s.data.toList with
   | none => rw [hr] at h1; exact ⟨_, _, _, h1, Nat.zero_le _, Nat.zero_le _⟩
   | some q =>
     obtain ⟨x, y⟩ := q
     rw [hr] at h1
     have hl := sides_len hr
     exact ⟨_, _, _, h1, by rw [Y0]; simpa using hl.1, by rw [Y0]; simpa using hl.2⟩, h2⟩
theorem specTypeFun_d (s : ByteArray) (hs : s.size ≤ 1048576) (w : World) :
 Calls prog 142 #[.string s] w fun e w' => TwD s w e w' := by
 have C : Hid (∀ W, Calls prog 161 #[.string s, .string ⟨#[62]⟩] W fun e w' => TwD s W e w') := H_ (fun W => l1Two_d s hs [62] W)
 go_enter func142, ntmps142
 go_wp2_with fail
 refine (C.out _).mono ?_
 rintro e w1 ⟨⟨x, y, z, rfl, h1, h2⟩, hb1⟩
 go_wp2_with fail
 go_ret3
 exact ⟨⟨_, _, _, rfl, h1, h2⟩, hb1⟩
theorem Z70 (s : ByteArray) (hs : s.size ≤ 1048576) (w : World) :
 Calls prog 141 #[.string s] w fun e w' => TwD s w e w' := by
 have C : Hid (∀ W, Calls prog 161 #[.string s, .string ⟨#[42]⟩] W fun e w' => TwD s W e w') := H_ (fun W => l1Two_d s hs [42] W)
 go_enter func141, ntmps141
 go_wp2_with fail
 refine (C.out _).mono ?_
 rintro e w1 ⟨⟨x, y, z, rfl, h1, h2⟩, hb1⟩
 go_wp2_with fail
 go_ret3
 exact ⟨⟨_, _, _, rfl, h1, h2⟩, hb1⟩
theorem l91Build_step (d : Nat) (hd : d ≤ 3) (ih : ExD d) (ho : ∀ s : ByteArray, s.size ≤ 1000 → OfC s) : BuD d := by
 intro q a L c zs p w v1 v2 n want h hs hn hw hp
 obtain ⟨ns, ts, ⟨hs1, -⟩, ⟨hs2, -⟩, -⟩ := id hs
 obtain ⟨p1, n1, c1, rfl⟩ := hs1.shape
 obtain ⟨p2, n2, c2, rfl⟩ := hs2.shape
 clear hs1 hs2
 have hq0 : q < w.heap.size := lt_of_block h.blk
 have hT1 : Tt (d + 1) = 3 * Tt d + 20 := rfl
 have hTb := Tt_ge d
 have hTl := Tt_le (d := d) (by omega)
 have IH := H_ ih
 rw [hT1]
 unfold ExD at IH
 generalize Tt d = T at *
 generalize Pp d = P at *
 have hb := H_ (Z5 w (.cells #[.slice p1 n1 c1, .slice p2 n2 c2] 78))
 have CP := H_ (fun W => Z70 want (by omega) W)
 have CF := H_ (fun W => specTypeFun_d want (by omega) W)
 have X0 := heap_alloc_new w (.cells #[.slice p1 n1 c1, .slice p2 n2 c2] 78)
 clear ih hT1
 rw [show ((d + 1 : Nat) : Int) = (d : Int) + 1 from by simp] at *
 have k1 : IntKind.i64.wrap ((d : Int) + 1 - 1) = (d : Int) := by rw [IntKind.wrap_i64]; omega
 go_enter func92, ntmps92
 go_wp2_with fail
 refine (CP.out _).mono ?_
 rintro e w1 ⟨⟨ta, tb, z1, rfl, hta, htb⟩, hb1⟩
 go_wp2_with fail
 refine (CF.out _).mono ?_
 rintro e w2 ⟨⟨tc, te, z2, rfl, htc, hte⟩, hb2⟩
 have HW := H_ ((hb.out.trans (hb1.mono (by simp))).trans (hb2.mono (by have := hb1.size; simp at this; omega)))
 have y2 := Z2 hb2 (lt_of_block (Z2 hb1 (lt_of_block X0) X0)) (Z2 hb1 (lt_of_block X0) X0)
 have hOw : Hid (Only q w w2) := H_ (Only.of HW.out)
 have hR2 := h.below HW.out
 have hSc0 := hs.only (Only.of HW.out)
 have hQ2 : Only q w2 w2 := Only.refl _ _
 have hBq : w.heap.size ≠ q := by omega
 have hBl := lt_of_block y2
 have hql : q < w2.heap.size := Nat.lt_of_lt_of_le hq0 HW.out.size
 obtain ⟨B, hB⟩ : ∃ B, B = w.heap.size := ⟨_, rfl⟩
 rw [← hB] at y2 hBq hBl ⊢
 have K : Hid (∀ W, Only q w2 W → (fun W => W.cell? ⟨B, 0, none⟩ = some (.slice p1 n1 c1) ∧ W.cell? ⟨B, 1, none⟩ = some (.slice p2 n2 c2)) W) := H_ (fun W hW => ⟨(hW.cell (p := ⟨B, 0, none⟩) hBl hBq).trans (Z4 (j := 0) y2), (hW.cell (p := ⟨B, 1, none⟩) hBl hBq).trans (Z4 (j := 1) y2)⟩)
 obtain ⟨cf0, cf1⟩ := Zh y2
 clear CP CF hb X0 hB h hs hb1 hb2 HW
 cases z1 with
 | true =>
   have tk1 : True := trivial
   have tk2 : True := trivial
   have tk3 : True := trivial
   have S0 := H_ (K.out _ hQ2.drew)
   have hR3 := hR2.drewD
   have hQ3 : Only q w2 w2.drew := hQ2.drew
   have hSc3 := hSc0.only hQ3
   go_wp2_with fail
   first | (go_region_held3 (fun W => W.cell? ⟨B, 0, none⟩ = some (.slice p1 n1 c1) ∧ W.cell? ⟨B, 1, none⟩ = some (.slice p2 n2 c2)) (first | exact S0.out | assumption | fail) (first | (clear tk1; go_at_call 48; ((with_reducible refine (IH.out _ _ _ _ _ _ _ _ _ n _ hR3 hSc3 ?_ ?_ ?_).mono ?_); (· omega); (· omega); (· omega)); rintro e w4 ⟨s4, p4, rfl, a4, b4, hR4, hO4⟩; have hQ4 := hQ3.trans hO4; have hK4 := K.out _ hQ4; have hSc4 := hSc0.only hQ4; have := (show ¬ (9223372036854775807 : Nat) < 6 + s4.size by omega); have := (show ¬ (9223372036854775807 : Nat) < 6 + s4.size + 1 by omega)) | (clear tk2; go_at_call 48; ((with_reducible refine (IH.out _ _ _ _ _ _ _ _ _ n _ hR4 hSc4 ?_ ?_ ?_).mono ?_); (· omega); (· omega); (· omega)); rintro e w5 ⟨s5, p5, rfl, a5, b5, hR5, hO5⟩; have hQ5 := hQ4.trans hO5; have hK5 := K.out _ hQ5; have hSc5 := hSc0.only hQ5; have := (show ¬ (9223372036854775807 : Nat) < 6 + s4.size by omega); have := (show ¬ (9223372036854775807 : Nat) < 6 + s4.size + 1 by omega); have := (show ¬ (9223372036854775807 : Nat) < 6 + s4.size + 1 + s5.size by omega); have := (show ¬ (9223372036854775807 : Nat) < 6 + s4.size + 1 + s5.size + 1 by omega)))) | fail
   all_goals
    go_wp2_with fail
    go_ret
    exact ⟨_, p5, rfl, by simp [bsz]; omega, by omega, hR5, hOw.out.trans hQ5⟩
 | false =>
   cases z2 with
   | true =>
     have C1 := H_ (Kp (l := [[102], [103], [102, 49]]) (N := 2) hR2 (by omega) (by decide) (by decide) (by decide))
     go_wp2_with fail
     refine (C1.out).mono ?_
     rintro e w3 ⟨nf, p3, rfl, a3, b3, hR3, hO3⟩
     have C2 := H_ (Kp (l := [[120], [122], [120, 50]]) (N := 2) hR3 (by omega) (by decide) (by decide) (by decide))
     go_wp2_with fail
     refine (C2.out).mono ?_
     rintro e w4 ⟨nx, p4, rfl, a4, b4, hR4, hO4⟩
     have hQ4 : Only q w2 w4 := hO3.trans hO4
     have ch0 := (K.out _ hQ4).1
     have ch1 := (K.out _ hQ4).2
     obtain ⟨lf, rfl⟩ := Z2u nf
     obtain ⟨lx, rfl⟩ := Z2u nx
     obtain ⟨lc, rfl⟩ := Z2u tc
     obtain ⟨lw, rfl⟩ := Z2u want
     have hlf : lf.length ≤ 10 := by rw [Y0] at a3; omega
     have hlx : lx.length ≤ 10 := by rw [Y0] at a4; omega
     have hql4 : q < w4.heap.size := Nat.lt_of_lt_of_le hql hQ4.size
     have CM1 := H_ (Z19 q _ _ n lx lc w4 (hSc0.only hQ4) (by omega) hlx hql4)
     have CM2 := H_ (fun W h1 h2 => Z19 q (.slice p1 n1 c1) (.slice p2 n2 c2) n lf lw W h1 (by omega) hlf h2)
     have CM3 := H_ (fun W v1 v2 h1 h2 => Z19 q v1 v2 (n + 1) lx lc W h1 (by omega) hlx h2)
     generalize bs lf = nf at *
     generalize bs lx = nx at *
     generalize bs lc = tc at *
     generalize bs lw = want at *
     go_wp2_with fail
     refine (CM1.out).mono ?_
     rintro e w5 ⟨⟨u1, u2, rfl, hS5⟩, hb5⟩
     obtain ⟨ns5, ts5, ⟨hs51, -⟩, ⟨hs52, -⟩, -⟩ := id hS5
     obtain ⟨q1, m1, d1, rfl⟩ := hs51.shape
     obtain ⟨q2, m2, d2, rfl⟩ := hs52.shape
     clear hs51 hs52
     have hR5 := hR4.below hb5
     have hQ5 := hQ4.next hb5
     have hb6 := Z5 w5 (.cells #[.slice q1 m1 d1, .slice q2 m2 d2] 78)
     have CP6 := H_ (K6 (n := 6) (hR5.below hb6) (by omega) (by omega))
     have Z6 := heap_alloc_new w5 (.cells #[.slice q1 m1 d1, .slice q2 m2 d2] 78)
     have hS6 := H_ (hS5.only (Only.of hb6))
     have hQ6 := H_ (hQ5.next hb6)
     have hql5 : q < w5.heap.size := Nat.lt_of_lt_of_le hql hQ5.size
     have hw25 : w2.heap.size ≤ w5.heap.size := hQ5.size
     go_wp2_with fail
     refine (CP6.out).mono ?_
     rintro e w6 ⟨⟨k, rfl, hk0, hk1⟩, hR6, hO6⟩
     have Y6 := hO6.blk Z6 (by omega)
     have hQ7 := hQ6.out.trans hO6
     have hql6 : q < w6.heap.size := Nat.lt_of_lt_of_le hql hQ7.size
     clear CP6 Z6 hb6
     by_cases hk : k = 0
     · subst hk
       have ci0 := (K.out _ hQ7).1
       have ci1 := (K.out _ hQ7).2
       go_wp2_with fail
       refine (CM2.out _ (hSc0.only hQ7) hql6).mono ?_
       rintro e w7 ⟨⟨u3, u4, rfl, hS7⟩, hb7⟩
       obtain ⟨ns7, ts7, ⟨hs71, -⟩, ⟨hs72, -⟩, -⟩ := id hS7
       obtain ⟨q3, m3, d3, rfl⟩ := hs71.shape
       obtain ⟨q4, m4, d4, rfl⟩ := hs72.shape
       clear hs71 hs72
       go_wp2_with fail
       refine (CM3.out _ _ _ hS7 (Nat.lt_of_lt_of_le hql6 hb7.size)).mono ?_
       rintro e w8 ⟨⟨u5, u6, rfl, hS8⟩, hb8⟩
       obtain ⟨ns8, ts8, ⟨hs81, -⟩, ⟨hs82, -⟩, -⟩ := id hS8
       obtain ⟨q5, m5, d5, rfl⟩ := hs81.shape
       obtain ⟨q6, m6, d6, rfl⟩ := hs82.shape
       clear hs81 hs82
       have Y7 := Z2 hb7 (lt_of_block Y6) Y6
       have Y8 := Z2 hb8 (lt_of_block Y7) Y7
       have hR8 := (hR6.below hb7).below hb8
       have hQ8 := (hQ7.next hb7).next hb8
       obtain ⟨g0, g1⟩ := Xb Y8
       obtain ⟨e0, e1⟩ := Zh Y8
       have kk1 := Yu (j := 0) Y8 (.slice q5 m5 d5)
       have kk2 := Yu (j := 1) kk1 (.slice q6 m6 d6)
       obtain ⟨l0, l1⟩ := Zh kk2
       have hS9 := H_ (Sc.set (Sc.set hS8 Y8 0 (.slice q5 m5 d5)) kk1 1 (.slice q6 m6 d6))
       have hQ9 : Only q w2 ((w8.setCell ⟨w5.heap.size, 0, none⟩ (.slice q5 m5 d5)).setCell ⟨w5.heap.size, 1, none⟩ (.slice q6 m6 d6)) := (hQ8.setNew hw25 _).setNew hw25 _
       have hB9 : RdD ((w8.setCell ⟨w5.heap.size, 0, none⟩ (.slice q5 m5 d5)).setCell ⟨w5.heap.size, 1, none⟩ (.slice q6 m6 d6)) q a L c _ := ((Z3 _ (show q ≠ w5.heap.size by omega)).trans (Z3 _ (show q ≠ w5.heap.size by omega))).trans hR8.blk
       have hR9 := H_ (Rd.far hR2 hB9 hQ9)
       have hQ9 := H_ hQ9
       clear kk1 kk2 hB9 hS8 hS7
       go_wp2_with fail
       refine (IH.out q a L c zs _ _ _ _ (n + 1 + 1) _ hR9.out hS9.out (by omega) (by omega) (by omega)).mono ?_
       rintro e w10 ⟨s10, p10, rfl, a10, b10, hR10, hO10⟩
       go_wp2_with fail
       go_ret
       exact ⟨_, p10, rfl, by simp [bsz]; omega, by omega, hR10, hOw.out.trans (hQ9.out.trans hO10)⟩
     · have hk9 : (k == 0) = false := by simpa using hk
       obtain ⟨e0, e1⟩ := Zh Y6
       go_wp2_with fail
       refine (IH.out q a L c zs _ _ _ _ (n + 1) _ hR6 (hS6.out.only hO6) (by omega) (by omega) (by omega)).mono ?_
       rintro e w10 ⟨s10, p10, rfl, a10, b10, hR10, hO10⟩
       go_wp2_with fail
       go_ret
       exact ⟨_, p10, rfl, by simp [bsz]; omega, by omega, hR10, hOw.out.trans (hQ7.trans hO10)⟩
   | false =>
     by_cases hw0 : want.toList = [105]
     · have hw2 : (want.toList == [105]) = true := by simpa using hw0
       have CQ := H_ (K6 (n := 3) hR2 (by omega) (by omega))
       go_wp2_with fail
       refine (CQ.out).mono ?_
       rintro e w3 ⟨⟨k, rfl, hk0, hk1⟩, hR3, hO3⟩
       have hQ3 : Only q w2 w3 := hO3
       by_cases hk : k = 0
       · subst hk
         have cg0 := (K.out _ hQ3).1
         have cg1 := (K.out _ hQ3).2
         have CL := H_ (Z5e (.slice p1 n1 c1) (.slice p2 n2 c2) n want hR3 (hSc0.only hQ3) (by omega) (by omega) (ho want (by omega)))
         go_wp2_with fail
         refine (CL.out).mono ?_
         rintro e w5 ⟨s5, p5, rfl, b1, b2, hR5, ho5⟩
         go_wp2_with fail
         go_ret
         exact ⟨_, p5, rfl, by omega, by omega, hR5, hOw.out.trans (hQ3.trans ho5)⟩
       · have hkp : 0 < k := by omega
         have tk1 : True := trivial
         have tk2 : True := trivial
         have tk3 : True := trivial
         have K2 : Hid (∀ W, Only q w2 W → (fun W => Only q w2 W ∧ W.cell? ⟨B, 0, none⟩ = some (.slice p1 n1 c1) ∧ W.cell? ⟨B, 1, none⟩ = some (.slice p2 n2 c2)) W) := H_ (fun W hW => ⟨hW, K.out W hW⟩)
         have S0 := H_ (K2.out _ hQ3.drew)
         have hR4 := hR3.drewD
         have hQ4 : Only q w2 w3.drew := hQ3.drew
         have hSc4 := hSc0.only hQ4
         have CO : Hid (∀ W : World, Rd W q a L c (p + 1) zs → Calls prog 47 #[.pointer (some ⟨q, 0, none⟩), .slice (some ⟨W.heap.size, 0, none⟩) 3 3] (W.alloc (.cells #[.string ⟨#[43]⟩, .string ⟨#[45]⟩, .string ⟨#[42]⟩] 9)) fun e w' => Ql q a L c (p + 1) zs 1 1 W e w') := H_ (fun W hW => Kp (l := [[43], [45], [42]]) (N := 1) hW (by omega) (by decide) (by decide) (by decide))
         go_wp2_with fail
         first | (go_region_held3 (fun W => Only q w2 W ∧ W.cell? ⟨B, 0, none⟩ = some (.slice p1 n1 c1) ∧ W.cell? ⟨B, 1, none⟩ = some (.slice p2 n2 c2)) (first | exact S0.out | assumption | exact K2.out _ (Only.alloc (And.left (by assumption)) _) | fail) (first | (go_at_call 47; first | (with_reducible refine (CO.out _ hR4).mono ?_) | (refine (CO.out _ hR4).mono ?_); rintro e w5 ⟨s5, p5, rfl, a5, b5, hR5, hO5⟩; have hQ5 := hQ4.trans hO5; have hK5 := K2.out _ hQ5; have hSc5 := hSc0.only hQ5; have := (show ¬ (9223372036854775807 : Nat) < 1 + s5.size by omega); have := (show ¬ (9223372036854775807 : Nat) < 1 + s5.size + 1 by omega)) | (clear tk1; go_at_call 48; ((with_reducible refine (IH.out _ _ _ _ _ _ _ _ _ n _ hR5 hSc5 ?_ ?_ ?_).mono ?_); (· omega); (· show 1 + 60 * d ≤ 1000; omega); (· omega)); rintro e w6 ⟨s6, p6, rfl, a6, b6, hR6, hO6⟩; have hQ6 := hQ5.trans hO6; have hK6 := K2.out _ hQ6; have hSc6 := hSc0.only hQ6; have := (show ¬ (9223372036854775807 : Nat) < 1 + s5.size by omega); have := (show ¬ (9223372036854775807 : Nat) < 1 + s5.size + 1 by omega); have := (show ¬ (9223372036854775807 : Nat) < 1 + s5.size + 1 + s6.size by omega); have := (show ¬ (9223372036854775807 : Nat) < 1 + s5.size + 1 + s6.size + 1 by omega)) | (clear tk2; go_at_call 48; ((with_reducible refine (IH.out _ _ _ _ _ _ _ _ _ n _ hR6 hSc6 ?_ ?_ ?_).mono ?_); (· omega); (· show 1 + 60 * d ≤ 1000; omega); (· omega)); rintro e w7 ⟨s7, p7, rfl, a7, b7, hR7, hO7⟩; have hQ7 := hQ6.trans hO7; have hK7 := K2.out _ hQ7; have hSc7 := hSc0.only hQ7; have := (show ¬ (9223372036854775807 : Nat) < 1 + s5.size by omega); have := (show ¬ (9223372036854775807 : Nat) < 1 + s5.size + 1 by omega); have := (show ¬ (9223372036854775807 : Nat) < 1 + s5.size + 1 + s6.size by omega); have := (show ¬ (9223372036854775807 : Nat) < 1 + s5.size + 1 + s6.size + 1 by omega); have := (show ¬ (9223372036854775807 : Nat) < 1 + s5.size + 1 + s6.size + 1 + s7.size by omega); have := (show ¬ (9223372036854775807 : Nat) < 1 + s5.size + 1 + s6.size + 1 + s7.size + 1 by omega)))) | fail
         all_goals
          go_wp2_with fail
          go_ret
          exact ⟨_, p7, rfl, by simp [bsz]; omega, by omega, hR7, hOw.out.trans hQ7⟩
     · have hw2 : (want.toList == [105]) = false := by simpa using hw0
       have CL := H_ (Z5e (.slice p1 n1 c1) (.slice p2 n2 c2) n want hR2 hSc0 (by omega) (by omega) (ho want (by omega)))
       go_wp2_with fail
       refine (CL.out).mono ?_
       rintro e w5 ⟨s5, p5, rfl, b1, b2, hR5, ho5⟩
       go_wp2_with fail
       go_ret
       exact ⟨_, p5, rfl, by omega, by omega, hR5, hOw.out.trans ho5⟩
theorem Z2j (ho : ∀ s : ByteArray, s.size ≤ 1000 → OfC s) : ∀ d, d ≤ 4 → ExD d
 | 0, _ => l91Expr_zero ho
 | d + 1, h => l91Expr_step d (by omega) (Z2j ho d (by omega)) (l91Build_step d (by omega) (Z2j ho d (by omega)) ho)
end Go.Proofs.YtjaaalojcdbcpaaGreatDoor
