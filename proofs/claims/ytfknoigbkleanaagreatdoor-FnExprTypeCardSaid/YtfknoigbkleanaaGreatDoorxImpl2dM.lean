/- The program's orders. The program reads types; its answers that are numbers and bools. The program reads 'fun'. -/
import Derived.Test.YtfknoigbkleanaaGreatDoorxI1y
import Derived.Deep.RegionHeld3
import Derived.Test.YtfknoigbkleanaaGreatDoorxI2a
import Derived.Test.YtfknoigbkleanaaGreatDoorxB1
import Derived.BigRegion
import Derived.Deep.CutRange
namespace Go.Proofs.YtfknoigbkleanaaGreatDoor
open Go.RowKit Go.Proofs.Tryz
set_option maxRecDepth 8000
set_option maxHeartbeats 20000000
set_option linter.unusedVariables false
set_option linter.unusedSimpArgs false
theorem Z31 {s : ByteArray} (hs : s.size ≤ 1048576) (hp : Zt s.data.toList = none) (W : World) : Calls prog 61 #[.string s] W fun e w' => e = .returned (.tuple #[.agg #[.string ⟨#[]⟩, .slice none 0 0, .int .i64 0, .int .i64 0, .int .i64 0], .bool false]) ∧ Below W.heap.size W w' :=
 (Z6u s hs W).mono fun e w' ⟨h1, h2⟩ => ⟨by rw [hp] at h1; exact h1, h2⟩
theorem Z30 {s : ByteArray} (hs : s.size ≤ 1048576) {t : Tr} (hp : Zt s.data.toList = some t) (W : World) : Calls prog 61 #[.string s] W fun e w' => (∃ p n c, e = .returned (.tuple #[.agg #[.string (bs (Z0 t)), .slice p n c, .int .i64 t.bytes, .int .i64 t.size, .int .i64 t.depth], .bool true]) ∧ FV nI w' (fun k => W.heap.size ≤ k ∧ k < w'.heap.size) t (nI t (.slice p n c))) ∧ Below W.heap.size W w' :=
 (Z6u s hs W).mono fun e w' ⟨h1, h2⟩ => ⟨by rw [hp] at h1; exact h1, h2⟩
def TyPost (B : Nat) (res : Option Tr) (e : Ending) (w' : World) : Prop :=
 match res with
 | none => e = .returned (.tuple #[.agg #[.string ⟨#[]⟩, .slice none 0 0, .int .i64 0, .int .i64 0, .int .i64 0], .bool false])
 | some t => ∃ p n c, e = .returned (.tuple #[.agg #[.string (bs (Z0 t)), .slice p n c, .int .i64 t.bytes, .int .i64 t.size, .int .i64 t.depth], .bool true]) ∧ FV nI w' (fun k => B ≤ k ∧ k < w'.heap.size) t (nI t (.slice p n c))
theorem Vj (t : Tr) (p : Option Addr) (n c : Nat) (ok : Nat → Prop) (w : World) (hwf : t.wf) (hsz : t.size ≤ 1000000000) (hv : FV nI w ok t (nI t (.slice p n c))) (hok : ∀ k, ok k → k < w.heap.size) :
 Calls prog 107 #[.agg #[.string (bs (Z0 t)), .slice p n c, .int .i64 t.bytes, .int .i64 t.size, .int .i64 t.depth]] w fun e w' => e = .returned (.bool (Xe t && decide (t.size ≤ 16))) ∧ Below w.heap.size w w' := by
 have T : Hid (Calls prog 155 #[.agg #[.string (bs (Z0 t)), .slice p n c, .int .i64 t.bytes, .int .i64 t.size, .int .i64 t.depth]] (w.alloc (.cells #[.string (bs (Z0 t)), .slice p n c, .int .i64 t.bytes, .int .i64 t.size, .int .i64 t.depth] 56)) fun e w' => e = .returned (.bool (Xe t)) ∧ Below (w.heap.size + 1) (w.alloc (.cells #[.string (bs (Z0 t)), .slice p n c, .int .i64 t.bytes, .int .i64 t.size, .int .i64 t.depth] 56)) w') :=
  H_ ((Z3p (t.depth + 1) t p n c ok _ (by omega) hwf (hv.below (Z4 w _) hok) (fun k hk => by have := hok k hk; simp; omega)).mono fun e w' ⟨h1, h2⟩ => ⟨h1, by simpa using h2⟩)
 by_cases h16 : t.size ≤ 16
 · have hd : decide ((t.size : Int) ≤ 16) = true := by simp; omega
   have HF : Hid ((Xe t && decide (t.size ≤ 16)) = Xe t) := H_ (by simp [h16])
   clear hv
   go_enter func107, ntmps107
   go_wp2_with (go_at_call 155; go_must (refine T.out.mono ?_; rintro e w2 ⟨rfl, hb2⟩))
   go_ret
   exact ⟨by rw [HF.out]; rfl, (Z4 w _).trans (hb2.mono (by omega))⟩
 · have hd : decide ((t.size : Int) ≤ 16) = false := by simp; omega
   have HF : Hid ((Xe t && decide (t.size ≤ 16)) = false) := H_ (by simp; omega)
   clear hv T
   go_enter func107, ntmps107
   go_wp2_with fail
   go_ret
   exact ⟨by rw [HF.out]; rfl, Z4 w _⟩
theorem Z3j (s : ByteArray) (hs : s.size ≤ 1048576) (w : World) :
 Calls prog 56 #[.string s] w fun e w' => TyPost w.heap.size (Y0 s.data.toList) e w' ∧ Below w.heap.size w w' := by
 cases hp : Zt s.data.toList with
 | none =>
   have C := H_ (Z31 hs hp)
   have HR := H_ (Z0b hp)
   clear hp
   go_enter func56, ntmps56
   go_wp2_with (go_at_call 61; go_must (refine (C.out _).mono ?_; rintro e w1 ⟨rfl, hb1⟩; have y0 := Z1 hb1 (by simp) (heap_alloc_new _ _); obtain ⟨z0, z1, z2, z3, z4⟩ := Zb y0; obtain ⟨f0, f1, f2, f3, f4⟩ := Ze y0; have hs1 := hb1.size; have hs4 : w.heap.size < w1.heap.size := (by simp at hs1; omega)))
   refine bodyPost_ret (v := .tuple #[.agg #[.string ⟨#[]⟩, .slice none 0 0, .int .i64 0, .int .i64 0, .int .i64 0], .bool false]) (by simp [results, results56, go_sem, z0, z1, z2, z3, z4, hs4]) rfl ⟨by rw [HR.out]; rfl, ?_⟩
   exact (((((((Z4 w _).trans (hb1.mono (by simp))).setCell (by simp) _).setCell (by simp) _).setCell (by simp) _).setCell (by simp) _).setCell (by simp) _).alloc (by simp; omega) _
 | some t =>
   have C := H_ (Z30 hs hp)
   have hg := Yp hp
   have HR := H_ (Kk hp)
   have hsz := Q5 _ hg.1
   have hsz2 : t.size ≤ 12000 := by omega
   clear hp
   have T : Hid (∀ (W : World) (p : Option Addr) (n c : Nat) (ok : Nat → Prop), FV nI W ok t (nI t (.slice p n c)) → (∀ k, ok k → k < W.heap.size) → Calls prog 107 #[.agg #[.string (bs (Z0 t)), .slice p n c, .int .i64 t.bytes, .int .i64 t.size, .int .i64 t.depth]] W fun e w' => e = .returned (.bool (Xe t && decide (t.size ≤ 16))) ∧ Below W.heap.size W w') :=
    H_ (fun W p n c ok h1 h2 => Vj t p n c ok W hg.1 (by omega) h1 h2)
   cases hty : (Xe t && decide (t.size ≤ 16)) with
   | false =>
     rw [hty] at T HR
     go_enter func56, ntmps56
     go_wp2_with (first | (go_at_call 61; go_must (refine (C.out _).mono ?_; rintro e w1 ⟨⟨p, n, c, rfl, hv⟩, hb1⟩; have y0 := Z1 hb1 (by simp) (heap_alloc_new _ _); obtain ⟨z0, z1, z2, z3, z4⟩ := Zb y0; obtain ⟨f0, f1, f2, f3, f4⟩ := Ze y0; have hs1 := hb1.size; have hs4 : w.heap.size < w1.heap.size := (by simp at hs1; omega))) | (go_at_call 107; go_must (refine (T.out _ p n c (fun k => w.heap.size + 1 ≤ k ∧ k < w1.heap.size) (FV.move (fun k hk => by simp at hk ⊢; omega) (fun k hk => heap_alloc_old _ _ hk.2) _ _ hv) (fun k hk => by simp; omega)).mono ?_; rintro e w2 ⟨rfl, hb2⟩; have x0 := Z1 hb2 (by simp; omega) (Z8 y0); have x1 := Z1 hb2 (by simp) (heap_alloc_new _ _); obtain ⟨r0, r1, r2, r3, r4⟩ := Zb x0; obtain ⟨g0, g1, g2, g3, g4⟩ := Ze x0; obtain ⟨q0, q1, q2, q3, q4⟩ := Zb x1; have hs2 := hb2.size; have hs5 : w.heap.size < w2.heap.size := (by simp at hs2; omega))))
     refine bodyPost_ret (v := .tuple #[.agg #[.string ⟨#[]⟩, .slice none 0 0, .int .i64 0, .int .i64 0, .int .i64 0], .bool false]) (by simp [results, results56, go_sem, r0, r1, r2, r3, r4, hs5]) rfl ⟨by rw [HR.out]; rfl, ?_⟩
     exact (((((((((Z4 w _).trans (hb1.mono (by simp))).alloc (by omega) _).trans (hb2.mono (by simp; omega))).setCell (by simp) _).setCell (by simp) _).setCell (by simp) _).setCell (by simp) _).setCell (by simp) _)
   | true =>
     rw [hty] at T HR
     go_enter func56, ntmps56
     go_wp2_with (first | (go_at_call 61; go_must (refine (C.out _).mono ?_; rintro e w1 ⟨⟨p, n, c, rfl, hv⟩, hb1⟩; have y0 := Z1 hb1 (by simp) (heap_alloc_new _ _); obtain ⟨z0, z1, z2, z3, z4⟩ := Zb y0; obtain ⟨f0, f1, f2, f3, f4⟩ := Ze y0; have hs1 := hb1.size; have hs4 : w.heap.size < w1.heap.size := (by simp at hs1; omega))) | (go_at_call 107; go_must (refine (T.out _ p n c (fun k => w.heap.size + 1 ≤ k ∧ k < w1.heap.size) (FV.move (fun k hk => by simp at hk ⊢; omega) (fun k hk => heap_alloc_old _ _ hk.2) _ _ hv) (fun k hk => by simp; omega)).mono ?_; rintro e w2 ⟨rfl, hb2⟩; have x0 := Z1 hb2 (by simp; omega) (Z8 y0); have x1 := Z1 hb2 (by simp) (heap_alloc_new _ _); obtain ⟨r0, r1, r2, r3, r4⟩ := Zb x0; obtain ⟨g0, g1, g2, g3, g4⟩ := Ze x0; obtain ⟨q0, q1, q2, q3, q4⟩ := Zb x1; have hs2 := hb2.size; have hs5 : w.heap.size < w2.heap.size := (by simp at hs2; omega))))
     refine bodyPost_ret (v := .tuple #[.agg #[.string (bs (Z0 t)), .slice p n c, .int .i64 t.bytes, .int .i64 t.size, .int .i64 t.depth], .bool true]) (by simp [results, results56, go_sem, r0, r1, r2, r3, r4, hs5]) rfl ⟨?_, ?_⟩
     · rw [HR.out, if_pos trivial]
       refine ⟨p, n, c, rfl, FV.move (fun k hk => ?_) (fun k hk => ?_) _ _ hv⟩
       · have := hb2.size; simp at hk this ⊢; omega
       · simp only [X3] at hk
         rw [Z9 _ (by simp; omega), Z9 _ (by simp; omega), Z9 _ (by simp; omega), Z9 _ (by simp; omega), Z9 _ (by simp; omega), hb2.block k (by simp; omega), heap_alloc_old _ _ hk.2]
     · exact (((((((((Z4 w _).trans (hb1.mono (by simp))).alloc (by omega) _).trans (hb2.mono (by simp; omega))).setCell (by simp) _).setCell (by simp) _).setCell (by simp) _).setCell (by simp) _).setCell (by simp) _)
theorem asFun_bad (p : Option Addr) (m c : Nat) (hm : m ≠ 5) (hm2 : m ≤ 1000000000) (w : World) :
 Calls prog 139 #[.slice p m c] w fun e w' => e = .returned (.tuple #[.nilIface, .bool false]) ∧ Below w.heap.size w w' := by
 have hl' : ((m : Int) == 5) = false := by simp; omega
 have hl2 : ¬ (m : Int) = 5 := by omega
 go_enter func139, ntmps139
 go_wp2_with fail
 go_ret2
 exact ⟨rfl, Below.refl _ _⟩
theorem kid_I {w : World} {ok : Nat → Prop} {ts : List Tr} {xs : List Value} {r off : Nat} (h6 : FVs nI w ok ts xs) (h5 : Yb w r off xs) (i : Nat) (hi : i < ts.length) :
 ∃ p m c, FV nI w ok ts[i] (nI ts[i] (.slice p m c)) ∧ (w.cell? ⟨r, off + i * 5, none⟩ = some (.string (bs (Z0 ts[i]))) ∧ w.cell? ⟨r, off + i * 5 + 1, none⟩ = some (.slice p m c) ∧ w.cell? ⟨r, off + i * 5 + 2, none⟩ = some (.int .i64 ts[i].bytes) ∧ w.cell? ⟨r, off + i * 5 + 3, none⟩ = some (.int .i64 ts[i].size) ∧ w.cell? ⟨r, off + i * 5 + 4, none⟩ = some (.int .i64 ts[i].depth)) := by
 obtain ⟨cs, g1, g2⟩ := FVs.get Q7 h6 h5 i hi
 obtain ⟨p, pn, pc, rfl⟩ := g1.node
 exact ⟨p, pn, pc, g1, g2 0 _ rfl, g2 1 _ rfl, g2 2 _ rfl, g2 3 _ rfl, g2 4 _ rfl⟩
theorem asFun_c (n : Nat) (ih : Z2g n) (f x A B b : Tr) (c : Nat) (ok : Nat → Prop) (w : World) (r off : Nat) (xs : List Value) (hdb : b.depth < n) (hwA : A.wf) (hwB : B.wf) (hwb : b.wf) (hbf : f.bytes ≤ 12000) (hbx : x.bytes ≤ 12000) (hbA : A.bytes ≤ 12000) (hbB : B.bytes ≤ 12000) (hbb : b.bytes ≤ 12000)
 (h5 : Yb w r off xs) (h6 : FVs nI w ok [f, x, A, B, b] xs) (hrlt : r < w.heap.size) (hok : ∀ k, ok k → k < w.heap.size) (hc : 5 ≤ c) (hc2 : c ≤ maxLen) :
 Calls prog 139 #[.slice (some ⟨r, off, none⟩) 5 c] w fun e w' => Zu ok (X9 [f, x, A, B, b]) e w' ∧ Below w.heap.size w w' := by
 have hc3 := Zy hc2
 obtain ⟨p0, n0, q0, v0, e00, -⟩ := kid_I h6 h5 0 (by simp)
 obtain ⟨p1, n1, q1, v1, e10, -⟩ := kid_I h6 h5 1 (by simp)
 obtain ⟨p2, n2, q2, v2, e20, e21, e22, e23, e24⟩ := kid_I h6 h5 2 (by simp)
 obtain ⟨p3, n3, q3, v3, e30, e31, e32, e33, e34⟩ := kid_I h6 h5 3 (by simp)
 obtain ⟨p4, n4, q4, v4, e40, e41, e42, e43, e44⟩ := kid_I h6 h5 4 (by simp)
 simp only [Nat.reduceMul, Nat.zero_mul, Nat.add_zero, List.getElem_cons_zero, List.getElem_cons_succ] at v2 v3 v4 e00 e10 e20 e21 e22 e23 e24 e30 e31 e32 e33 e34 e40 e41 e42 e43 e44
 clear v0 v1
 go_enter func139, ntmps139
 go_wp2_with fail
 go_cut [4, 5, 6, 7] from 13 to 26 (fun t4 t5 t6 t7 W => t4 = .string (bs (Z0 f)) ∧ t5 = .string (bs (Z0 x)) ∧ ∃ b6 b7, t6 = .pointer (some ⟨b6, 0, none⟩) ∧ t7 = .pointer (some ⟨b7, 0, none⟩) ∧ W.heap[b6]? = some (.cells #[.string (bs (Z0 A)), .slice p2 n2 q2, .int .i64 A.bytes, .int .i64 A.size, .int .i64 A.depth] 56 (0, 0)) ∧ W.heap[b7]? = some (.cells #[.string (bs (Z0 B)), .slice p3 n3 q3, .int .i64 B.bytes, .int .i64 B.size, .int .i64 B.depth] 56 (0, 0)) ∧ Hid (Below w.heap.size w W))
 case first =>
  clear ih h5 h6 v2 v3 v4
  go_big_region
  all_goals
   go_wp2_with fail
   go_meet
   first
    | exact ⟨rfl, rfl, _, _, rfl, rfl, Z8 (heap_alloc_new _ _), Za _ _ _, H_ (Zm w _ _).drew⟩
    | exact ⟨rfl, rfl, _, _, rfl, rfl, Za _ _ _, Z8 (heap_alloc_new _ _), H_ (Zm w _ _).drew⟩
 case rest =>
 obtain ⟨rfl, rfl, b6, b7, rfl, rfl, y6, y7, HB⟩ := hcut
 have hlf : (Z0 f).length ≤ 1048576 := by have := Z2d f; omega
 have hlx : (Z0 x).length ≤ 1048576 := by have := Z2d x; omega
 have hsA := (Q5 A hwA).1
 have hsB := (Q5 B hwB).1
 have CNf : Hid (∀ W, Calls prog 79 #[.string (bs (Z0 f))] W fun e w' => e = .returned (.bool (Yi (Z0 f))) ∧ w' = W) := H_ (fun W => Z0w _ hlf W)
 have CNx : Hid (∀ W, Calls prog 79 #[.string (bs (Z0 x))] W fun e w' => e = .returned (.bool (Yi (Z0 x))) ∧ w' = W) := H_ (fun W => Z0w _ hlx W)
 have CTA : Hid (∀ W, Below w.heap.size w W → Calls prog 107 #[.agg #[.string (bs (Z0 A)), .slice p2 n2 q2, .int .i64 A.bytes, .int .i64 A.size, .int .i64 A.depth]] W fun e w' => e = .returned (.bool (Zs A)) ∧ Below W.heap.size W w') := H_ (fun W hW => Vj A p2 n2 q2 ok W hwA (by omega) (v2.below hW hok) (Kp hok hW))
 have CTB : Hid (∀ W, Below w.heap.size w W → Calls prog 107 #[.agg #[.string (bs (Z0 B)), .slice p3 n3 q3, .int .i64 B.bytes, .int .i64 B.size, .int .i64 B.depth]] W fun e w' => e = .returned (.bool (Zs B)) ∧ Below W.heap.size W w') := H_ (fun W hW => Vj B p3 n3 q3 ok W hwB (by omega) (v3.below hW hok) (Kp hok hW))
 have heq : ((bs (Z0 f)).toList == (bs (Z0 x)).toList) = (Z0 f == Z0 x) := by rw [Z5, Z5]
 have HE := H_ (fun (W : World) (h : Below w.heap.size w W) j => h.cell (p := ⟨r, off + 20 + j, none⟩) hrlt)
 clear e00 e10 e20 e21 e22 e23 e24 e30 e31 e32 e33 e34 hlf hlx hsA hsB
 obtain ⟨s60, s61, s62, s63, s64⟩ := Zb y6
 obtain ⟨s70, s71, s72, s73, s74⟩ := Zb y7
 cases hf : Yi (Z0 f) with
 | false =>
   rw [hf] at CNf
   have HA := H_ (show X9 [f, x, A, B, b] = none by simp [X9, hf])
   clear ih hf
   go_wp2_with (first | (go_at_call 79; (with_reducible refine (CNf.out _).mono ?_); rintro e w1 ⟨rfl, rfl⟩) | (go_at_call 79; (with_reducible refine (CNx.out _).mono ?_); rintro e w2 ⟨rfl, rfl⟩))
   go_ret2
   exact ⟨Zu.nil HA.out, HB.out⟩
 | true =>
 rw [hf] at CNf
 cases hx : Yi (Z0 x) with
 | false =>
   rw [hx] at CNx
   have HA := H_ (show X9 [f, x, A, B, b] = none by simp [X9, hf, hx])
   clear ih hf hx
   go_wp2_with (first | (go_at_call 79; (with_reducible refine (CNf.out _).mono ?_); rintro e w1 ⟨rfl, rfl⟩) | (go_at_call 79; (with_reducible refine (CNx.out _).mono ?_); rintro e w2 ⟨rfl, rfl⟩))
   go_ret2
   exact ⟨Zu.nil HA.out, HB.out⟩
 | true =>
 rw [hx] at CNx
 cases hq : (Z0 f == Z0 x) with
 | true =>
   rw [hq] at heq
   have HA := H_ (show X9 [f, x, A, B, b] = none by simp [X9, hf, hx, hq])
   clear ih hf hx hq
   go_wp2_with (first | (go_at_call 79; (with_reducible refine (CNf.out _).mono ?_); rintro e w1 ⟨rfl, rfl⟩) | (go_at_call 79; (with_reducible refine (CNx.out _).mono ?_); rintro e w2 ⟨rfl, rfl⟩))
   go_ret2
   exact ⟨Zu.nil HA.out, HB.out⟩
 | false =>
 rw [hq] at heq
 cases ha : Zs A with
 | false =>
   rw [ha] at CTA
   have HA := H_ (show X9 [f, x, A, B, b] = none by simp [X9, hf, hx, hq, ha])
   clear ih hf hx hq ha
   go_wp2_with (first | (go_at_call 79; (with_reducible refine (CNf.out _).mono ?_); rintro e w1 ⟨rfl, rfl⟩) | (go_at_call 79; (with_reducible refine (CNx.out _).mono ?_); rintro e w2 ⟨rfl, rfl⟩) | (go_at_call 107; (with_reducible refine (CTA.out _ HB.out).mono ?_); rintro e w3 ⟨rfl, hb3⟩; have hw3 := HB.out.trans (hb3.mono HB.out.size); have Y6 := Z1 hb3 (lt_of_block y6) y6; have Y7 := Z1 hb3 (lt_of_block y7) y7; obtain ⟨m70, m71, m72, m73, m74⟩ := Zb Y7))
   go_ret2
   exact ⟨Zu.nil HA.out, hw3⟩
 | true =>
 rw [ha] at CTA
 cases hb : Zs B with
 | false =>
   rw [hb] at CTB
   have HA := H_ (show X9 [f, x, A, B, b] = none by simp [X9, hf, hx, hq, ha, hb])
   clear ih hf hx hq ha hb
   go_wp2_with (first | (go_at_call 79; (with_reducible refine (CNf.out _).mono ?_); rintro e w1 ⟨rfl, rfl⟩) | (go_at_call 79; (with_reducible refine (CNx.out _).mono ?_); rintro e w2 ⟨rfl, rfl⟩) | (go_at_call 107; (with_reducible refine (CTA.out _ HB.out).mono ?_); rintro e w3 ⟨rfl, hb3⟩; have hw3 := HB.out.trans (hb3.mono HB.out.size); have Y6 := Z1 hb3 (lt_of_block y6) y6; have Y7 := Z1 hb3 (lt_of_block y7) y7; obtain ⟨m70, m71, m72, m73, m74⟩ := Zb Y7) | (go_at_call 107; refine (CTB.out _ hw3).mono ?_; rintro e w4 ⟨rfl, hb4⟩; have hw4 := hw3.trans (hb4.mono hw3.size); have Z6 := Z1 hb4 (lt_of_block Y6) Y6; have Z7 := Z1 hb4 (lt_of_block Y7) Y7; have k0 := (HE.out _ hw4 0).trans e40; have k1 := (HE.out _ hw4 1).trans e41; have k2 := (HE.out _ hw4 2).trans e42; have k3 := (HE.out _ hw4 3).trans e43; have k4 := (HE.out _ hw4 4).trans e44; simp only [Nat.add_zero] at k0))
   go_ret2
   exact ⟨Zu.nil HA.out, hw4⟩
 | true =>
 rw [hb] at CTB
 cases he : Ye b with
 | none =>
   have CE := Z2s ih hdb hwb hbb v4 hok he
   have HA := H_ (show X9 [f, x, A, B, b] = none by simp [X9, hf, hx, hq, ha, hb, he])
   clear ih hf hx hq ha hb he
   go_wp2_with (first | (go_at_call 79; (with_reducible refine (CNf.out _).mono ?_); rintro e w1 ⟨rfl, rfl⟩) | (go_at_call 79; (with_reducible refine (CNx.out _).mono ?_); rintro e w2 ⟨rfl, rfl⟩) | (go_at_call 107; (with_reducible refine (CTA.out _ HB.out).mono ?_); rintro e w3 ⟨rfl, hb3⟩; have hw3 := HB.out.trans (hb3.mono HB.out.size); have Y6 := Z1 hb3 (lt_of_block y6) y6; have Y7 := Z1 hb3 (lt_of_block y7) y7; obtain ⟨m70, m71, m72, m73, m74⟩ := Zb Y7) | (go_at_call 107; refine (CTB.out _ hw3).mono ?_; rintro e w4 ⟨rfl, hb4⟩; have hw4 := hw3.trans (hb4.mono hw3.size); have Z6 := Z1 hb4 (lt_of_block Y6) Y6; have Z7 := Z1 hb4 (lt_of_block Y7) Y7; have k0 := (HE.out _ hw4 0).trans e40; have k1 := (HE.out _ hw4 1).trans e41; have k2 := (HE.out _ hw4 2).trans e42; have k3 := (HE.out _ hw4 3).trans e43; have k4 := (HE.out _ hw4 4).trans e44; simp only [Nat.add_zero] at k0) | (go_at_call 88; refine (CE.out _ hw4).mono ?_; (rintro e w5 ⟨(rfl | ⟨T5, u5, rfl⟩), hb5⟩) <;> (have X6 := Z1 hb5 (lt_of_block Z6) Z6; have X7 := Z1 hb5 (lt_of_block Z7) Z7; obtain ⟨g60, g61, g62, g63, g64⟩ := Zb X6; obtain ⟨g70, g71, g72, g73, g74⟩ := Zb X7)))
   all_goals
    go_ret2
    exact ⟨Zu.none HA.out _ _, hw4.trans (hb5.mono hw4.size)⟩
 | some eb =>
   have CE := Z2r ih hdb hwb hbb v4 hok he
   have HA := H_ (show X9 [f, x, A, B, b] = some (.func (Z0 f) (Z0 x) A B eb) by simp [X9, hf, hx, hq, ha, hb, he])
   clear ih hf hx hq ha hb he
   go_wp2_with (first | (go_at_call 79; (with_reducible refine (CNf.out _).mono ?_); rintro e w1 ⟨rfl, rfl⟩) | (go_at_call 79; (with_reducible refine (CNx.out _).mono ?_); rintro e w2 ⟨rfl, rfl⟩) | (go_at_call 107; (with_reducible refine (CTA.out _ HB.out).mono ?_); rintro e w3 ⟨rfl, hb3⟩; have hw3 := HB.out.trans (hb3.mono HB.out.size); have Y6 := Z1 hb3 (lt_of_block y6) y6; have Y7 := Z1 hb3 (lt_of_block y7) y7; obtain ⟨m70, m71, m72, m73, m74⟩ := Zb Y7) | (go_at_call 107; refine (CTB.out _ hw3).mono ?_; rintro e w4 ⟨rfl, hb4⟩; have hw4 := hw3.trans (hb4.mono hw3.size); have Z6 := Z1 hb4 (lt_of_block Y6) Y6; have Z7 := Z1 hb4 (lt_of_block Y7) Y7; have k0 := (HE.out _ hw4 0).trans e40; have k1 := (HE.out _ hw4 1).trans e41; have k2 := (HE.out _ hw4 2).trans e42; have k3 := (HE.out _ hw4 3).trans e43; have k4 := (HE.out _ hw4 4).trans e44; simp only [Nat.add_zero] at k0) | (go_at_call 88; refine (CE.out _ hw4).mono ?_; rintro e w5 ⟨⟨v5, rfl, hev5⟩, hb5⟩; obtain ⟨T5, u5, rfl⟩ := hev5.iface; have X6 := Z1 hb5 (lt_of_block Z6) Z6; have X7 := Z1 hb5 (lt_of_block Z7) Z7; obtain ⟨g60, g61, g62, g63, g64⟩ := Zb X6; obtain ⟨g70, g71, g72, g73, g74⟩ := Zb X7))
   go_ret2
   have hw5 := hw4.trans (hb5.mono hw4.size)
   exact ⟨Zu.some HA.out ⟨_, _, _, _, _, _, _, rfl, v2.below hw5 hok, v3.below hw5 hok, hev5⟩, hw5⟩
end Go.Proofs.YtfknoigbkleanaaGreatDoor
