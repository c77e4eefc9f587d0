/- The program reads 'fun'. -/
import Derived.Test.YtjaaalojcdbcpaaGreatDoorpI2a
import Derived.Test.YtjaaalojcdbcpaaGreatDoorpImpl1jM
import Derived.Test.YtjaaalojcdbcpaaGreatDoorpB1
import Derived.BigRegion
import Derived.Deep.CutRange
set_option maxHeartbeats 20000000
set_option linter.unusedVariables false
set_option linter.unusedSimpArgs false
namespace Go.Proofs.YtjaaalojcdbcpaaGreatDoor
open Go.RowKit Go.Proofs.Tryz
set_option maxRecDepth 8000
theorem asFun_bad (p : Option Addr) (m c : Nat) (hm : m ≠ 5) (hm2 : m ≤ 1000000000) (w : World) :
 Calls prog 119 #[.slice p m c] w fun e w' => e = .returned (.tuple #[.nilIface, .bool false]) ∧ Below w.heap.size w w' := by
 have hl' : ((m : Int) == 5) = false := by simp; omega
 have hl2 : ¬ (m : Int) = 5 := by omega
 go_enter func119, ntmps119
 go_wp2_with fail
 go_ret2
 exact ⟨rfl, Below.refl _ _⟩
theorem kid_I {w : World} {ok : Nat → Prop} {ts : List Tr} {xs : List Value} {r off : Nat} (h6 : FVs nI w ok ts xs) (h5 : Yo w r off xs) (i : Nat) (hi : i < ts.length) :
 ∃ p m c, FV nI w ok ts[i] (nI ts[i] (.slice p m c)) ∧ (w.cell? ⟨r, off + i * 5, none⟩ = some (.string (bs (Z1 ts[i]))) ∧ w.cell? ⟨r, off + i * 5 + 1, none⟩ = some (.slice p m c) ∧ w.cell? ⟨r, off + i * 5 + 2, none⟩ = some (.int .i64 ts[i].bytes) ∧ w.cell? ⟨r, off + i * 5 + 3, none⟩ = some (.int .i64 ts[i].size) ∧ w.cell? ⟨r, off + i * 5 + 4, none⟩ = some (.int .i64 ts[i].depth)) := by
 obtain ⟨cs, g1, g2⟩ := FVs.get Z0g h6 h5 i hi
 obtain ⟨p, pn, pc, rfl⟩ := g1.node
 exact ⟨p, pn, pc, g1, g2 0 _ rfl, g2 1 _ rfl, g2 2 _ rfl, g2 3 _ rfl, g2 4 _ rfl⟩
theorem asFun_c (n : Nat) (ih : Vl n) (f x A B b : Tr) (c : Nat) (ok : Nat → Prop) (w : World) (r off : Nat) (xs : List Value) (hdb : b.depth < n) (hwA : A.wf) (hwB : B.wf) (hwb : b.wf) (hbf : f.bytes ≤ 12000) (hbx : x.bytes ≤ 12000) (hbA : A.bytes ≤ 12000) (hbB : B.bytes ≤ 12000) (hbb : b.bytes ≤ 12000)
 (h5 : Yo w r off xs) (h6 : FVs nI w ok [f, x, A, B, b] xs) (hrlt : r < w.heap.size) (hok : ∀ k, ok k → k < w.heap.size) (hc : 5 ≤ c) (hc2 : c ≤ maxLen) :
 Calls prog 119 #[.slice (some ⟨r, off, none⟩) 5 c] w fun e w' => Zo ok (Yr [f, x, A, B, b]) e w' ∧ Below w.heap.size w w' := by
 have hc3 := Ym hc2
 obtain ⟨p0, n0, q0, v0, e00, -⟩ := kid_I h6 h5 0 (by simp)
 obtain ⟨p1, n1, q1, v1, e10, -⟩ := kid_I h6 h5 1 (by simp)
 obtain ⟨p2, n2, q2, v2, e20, e21, e22, e23, e24⟩ := kid_I h6 h5 2 (by simp)
 obtain ⟨p3, n3, q3, v3, e30, e31, e32, e33, e34⟩ := kid_I h6 h5 3 (by simp)
 obtain ⟨p4, n4, q4, v4, e40, e41, e42, e43, e44⟩ := kid_I h6 h5 4 (by simp)
 simp only [Nat.reduceMul, Nat.zero_mul, Nat.add_zero, List.getElem_cons_zero, List.getElem_cons_succ] at v2 v3 v4 e00 e10 e20 e21 e22 e23 e24 e30 e31 e32 e33 e34 e40 e41 e42 e43 e44
 clear v0 v1
 go_enter func119, ntmps119
 go_wp2_with fail
 go_cut [4, 5, 6, 7] from 13 to 26 (fun t4 t5 t6 t7 W => t4 = .string (bs (Z1 f)) ∧ t5 = .string (bs (Z1 x)) ∧ ∃ b6 b7, t6 = .pointer (some ⟨b6, 0, none⟩) ∧ t7 = .pointer (some ⟨b7, 0, none⟩) ∧ W.heap[b6]? = some (.cells #[.string (bs (Z1 A)), .slice p2 n2 q2, .int .i64 A.bytes, .int .i64 A.size, .int .i64 A.depth] 65 (0, 0)) ∧ W.heap[b7]? = some (.cells #[.string (bs (Z1 B)), .slice p3 n3 q3, .int .i64 B.bytes, .int .i64 B.size, .int .i64 B.depth] 65 (0, 0)) ∧ Hid (Below w.heap.size w W))
 case first =>
  clear ih h5 h6 v2 v3 v4
  go_big_region
  all_goals
   go_wp2_with fail
   go_meet
   first
    | exact ⟨rfl, rfl, _, _, rfl, rfl, Zc (heap_alloc_new _ _), Zd _ _ _, H_ (Zw w _ _).drew⟩
    | exact ⟨rfl, rfl, _, _, rfl, rfl, Zd _ _ _, Zc (heap_alloc_new _ _), H_ (Zw w _ _).drew⟩
 case rest =>
 obtain ⟨rfl, rfl, b6, b7, rfl, rfl, y6, y7, HB⟩ := hcut
 have hlf : (Z1 f).length ≤ 1048576 := by have := Vj f; omega
 have hlx : (Z1 x).length ≤ 1048576 := by have := Vj x; omega
 have hsA := (Xx A hwA).1
 have hsB := (Xx B hwB).1
 have CNf : Hid (∀ W, Calls prog 49 #[.string (bs (Z1 f))] W fun e w' => e = .returned (.bool (Y4 (Z1 f))) ∧ w' = W) := H_ (fun W => Vv _ hlf W)
 have CNx : Hid (∀ W, Calls prog 49 #[.string (bs (Z1 x))] W fun e w' => e = .returned (.bool (Y4 (Z1 x))) ∧ w' = W) := H_ (fun W => Vv _ hlx W)
 have CTA : Hid (∀ W, Below w.heap.size w W → Calls prog 129 #[.agg #[.string (bs (Z1 A)), .slice p2 n2 q2, .int .i64 A.bytes, .int .i64 A.size, .int .i64 A.depth]] W fun e w' => e = .returned (.bool (Xr A)) ∧ Below W.heap.size W w') := H_ (fun W hW => Kz A p2 n2 q2 ok W hwA (by omega) (v2.below hW hok) (J2 hok hW))
 have CTB : Hid (∀ W, Below w.heap.size w W → Calls prog 129 #[.agg #[.string (bs (Z1 B)), .slice p3 n3 q3, .int .i64 B.bytes, .int .i64 B.size, .int .i64 B.depth]] W fun e w' => e = .returned (.bool (Xr B)) ∧ Below W.heap.size W w') := H_ (fun W hW => Kz B p3 n3 q3 ok W hwB (by omega) (v3.below hW hok) (J2 hok hW))
 have heq : ((bs (Z1 f)).toList == (bs (Z1 x)).toList) = (Z1 f == Z1 x) := by rw [Za, Za]
 have HE := H_ (fun (W : World) (h : Below w.heap.size w W) j => h.cell (p := ⟨r, off + 20 + j, none⟩) hrlt)
 clear e00 e10 e20 e21 e22 e23 e24 e30 e31 e32 e33 e34 hlf hlx hsA hsB
 obtain ⟨s60, s61, s62, s63, s64⟩ := Y5 y6
 obtain ⟨s70, s71, s72, s73, s74⟩ := Y5 y7
 cases hf : Y4 (Z1 f) with
 | false =>
   rw [hf] at CNf
   have HA := H_ (show Yr [f, x, A, B, b] = none by simp [Yr, hf])
   clear ih hf
   go_wp2_with (first | (go_at_call 49; (with_reducible refine (CNf.out _).mono ?_); rintro e w1 ⟨rfl, rfl⟩) | (go_at_call 49; (with_reducible refine (CNx.out _).mono ?_); rintro e w2 ⟨rfl, rfl⟩))
   go_ret2
   exact ⟨Zo.nil HA.out, HB.out⟩
 | true =>
 rw [hf] at CNf
 cases hx : Y4 (Z1 x) with
 | false =>
   rw [hx] at CNx
   have HA := H_ (show Yr [f, x, A, B, b] = none by simp [Yr, hf, hx])
   clear ih hf hx
   go_wp2_with (first | (go_at_call 49; (with_reducible refine (CNf.out _).mono ?_); rintro e w1 ⟨rfl, rfl⟩) | (go_at_call 49; (with_reducible refine (CNx.out _).mono ?_); rintro e w2 ⟨rfl, rfl⟩))
   go_ret2
   exact ⟨Zo.nil HA.out, HB.out⟩
 | true =>
 rw [hx] at CNx
 cases hq : (Z1 f == Z1 x) with
 | true =>
   rw [hq] at heq
   have HA := H_ (show Yr [f, x, A, B, b] = none by simp [Yr, hf, hx, hq])
   clear ih hf hx hq
   go_wp2_with (first | (go_at_call 49; (with_reducible refine (CNf.out _).mono ?_); rintro e w1 ⟨rfl, rfl⟩) | (go_at_call 49; (with_reducible refine (CNx.out _).mono ?_); rintro e w2 ⟨rfl, rfl⟩))
   go_ret2
   exact ⟨Zo.nil HA.out, HB.out⟩
 | false =>
 rw [hq] at heq
 cases ha : Xr A with
 | false =>
   rw [ha] at CTA
   have HA := H_ (show Yr [f, x, A, B, b] = none by simp [Yr, hf, hx, hq, ha])
   clear ih hf hx hq ha
   go_wp2_with (first | (go_at_call 49; (with_reducible refine (CNf.out _).mono ?_); rintro e w1 ⟨rfl, rfl⟩) | (go_at_call 49; (with_reducible refine (CNx.out _).mono ?_); rintro e w2 ⟨rfl, rfl⟩) | (go_at_call 129; (with_reducible refine (CTA.out _ HB.out).mono ?_); rintro e w3 ⟨rfl, hb3⟩; have hw3 := HB.out.trans (hb3.mono HB.out.size); have Y6 := Z3 hb3 (lt_of_block y6) y6; have Y7 := Z3 hb3 (lt_of_block y7) y7; obtain ⟨m70, m71, m72, m73, m74⟩ := Y5 Y7))
   go_ret2
   exact ⟨Zo.nil HA.out, hw3⟩
 | true =>
 rw [ha] at CTA
 cases hb : Xr B with
 | false =>
   rw [hb] at CTB
   have HA := H_ (show Yr [f, x, A, B, b] = none by simp [Yr, hf, hx, hq, ha, hb])
   clear ih hf hx hq ha hb
   go_wp2_with (first | (go_at_call 49; (with_reducible refine (CNf.out _).mono ?_); rintro e w1 ⟨rfl, rfl⟩) | (go_at_call 49; (with_reducible refine (CNx.out _).mono ?_); rintro e w2 ⟨rfl, rfl⟩) | (go_at_call 129; (with_reducible refine (CTA.out _ HB.out).mono ?_); rintro e w3 ⟨rfl, hb3⟩; have hw3 := HB.out.trans (hb3.mono HB.out.size); have Y6 := Z3 hb3 (lt_of_block y6) y6; have Y7 := Z3 hb3 (lt_of_block y7) y7; obtain ⟨m70, m71, m72, m73, m74⟩ := Y5 Y7) | (go_at_call 129; refine (CTB.out _ hw3).mono ?_; rintro e w4 ⟨rfl, hb4⟩; have hw4 := hw3.trans (hb4.mono hw3.size); have Z6 := Z3 hb4 (lt_of_block Y6) Y6; have Z7 := Z3 hb4 (lt_of_block Y7) Y7; have k0 := (HE.out _ hw4 0).trans e40; have k1 := (HE.out _ hw4 1).trans e41; have k2 := (HE.out _ hw4 2).trans e42; have k3 := (HE.out _ hw4 3).trans e43; have k4 := (HE.out _ hw4 4).trans e44; simp only [Nat.add_zero] at k0))
   go_ret2
   exact ⟨Zo.nil HA.out, hw4⟩
 | true =>
 rw [hb] at CTB
 cases he : Zt b with
 | none =>
   have CE := Z00 ih hdb hwb hbb v4 hok he
   have HA := H_ (show Yr [f, x, A, B, b] = none by simp [Yr, hf, hx, hq, ha, hb, he])
   clear ih hf hx hq ha hb he
   go_wp2_with (first | (go_at_call 49; (with_reducible refine (CNf.out _).mono ?_); rintro e w1 ⟨rfl, rfl⟩) | (go_at_call 49; (with_reducible refine (CNx.out _).mono ?_); rintro e w2 ⟨rfl, rfl⟩) | (go_at_call 129; (with_reducible refine (CTA.out _ HB.out).mono ?_); rintro e w3 ⟨rfl, hb3⟩; have hw3 := HB.out.trans (hb3.mono HB.out.size); have Y6 := Z3 hb3 (lt_of_block y6) y6; have Y7 := Z3 hb3 (lt_of_block y7) y7; obtain ⟨m70, m71, m72, m73, m74⟩ := Y5 Y7) | (go_at_call 129; refine (CTB.out _ hw3).mono ?_; rintro e w4 ⟨rfl, hb4⟩; have hw4 := hw3.trans (hb4.mono hw3.size); have Z6 := Z3 hb4 (lt_of_block Y6) Y6; have Z7 := Z3 hb4 (lt_of_block Y7) Y7; have k0 := (HE.out _ hw4 0).trans e40; have k1 := (HE.out _ hw4 1).trans e41; have k2 := (HE.out _ hw4 2).trans e42; have k3 := (HE.out _ hw4 3).trans e43; have k4 := (HE.out _ hw4 4).trans e44; simp only [Nat.add_zero] at k0) | (go_at_call 70; refine (CE.out _ hw4).mono ?_; (rintro e w5 ⟨(rfl | ⟨T5, u5, rfl⟩), hb5⟩) <;> (have X6 := Z3 hb5 (lt_of_block Z6) Z6; have X7 := Z3 hb5 (lt_of_block Z7) Z7; obtain ⟨g60, g61, g62, g63, g64⟩ := Y5 X6; obtain ⟨g70, g71, g72, g73, g74⟩ := Y5 X7)))
   all_goals
    go_ret2
    exact ⟨Zo.none HA.out _ _, hw4.trans (hb5.mono hw4.size)⟩
 | some eb =>
   have CE := Vz ih hdb hwb hbb v4 hok he
   have HA := H_ (show Yr [f, x, A, B, b] = some (.func (Z1 f) (Z1 x) A B eb) by simp [Yr, hf, hx, hq, ha, hb, he])
   clear ih hf hx hq ha hb he
   go_wp2_with (first | (go_at_call 49; (with_reducible refine (CNf.out _).mono ?_); rintro e w1 ⟨rfl, rfl⟩) | (go_at_call 49; (with_reducible refine (CNx.out _).mono ?_); rintro e w2 ⟨rfl, rfl⟩) | (go_at_call 129; (with_reducible refine (CTA.out _ HB.out).mono ?_); rintro e w3 ⟨rfl, hb3⟩; have hw3 := HB.out.trans (hb3.mono HB.out.size); have Y6 := Z3 hb3 (lt_of_block y6) y6; have Y7 := Z3 hb3 (lt_of_block y7) y7; obtain ⟨m70, m71, m72, m73, m74⟩ := Y5 Y7) | (go_at_call 129; refine (CTB.out _ hw3).mono ?_; rintro e w4 ⟨rfl, hb4⟩; have hw4 := hw3.trans (hb4.mono hw3.size); have Z6 := Z3 hb4 (lt_of_block Y6) Y6; have Z7 := Z3 hb4 (lt_of_block Y7) Y7; have k0 := (HE.out _ hw4 0).trans e40; have k1 := (HE.out _ hw4 1).trans e41; have k2 := (HE.out _ hw4 2).trans e42; have k3 := (HE.out _ hw4 3).trans e43; have k4 := (HE.out _ hw4 4).trans e44; simp only [Nat.add_zero] at k0) | (go_at_call 70; refine (CE.out _ hw4).mono ?_; rintro e w5 ⟨⟨v5, rfl, hev5⟩, hb5⟩; obtain ⟨T5, u5, rfl⟩ := hev5.iface; have X6 := Z3 hb5 (lt_of_block Z6) Z6; have X7 := Z3 hb5 (lt_of_block Z7) Z7; obtain ⟨g60, g61, g62, g63, g64⟩ := Y5 X6; obtain ⟨g70, g71, g72, g73, g74⟩ := Y5 X7))
   go_ret2
   have hw5 := hw4.trans (hb5.mono hw4.size)
   exact ⟨Zo.some HA.out ⟨_, _, _, _, _, _, _, rfl, v2.below hw5 hok, v3.below hw5 hok, hev5⟩, hw5⟩
end Go.Proofs.YtjaaalojcdbcpaaGreatDoor
