/- The reference model: both types of a type with a head. The program reads 'fun'. -/
import Derived.Test.YtmgepnacjgbfhaaGreatDoorsS1z
import Derived.Deep.RegionHeld3
import Derived.Test.YtmgepnacjgbfhaaGreatDoorsI2a
import Derived.Test.YtmgepnacjgbfhaaGreatDoorsImpl1jM
import Derived.Test.YtmgepnacjgbfhaaGreatDoorsB1
import Derived.BigRegion
import Derived.Deep.CutRange
namespace Go.Proofs.YtmgepnacjgbfhaaGreatDoor
open Go.RowKit Go.Proofs.Tryz
set_option maxRecDepth 8000
set_option maxHeartbeats 20000000
set_option linter.unusedVariables false
set_option linter.unusedSimpArgs false
theorem fin_belowS {w w1 W : World} {p : Prop} (h : Below w.heap.size w w1) (k : Below w1.heap.size w1 W ∧ p) : Below w.heap.size w W := h.trans (k.1.mono h.size)
theorem l1Two_c (s : ByteArray) (hs : s.size ≤ 1048576) (hd : List UInt8) (w : World) :
 Calls prog 116 #[.string s, .string (bs hd)] w fun e w' => TwoPost (X2 hd s.data.toList) e ∧ Below w.heap.size w w' := by
 cases hp : Zt s.data.toList with
 | none =>
   have C := H_ (Vg hs hp)
   have HR := H_ (Z6f hd (Z07 hp))
   clear hp
   go_enter func116, ntmps116
   go_wp2_with (go_at_call 48; go_must (refine (C.out _).mono ?_; rintro e w1 ⟨⟨a, p, n, c, rfl, hn⟩, hb1⟩))
   go_ret3
   exact ⟨by rw [HR.out]; rfl, hb1.alloc hb1.size _⟩
 | some t =>
   have C := H_ (Qk hs hp)
   have hg := Yn hp
   have hR0 := K8 hp
   clear hp
   have T : Hid (∀ (W : World) (p : Option Addr) (n c : Nat) (ok : Nat → Prop), FV nS W ok t (nS t (.slice p n c)) → (∀ k, ok k → k < W.heap.size) → Calls prog 91 #[.agg #[.string (bs (Z0 t)), .slice p n c]] W fun e w' => e = .returned (.bool (X5 t && decide (t.size ≤ 16))) ∧ Below W.heap.size W w') :=
    H_ (fun W p n c ok h1 h2 => Z0p t p n c ok W hg.1 (by omega) h1 h2)
   cases hty : (X5 t && decide (t.size ≤ 16)) with
   | false =>
     rw [hty] at T hR0
     have HR := H_ (Z6f hd hR0)
     go_enter func116, ntmps116
     go_wp2_with (first | (go_at_call 48; go_must (refine (C.out _).mono ?_; rintro e w1 ⟨⟨p, n, c, rfl, hv⟩, hb1⟩)) | (go_at_call 91; go_must (refine (T.out _ p n c (fun k => w.heap.size ≤ k ∧ k < w1.heap.size) (hv.below (Z4 _ _) (fun k hk => hk.2)) (fun k hk => by simp; omega)).mono ?_; rintro e w2 ⟨rfl, hb2⟩)))
     go_ret3
     exact ⟨by rw [HR.out]; rfl, (hb1.alloc hb1.size _).trans (hb2.mono (by have := hb1.size; simp; omega))⟩
   | true =>
     rw [hty] at T hR0
     have hR1 : Y3 s.data.toList = some t := by rw [hR0]; rfl
     have hty1 : X5 t = true := by simp only [Bool.and_eq_true] at hty; exact hty.1
     clear hR0 hty
     match t, hty1 with
     | .atom a, hty1 =>
       have HR := H_ (Z6g hd hR1)
       have ha := Ve hg.1.1
       simp only [Z0] at C T
       go_enter func116, ntmps116
       go_wp2_with (first | (go_at_call 48; go_must (refine (C.out _).mono ?_; rintro e w1 ⟨⟨p, n, c, rfl, hv⟩, hb1⟩)) | (go_at_call 91; go_must (refine (T.out _ p n c (fun k => w.heap.size ≤ k ∧ k < w1.heap.size) (hv.below (Z4 _ _) (fun k hk => hk.2)) (fun k hk => by simp; omega)).mono ?_; rintro e w2 ⟨rfl, hb2⟩; have x0 := Z1 hb2 (by simp) (heap_alloc_new _ _); obtain ⟨t2, t3⟩ := Zp x0)))
       go_ret3
       exact ⟨by rw [HR.out]; rfl, (hb1.alloc hb1.size _).trans (hb2.mono (by have := hb1.size; simp; omega))⟩
     | .list ts, hty1 =>
       obtain ⟨x, a, b, rfl, hx, hta, htb⟩ := Q3 hty1
       have ha := Ju
       simp only [Z0] at C T
       have hwa : a.wf := hg.1.2.2.1
       have hwb : b.wf := hg.1.2.2.2.1
       have hdd := Jv x a b
       have hbb := bytes3 x a b
       have LA : Hid (∀ (W : World) (p : Option Addr) (n c : Nat) (ok : Nat → Prop), FV nS W ok a (nS a (.slice p n c)) → (∀ k, ok k → k < W.heap.size) → Calls prog 54 #[.agg #[.string (bs (Z0 a)), .slice p n c]] W fun e w' => e = .returned (.string (bs a.text)) ∧ Below W.heap.size W w') :=
        H_ (fun W p n c ok h1 h2 => Vx (a.depth + 1) a _ ok W (by omega) hwa (by omega) h1 h2)
       have LB : Hid (∀ (W : World) (p : Option Addr) (n c : Nat) (ok : Nat → Prop), FV nS W ok b (nS b (.slice p n c)) → (∀ k, ok k → k < W.heap.size) → Calls prog 54 #[.agg #[.string (bs (Z0 b)), .slice p n c]] W fun e w' => e = .returned (.string (bs b.text)) ∧ Below W.heap.size W w') :=
        H_ (fun W p n c ok h1 h2 => Vx (b.depth + 1) b _ ok W (by omega) hwb (by omega) h1 h2)
       cases hxh : (Z0 x == hd) with
       | false =>
         have hx2 : ((bs (Z0 x)).toList == (bs hd).toList) = false := by rw [Z8, Z8]; exact hxh
         have HR := H_ (sides_no hd hR1 (by simpa using hxh))
         clear hxh hx
         go_enter func116, ntmps116
         go_wp2_with (first | (go_at_call 48; go_must (refine (C.out _).mono ?_; rintro e w1 ⟨⟨p, n, c, rfl, hv⟩, hb1⟩)) | (go_at_call 91; go_must (have hv' := hv.below (Z4 w1 (.cells #[.string (bs []), .slice p n c] 55)) (fun k hk => hk.2); refine (T.out _ p n c (fun k => w.heap.size ≤ k ∧ k < w1.heap.size) hv' (fun k hk => by simp; omega)).mono ?_; rintro e w2 ⟨rfl, hb2⟩; have hv2 := hv'.below hb2 (fun k hk => by simp; omega); have x0 := Z1 hb2 (by simp) (heap_alloc_new w1 (.cells #[.string (bs []), .slice p n c] 55)); obtain ⟨r, off, cap, xs, hh, h2, h3, h4, h5, h6⟩ := FV.list_cells hv2; have hh' := nS_inj _ _ _ hh; simp only [Value.slice.injEq] at hh'; obtain ⟨rfl, rfl, rfl⟩ := hh'; clear hh hv hv' hv2; obtain ⟨⟨p0, n0, q0, v0, r0⟩, ⟨p1, n1, q1, v1, r1⟩, ⟨p2, n2, q2, v2, r2⟩⟩ := FVs.three Qp h6 h5; have hr2 : r < w2.heap.size := (by have := hb2.size; simp at this; omega); have t1 : w2.cell? ⟨r, off, none⟩ = some (.string (bs (Z0 x))) := r0 0 _ rfl; obtain ⟨t2, t3⟩ := Zp x0; have v0 := FV.wide v0 (fun k hk => (by have := hb2.size; simp at this; omega : k < w2.heap.size)); have v1 := FV.wide v1 (fun k hk => (by have := hb2.size; simp at this; omega : k < w2.heap.size)); have v2 := FV.wide v2 (fun k hk => (by have := hb2.size; simp at this; omega : k < w2.heap.size)); have h3' := Zx h4)))
         go_ret3
         exact ⟨by rw [HR.out]; rfl, (hb1.alloc hb1.size _).trans (hb2.mono (by have := hb1.size; simp; omega))⟩
       | true =>
         have hx2 : ((bs (Z0 x)).toList == (bs hd).toList) = true := by rw [Z8, Z8]; exact hxh
         have HR := H_ (sides_yes hd hR1 (by simpa using hxh))
         clear hxh hx
         go_enter func116, ntmps116
         go_wp2_with (first | (go_at_call 48; go_must (refine (C.out _).mono ?_; rintro e w1 ⟨⟨p, n, c, rfl, hv⟩, hb1⟩)) | (go_at_call 91; go_must (have hv' := hv.below (Z4 w1 (.cells #[.string (bs []), .slice p n c] 55)) (fun k hk => hk.2); refine (T.out _ p n c (fun k => w.heap.size ≤ k ∧ k < w1.heap.size) hv' (fun k hk => by simp; omega)).mono ?_; rintro e w2 ⟨rfl, hb2⟩; have hv2 := hv'.below hb2 (fun k hk => by simp; omega); have x0 := Z1 hb2 (by simp) (heap_alloc_new w1 (.cells #[.string (bs []), .slice p n c] 55)); obtain ⟨r, off, cap, xs, hh, h2, h3, h4, h5, h6⟩ := FV.list_cells hv2; have hh' := nS_inj _ _ _ hh; simp only [Value.slice.injEq] at hh'; obtain ⟨rfl, rfl, rfl⟩ := hh'; clear hh hv hv' hv2; obtain ⟨⟨p0, n0, q0, v0, r0⟩, ⟨p1, n1, q1, v1, r1⟩, ⟨p2, n2, q2, v2, r2⟩⟩ := FVs.three Qp h6 h5; have hr2 : r < w2.heap.size := (by have := hb2.size; simp at this; omega); have t1 : w2.cell? ⟨r, off, none⟩ = some (.string (bs (Z0 x))) := r0 0 _ rfl; obtain ⟨t2, t3⟩ := Zp x0; have v0 := FV.wide v0 (fun k hk => (by have := hb2.size; simp at this; omega : k < w2.heap.size)); have v1 := FV.wide v1 (fun k hk => (by have := hb2.size; simp at this; omega : k < w2.heap.size)); have v2 := FV.wide v2 (fun k hk => (by have := hb2.size; simp at this; omega : k < w2.heap.size)); have h3' := Zx h4)))
         have HW2 : Hid (Below w.heap.size w w2) := H_ ((hb1.alloc hb1.size _).trans (hb2.mono (by have := hb1.size; simp; omega)))
         have hW2 := HW2.out.size
         have y1 := Z2 (j := 1) x0
         have K : Hid (∀ W, Below w2.heap.size w2 W → (fun W => Below w2.heap.size w2 W ∧ W.cell? ⟨w1.heap.size, 1, none⟩ = some (.slice (some ⟨r, off, none⟩) 3 c) ∧ (W.cell? ⟨r, off + 2, none⟩ = some (.string (bs (Z0 a))) ∧ W.cell? ⟨r, off + 2 + 1, none⟩ = some (.slice p1 n1 q1)) ∧ (W.cell? ⟨r, off + 4, none⟩ = some (.string (bs (Z0 b))) ∧ W.cell? ⟨r, off + 4 + 1, none⟩ = some (.slice p2 n2 q2))) W) :=
          H_ (fun W hW => ⟨hW, (hW.cell (p := ⟨w1.heap.size, 1, none⟩) (lt_of_block x0)).trans y1,
           ⟨(hW.cell (p := ⟨r, off + 2, none⟩) hr2).trans (r1 0 _ rfl), (hW.cell (p := ⟨r, off + 2 + 1, none⟩) hr2).trans (r1 1 _ rfl)⟩, (hW.cell (p := ⟨r, off + 4, none⟩) hr2).trans (r2 0 _ rfl), (hW.cell (p := ⟨r, off + 4 + 1, none⟩) hr2).trans (r2 1 _ rfl)⟩)
         have S0 := H_ (K.out _ ((Below.refl _ _).drew))
         have VA := H_ v1
         have VB := H_ v2
         clear y1 v0 v1 v2 r0 r1 r2 hb1 hb2 x0
         go_region_held3 (fun W => Below w2.heap.size w2 W ∧ W.cell? ⟨w1.heap.size, 1, none⟩ = some (.slice (some ⟨r, off, none⟩) 3 c) ∧ (W.cell? ⟨r, off + 2, none⟩ = some (.string (bs (Z0 a))) ∧ W.cell? ⟨r, off + 2 + 1, none⟩ = some (.slice p1 n1 q1)) ∧ (W.cell? ⟨r, off + 4, none⟩ = some (.string (bs (Z0 b))) ∧ W.cell? ⟨r, off + 4 + 1, none⟩ = some (.slice p2 n2 q2)))
          (first | exact S0.out | assumption)
          (first | (go_at_call 54; have hh := And.left (by assumption : Below w2.heap.size w2 _ ∧ _); first | ((with_reducible refine (LA.out _ p1 n1 q1 (fun k => k < w2.heap.size) (VA.out.below hh (fun k hk => hk)) (fun k hk => Nat.lt_of_lt_of_le hk hh.size)).mono ?_); rintro e w' ⟨rfl, hb9⟩; have hS2 := K.out _ (hh.trans (hb9.mono hh.size))) | ((with_reducible refine (LB.out _ p2 n2 q2 (fun k => k < w2.heap.size) (VB.out.below hh (fun k hk => hk)) (fun k hk => Nat.lt_of_lt_of_le hk hh.size)).mono ?_); rintro e w' ⟨rfl, hb9⟩; have hS2 := K.out _ (hh.trans (hb9.mono hh.size)))))
         all_goals
          go_wp2_with fail
          go_ret3
          exact ⟨by rw [HR.out]; rfl, fin_belowS HW2.out (by assumption)⟩
theorem asFun_bad (p : Option Addr) (m c : Nat) (hm : m ≠ 5) (hm2 : m ≤ 1000000000) (w : World) :
 Calls prog 79 #[.slice p m c] w fun e w' => e = .returned (.tuple #[.nilIface, .bool false]) ∧ Below w.heap.size w w' := by
 have hl' : ((m : Int) == 5) = false := by simp; omega
 have hl2 : ¬ (m : Int) = 5 := by omega
 go_enter func79, ntmps79
 go_wp2_with fail
 go_ret2
 exact ⟨rfl, Below.refl _ _⟩
theorem kid_I {w : World} {ok : Nat → Prop} {ts : List Tr} {xs : List Value} {r off : Nat} (h6 : FVs nI w ok ts xs) (h5 : Yc w r off xs) (i : Nat) (hi : i < ts.length) :
 ∃ p m c, FV nI w ok ts[i] (nI ts[i] (.slice p m c)) ∧ (w.cell? ⟨r, off + i * 5, none⟩ = some (.string (bs (Z0 ts[i]))) ∧ w.cell? ⟨r, off + i * 5 + 1, none⟩ = some (.slice p m c) ∧ w.cell? ⟨r, off + i * 5 + 2, none⟩ = some (.int .i64 ts[i].bytes) ∧ w.cell? ⟨r, off + i * 5 + 3, none⟩ = some (.int .i64 ts[i].size) ∧ w.cell? ⟨r, off + i * 5 + 4, none⟩ = some (.int .i64 ts[i].depth)) := by
 obtain ⟨cs, g1, g2⟩ := FVs.get Xz h6 h5 i hi
 obtain ⟨p, pn, pc, rfl⟩ := g1.node
 exact ⟨p, pn, pc, g1, g2 0 _ rfl, g2 1 _ rfl, g2 2 _ rfl, g2 3 _ rfl, g2 4 _ rfl⟩
theorem asFun_c (n : Nat) (ih : Z2b n) (f x A B b : Tr) (c : Nat) (ok : Nat → Prop) (w : World) (r off : Nat) (xs : List Value) (hdb : b.depth < n) (hwA : A.wf) (hwB : B.wf) (hwb : b.wf) (hbf : f.bytes ≤ 12000) (hbx : x.bytes ≤ 12000) (hbA : A.bytes ≤ 12000) (hbB : B.bytes ≤ 12000) (hbb : b.bytes ≤ 12000)
 (h5 : Yc w r off xs) (h6 : FVs nI w ok [f, x, A, B, b] xs) (hrlt : r < w.heap.size) (hok : ∀ k, ok k → k < w.heap.size) (hc : 5 ≤ c) (hc2 : c ≤ maxLen) :
 Calls prog 79 #[.slice (some ⟨r, off, none⟩) 5 c] w fun e w' => Zu ok (X3 [f, x, A, B, b]) e w' ∧ Below w.heap.size w w' := by
 have hc3 := Zx hc2
 obtain ⟨p0, n0, q0, v0, e00, -⟩ := kid_I h6 h5 0 (by simp)
 obtain ⟨p1, n1, q1, v1, e10, -⟩ := kid_I h6 h5 1 (by simp)
 obtain ⟨p2, n2, q2, v2, e20, e21, e22, e23, e24⟩ := kid_I h6 h5 2 (by simp)
 obtain ⟨p3, n3, q3, v3, e30, e31, e32, e33, e34⟩ := kid_I h6 h5 3 (by simp)
 obtain ⟨p4, n4, q4, v4, e40, e41, e42, e43, e44⟩ := kid_I h6 h5 4 (by simp)
 simp only [Nat.reduceMul, Nat.zero_mul, Nat.add_zero, List.getElem_cons_zero, List.getElem_cons_succ] at v2 v3 v4 e00 e10 e20 e21 e22 e23 e24 e30 e31 e32 e33 e34 e40 e41 e42 e43 e44
 clear v0 v1
 go_enter func79, ntmps79
 go_wp2_with fail
 go_cut [4, 5, 6, 7] from 13 to 26 (fun t4 t5 t6 t7 W => t4 = .string (bs (Z0 f)) ∧ t5 = .string (bs (Z0 x)) ∧ ∃ b6 b7, t6 = .pointer (some ⟨b6, 0, none⟩) ∧ t7 = .pointer (some ⟨b7, 0, none⟩) ∧ W.heap[b6]? = some (.cells #[.string (bs (Z0 A)), .slice p2 n2 q2, .int .i64 A.bytes, .int .i64 A.size, .int .i64 A.depth] 49 (0, 0)) ∧ W.heap[b7]? = some (.cells #[.string (bs (Z0 B)), .slice p3 n3 q3, .int .i64 B.bytes, .int .i64 B.size, .int .i64 B.depth] 49 (0, 0)) ∧ Hid (Below w.heap.size w W))
 case first =>
  clear ih h5 h6 v2 v3 v4
  go_big_region
  all_goals
   go_wp2_with fail
   go_meet
   first
    | exact ⟨rfl, rfl, _, _, rfl, rfl, Z5 (heap_alloc_new _ _), Z9 _ _ _, H_ (Zi w _ _).drew⟩
    | exact ⟨rfl, rfl, _, _, rfl, rfl, Z9 _ _ _, Z5 (heap_alloc_new _ _), H_ (Zi w _ _).drew⟩
 case rest =>
 obtain ⟨rfl, rfl, b6, b7, rfl, rfl, y6, y7, HB⟩ := hcut
 have hlf : (Z0 f).length ≤ 1048576 := by have := Z27 f; omega
 have hlx : (Z0 x).length ≤ 1048576 := by have := Z27 x; omega
 have hsA := (Q2 A hwA).1
 have hsB := (Q2 B hwB).1
 have CNf : Hid (∀ W, Calls prog 30 #[.string (bs (Z0 f))] W fun e w' => e = .returned (.bool (Yl (Z0 f))) ∧ w' = W) := H_ (fun W => Z0r _ hlf W)
 have CNx : Hid (∀ W, Calls prog 30 #[.string (bs (Z0 x))] W fun e w' => e = .returned (.bool (Yl (Z0 x))) ∧ w' = W) := H_ (fun W => Z0r _ hlx W)
 have CTA : Hid (∀ W, Below w.heap.size w W → Calls prog 60 #[.agg #[.string (bs (Z0 A)), .slice p2 n2 q2, .int .i64 A.bytes, .int .i64 A.size, .int .i64 A.depth]] W fun e w' => e = .returned (.bool (Zn A)) ∧ Below W.heap.size W w') := H_ (fun W hW => Vd A p2 n2 q2 ok W hwA (by omega) (v2.below hW hok) (Kg hok hW))
 have CTB : Hid (∀ W, Below w.heap.size w W → Calls prog 60 #[.agg #[.string (bs (Z0 B)), .slice p3 n3 q3, .int .i64 B.bytes, .int .i64 B.size, .int .i64 B.depth]] W fun e w' => e = .returned (.bool (Zn B)) ∧ Below W.heap.size W w') := H_ (fun W hW => Vd B p3 n3 q3 ok W hwB (by omega) (v3.below hW hok) (Kg hok hW))
 have heq : ((bs (Z0 f)).toList == (bs (Z0 x)).toList) = (Z0 f == Z0 x) := by rw [Z8, Z8]
 have HE := H_ (fun (W : World) (h : Below w.heap.size w W) j => h.cell (p := ⟨r, off + 20 + j, none⟩) hrlt)
 clear e00 e10 e20 e21 e22 e23 e24 e30 e31 e32 e33 e34 hlf hlx hsA hsB
 obtain ⟨s60, s61, s62, s63, s64⟩ := Zb y6
 obtain ⟨s70, s71, s72, s73, s74⟩ := Zb y7
 cases hf : Yl (Z0 f) with
 | false =>
   rw [hf] at CNf
   have HA := H_ (show X3 [f, x, A, B, b] = none by simp [X3, hf])
   clear ih hf
   go_wp2_with (first | (go_at_call 30; (with_reducible refine (CNf.out _).mono ?_); rintro e w1 ⟨rfl, rfl⟩) | (go_at_call 30; (with_reducible refine (CNx.out _).mono ?_); rintro e w2 ⟨rfl, rfl⟩))
   go_ret2
   exact ⟨Zu.nil HA.out, HB.out⟩
 | true =>
 rw [hf] at CNf
 cases hx : Yl (Z0 x) with
 | false =>
   rw [hx] at CNx
   have HA := H_ (show X3 [f, x, A, B, b] = none by simp [X3, hf, hx])
   clear ih hf hx
   go_wp2_with (first | (go_at_call 30; (with_reducible refine (CNf.out _).mono ?_); rintro e w1 ⟨rfl, rfl⟩) | (go_at_call 30; (with_reducible refine (CNx.out _).mono ?_); rintro e w2 ⟨rfl, rfl⟩))
   go_ret2
   exact ⟨Zu.nil HA.out, HB.out⟩
 | true =>
 rw [hx] at CNx
 cases hq : (Z0 f == Z0 x) with
 | true =>
   rw [hq] at heq
   have HA := H_ (show X3 [f, x, A, B, b] = none by simp [X3, hf, hx, hq])
   clear ih hf hx hq
   go_wp2_with (first | (go_at_call 30; (with_reducible refine (CNf.out _).mono ?_); rintro e w1 ⟨rfl, rfl⟩) | (go_at_call 30; (with_reducible refine (CNx.out _).mono ?_); rintro e w2 ⟨rfl, rfl⟩))
   go_ret2
   exact ⟨Zu.nil HA.out, HB.out⟩
 | false =>
 rw [hq] at heq
 cases ha : Zn A with
 | false =>
   rw [ha] at CTA
   have HA := H_ (show X3 [f, x, A, B, b] = none by simp [X3, hf, hx, hq, ha])
   clear ih hf hx hq ha
   go_wp2_with (first | (go_at_call 30; (with_reducible refine (CNf.out _).mono ?_); rintro e w1 ⟨rfl, rfl⟩) | (go_at_call 30; (with_reducible refine (CNx.out _).mono ?_); rintro e w2 ⟨rfl, rfl⟩) | (go_at_call 60; (with_reducible refine (CTA.out _ HB.out).mono ?_); rintro e w3 ⟨rfl, hb3⟩; have hw3 := HB.out.trans (hb3.mono HB.out.size); have Y6 := Z1 hb3 (lt_of_block y6) y6; have Y7 := Z1 hb3 (lt_of_block y7) y7; obtain ⟨m70, m71, m72, m73, m74⟩ := Zb Y7))
   go_ret2
   exact ⟨Zu.nil HA.out, hw3⟩
 | true =>
 rw [ha] at CTA
 cases hb : Zn B with
 | false =>
   rw [hb] at CTB
   have HA := H_ (show X3 [f, x, A, B, b] = none by simp [X3, hf, hx, hq, ha, hb])
   clear ih hf hx hq ha hb
   go_wp2_with (first | (go_at_call 30; (with_reducible refine (CNf.out _).mono ?_); rintro e w1 ⟨rfl, rfl⟩) | (go_at_call 30; (with_reducible refine (CNx.out _).mono ?_); rintro e w2 ⟨rfl, rfl⟩) | (go_at_call 60; (with_reducible refine (CTA.out _ HB.out).mono ?_); rintro e w3 ⟨rfl, hb3⟩; have hw3 := HB.out.trans (hb3.mono HB.out.size); have Y6 := Z1 hb3 (lt_of_block y6) y6; have Y7 := Z1 hb3 (lt_of_block y7) y7; obtain ⟨m70, m71, m72, m73, m74⟩ := Zb Y7) | (go_at_call 60; refine (CTB.out _ hw3).mono ?_; rintro e w4 ⟨rfl, hb4⟩; have hw4 := hw3.trans (hb4.mono hw3.size); have Z6 := Z1 hb4 (lt_of_block Y6) Y6; have Z7 := Z1 hb4 (lt_of_block Y7) Y7; have k0 := (HE.out _ hw4 0).trans e40; have k1 := (HE.out _ hw4 1).trans e41; have k2 := (HE.out _ hw4 2).trans e42; have k3 := (HE.out _ hw4 3).trans e43; have k4 := (HE.out _ hw4 4).trans e44; simp only [Nat.add_zero] at k0))
   go_ret2
   exact ⟨Zu.nil HA.out, hw4⟩
 | true =>
 rw [hb] at CTB
 cases he : Yg b with
 | none =>
   have CE := Z2m ih hdb hwb hbb v4 hok he
   have HA := H_ (show X3 [f, x, A, B, b] = none by simp [X3, hf, hx, hq, ha, hb, he])
   clear ih hf hx hq ha hb he
   go_wp2_with (first | (go_at_call 30; (with_reducible refine (CNf.out _).mono ?_); rintro e w1 ⟨rfl, rfl⟩) | (go_at_call 30; (with_reducible refine (CNx.out _).mono ?_); rintro e w2 ⟨rfl, rfl⟩) | (go_at_call 60; (with_reducible refine (CTA.out _ HB.out).mono ?_); rintro e w3 ⟨rfl, hb3⟩; have hw3 := HB.out.trans (hb3.mono HB.out.size); have Y6 := Z1 hb3 (lt_of_block y6) y6; have Y7 := Z1 hb3 (lt_of_block y7) y7; obtain ⟨m70, m71, m72, m73, m74⟩ := Zb Y7) | (go_at_call 60; refine (CTB.out _ hw3).mono ?_; rintro e w4 ⟨rfl, hb4⟩; have hw4 := hw3.trans (hb4.mono hw3.size); have Z6 := Z1 hb4 (lt_of_block Y6) Y6; have Z7 := Z1 hb4 (lt_of_block Y7) Y7; have k0 := (HE.out _ hw4 0).trans e40; have k1 := (HE.out _ hw4 1).trans e41; have k2 := (HE.out _ hw4 2).trans e42; have k3 := (HE.out _ hw4 3).trans e43; have k4 := (HE.out _ hw4 4).trans e44; simp only [Nat.add_zero] at k0) | (go_at_call 41; refine (CE.out _ hw4).mono ?_; (rintro e w5 ⟨(rfl | ⟨T5, u5, rfl⟩), hb5⟩) <;> (have X6 := Z1 hb5 (lt_of_block Z6) Z6; have X7 := Z1 hb5 (lt_of_block Z7) Z7; obtain ⟨g60, g61, g62, g63, g64⟩ := Zb X6; obtain ⟨g70, g71, g72, g73, g74⟩ := Zb X7)))
   all_goals
    go_ret2
    exact ⟨Zu.none HA.out _ _, hw4.trans (hb5.mono hw4.size)⟩
 | some eb =>
   have CE := Z2l ih hdb hwb hbb v4 hok he
   have HA := H_ (show X3 [f, x, A, B, b] = some (.func (Z0 f) (Z0 x) A B eb) by simp [X3, hf, hx, hq, ha, hb, he])
   clear ih hf hx hq ha hb he
   go_wp2_with (first | (go_at_call 30; (with_reducible refine (CNf.out _).mono ?_); rintro e w1 ⟨rfl, rfl⟩) | (go_at_call 30; (with_reducible refine (CNx.out _).mono ?_); rintro e w2 ⟨rfl, rfl⟩) | (go_at_call 60; (with_reducible refine (CTA.out _ HB.out).mono ?_); rintro e w3 ⟨rfl, hb3⟩; have hw3 := HB.out.trans (hb3.mono HB.out.size); have Y6 := Z1 hb3 (lt_of_block y6) y6; have Y7 := Z1 hb3 (lt_of_block y7) y7; obtain ⟨m70, m71, m72, m73, m74⟩ := Zb Y7) | (go_at_call 60; refine (CTB.out _ hw3).mono ?_; rintro e w4 ⟨rfl, hb4⟩; have hw4 := hw3.trans (hb4.mono hw3.size); have Z6 := Z1 hb4 (lt_of_block Y6) Y6; have Z7 := Z1 hb4 (lt_of_block Y7) Y7; have k0 := (HE.out _ hw4 0).trans e40; have k1 := (HE.out _ hw4 1).trans e41; have k2 := (HE.out _ hw4 2).trans e42; have k3 := (HE.out _ hw4 3).trans e43; have k4 := (HE.out _ hw4 4).trans e44; simp only [Nat.add_zero] at k0) | (go_at_call 41; refine (CE.out _ hw4).mono ?_; rintro e w5 ⟨⟨v5, rfl, hev5⟩, hb5⟩; obtain ⟨T5, u5, rfl⟩ := hev5.iface; have X6 := Z1 hb5 (lt_of_block Z6) Z6; have X7 := Z1 hb5 (lt_of_block Z7) Z7; obtain ⟨g60, g61, g62, g63, g64⟩ := Zb X6; obtain ⟨g70, g71, g72, g73, g74⟩ := Zb X7))
   go_ret2
   have hw5 := hw4.trans (hb5.mono hw4.size)
   exact ⟨Zu.some HA.out ⟨_, _, _, _, _, _, _, rfl, v2.below hw5 hok, v3.below hw5 hok, hev5⟩, hw5⟩
end Go.Proofs.YtmgepnacjgbfhaaGreatDoor
