/- The program puts a closed expression for a name. -/
import Derived.Test.YtjaaalojcdbcpaaGreatDoorlImpl2w
set_option maxHeartbeats 20000000
set_option linter.unusedVariables false
set_option linter.unusedSimpArgs false
namespace Go.Proofs.YtjaaalojcdbcpaaGreatDoor
open Go.RowKit Go.Proofs.Tryz
set_option maxRecDepth 8000
def PtC (name : Nm) (b x : Ex) : Prop := ∀ (v vb : Value) (B : Nat) (w : World), EV w (fun k => k < B) x v → EV w (fun k => k < B) b vb → B ≤ w.heap.size →
    Calls prog 52 #[v, .string (bs name), vb] w fun e w' => (∃ v', e = .returned v' ∧ EV w' (fun k => k < B) (Zs name b x) v') ∧ Below w.heap.size w w'
theorem putcl_c (B b1 b2 : Nat) (T : TypeId) (u vb : Value) (s : ByteArray) (f : Ex) (W : World) (h1 : W.cell? ⟨b1, 0, none⟩ = some (.string s)) (h2 : W.cell? ⟨b2, 0, none⟩ = some vb) (C : Calls prog 52 #[.iface T u, .string s, vb] W fun e w' => (∃ v', e = .returned v' ∧ EV w' (fun k => k < B) f v') ∧ Below W.heap.size W w') :
 Calls prog 95 #[.iface T u, .pointer (some ⟨b1, 0, none⟩), .pointer (some ⟨b2, 0, none⟩)] W fun e w' => (∃ v', e = .returned v' ∧ EV w' (fun k => k < B) f v') ∧ Below W.heap.size W w' := by
 have C := H_ C
 go_enter func95, ntmps95
 go_wp2_with (go_at_call 52; go_must (refine (C.out).mono ?_; rintro e w2 ⟨⟨v', rfl, hv'⟩, hb2⟩))
 go_ret
 exact ⟨⟨_, rfl, hv'⟩, hb2⟩
theorem Jj {name : Nm} {b x : Ex} {B : Nat} {T Tb : TypeId} {u ub : Value} {w : World} (ih : PtC name b x) (hv : EV w (fun k => k < B) x (.iface T u)) (hb : EV w (fun k => k < B) b (.iface Tb ub)) (hB : B ≤ w.heap.size) :
 ∀ w1 : World, Below w.heap.size w w1 → w1.heap[w.heap.size]? = some (.cells #[.string (bs name)] 9 (0, 0)) → w1.heap[w.heap.size + 1]? = some (.cells #[.iface Tb ub] 53 (0, 0)) → ChC B w1 (.pointer (some ⟨w.heap.size, 0, none⟩)) (.pointer (some ⟨w.heap.size + 1, 0, none⟩)) T u (Zs name b x) := fun w1 h1 q1 q2 W hW => by
 have hs := h1.size
 have k1 := Z2 hW (lt_of_block q1) q1
 have k2 := Z2 hW (lt_of_block q2) q2
 have hw := h1.trans (hW.mono hs)
 exact putcl_c B _ _ T u _ _ _ W (Z4 k1) (Z4 k2) (ih _ _ B W (hv.on hB hw) (hb.on hB hw) (by have := hw.size; omega))
theorem pt_num (name : Nm) (b : Ex) (n : Int) : PtC name b (.num n) := by
 intro v vb B w hv hb hB
 obtain ⟨Tb, ub, rfl⟩ := hb.iface
 simp only [EV] at hv
 subst hv
 have HE : Hid (∀ w' : World, EV w' (fun k => k < B) (.num n) (.iface 141 (.agg #[.int .i64 n]))) := H_ (fun w' => by simp only [EV])
 rw [show Zs name b (.num n) = .num n from rfl]
 go_enter func52, ntmps52
 go_wp2_with (go_at_call 217; go_must (refine (Z4r _ _ rfl _ _).mono ?_; rintro e w2 ⟨rfl, hb2⟩))
 go_ret
 exact ⟨⟨_, rfl, HE.out _⟩, (Zl w _ _).trans (hb2.mono (by simp; omega))⟩
theorem pt_name (name : Nm) (b : Ex) (s : Nm) : PtC name b (.name s) := by
 intro v vb B w hv hb hB
 obtain ⟨Tb, ub, rfl⟩ := hb.iface
 simp only [EV] at hv
 subst hv
 by_cases he : s = name
 · subst he
   have HP := H_ (show Zs s b (.name s) = b by simp [Zs])
   rw [HP.out]
   go_enter func52, ntmps52
   go_wp2_with fail
   go_ret
   exact ⟨⟨_, rfl, hb.on hB (Qf w _ _ _)⟩, Qf w _ _ _⟩
 · have HP := H_ (show Zs name b (.name s) = .name s by simp [Zs, he])
   rw [HP.out]
   have hx2 : ((bs s).toList == (bs name).toList) = false := by rw [Z9, Z9]; simpa using he
   have hx3 : ¬ (bs s).toList = (bs name).toList := by rw [Z9, Z9]; exact he
   have HE : Hid (∀ w' : World, EV w' (fun k => k < B) (.name s) (.iface 110 (.agg #[.string (bs s)]))) := H_ (fun w' => by simp only [EV])
   generalize bs s = S at *
   clear he
   go_enter func52, ntmps52
   go_wp2_with (go_at_call 213; go_must (refine (map_name_c _ _ rfl _ _).mono ?_; rintro e w2 ⟨rfl, hb2⟩))
   go_ret
   exact ⟨⟨_, rfl, HE.out _⟩, (Qf w _ _ _).trans (hb2.mono (by simp; omega))⟩
theorem pt_add (name : Nm) (b a c : Ex) (iha : PtC name b a) (ihc : PtC name b c) : PtC name b (.two .add a c) := by
 intro v vb B w hv hb hB
 obtain ⟨Tb, ub, rfl⟩ := hb.iface
 simp only [EV] at hv
 obtain ⟨x, y, rfl, hx, hy⟩ := hv
 obtain ⟨Tx, ux, rfl⟩ := hx.iface
 have HKx := H_ (Jj iha hx hb hB)
 obtain ⟨Ty, uy, rfl⟩ := hy.iface
 have HKy := H_ (Jj ihc hy hb hB)
 simp only [Zs]
 try simp only [Kv, Vg]
 clear iha ihc hb hx hy
 go_enter func52, ntmps52
 go_wp2_with (go_at_call 220; go_must (refine (map_add_c B Tx Ty ux uy _ _ _ _ _ (by simp; omega) (HKx.out _ (Zl w _ _) (Z8 (heap_alloc_new _ _)) (Za _ _ _)) (HKy.out _ (Zl w _ _) (Z8 (heap_alloc_new _ _)) (Za _ _ _))).mono ?_; rintro e w2 ⟨⟨v', rfl, hv'⟩, hb2⟩))
 go_ret
 exact ⟨⟨_, rfl, hv'⟩, (Zl w _ _).trans (hb2.mono (by simp; omega))⟩
theorem pt_sub (name : Nm) (b a c : Ex) (iha : PtC name b a) (ihc : PtC name b c) : PtC name b (.two .sub a c) := by
 intro v vb B w hv hb hB
 obtain ⟨Tb, ub, rfl⟩ := hb.iface
 simp only [EV] at hv
 obtain ⟨x, y, rfl, hx, hy⟩ := hv
 obtain ⟨Tx, ux, rfl⟩ := hx.iface
 have HKx := H_ (Jj iha hx hb hB)
 obtain ⟨Ty, uy, rfl⟩ := hy.iface
 have HKy := H_ (Jj ihc hy hb hB)
 simp only [Zs]
 try simp only [Kv, Vg]
 clear iha ihc hb hx hy
 go_enter func52, ntmps52
 go_wp2_with (go_at_call 223; go_must (refine (map_sub_c B Tx Ty ux uy _ _ _ _ _ (by simp; omega) (HKx.out _ (Zl w _ _) (Z8 (heap_alloc_new _ _)) (Za _ _ _)) (HKy.out _ (Zl w _ _) (Z8 (heap_alloc_new _ _)) (Za _ _ _))).mono ?_; rintro e w2 ⟨⟨v', rfl, hv'⟩, hb2⟩))
 go_ret
 exact ⟨⟨_, rfl, hv'⟩, (Zl w _ _).trans (hb2.mono (by simp; omega))⟩
theorem pt_mul (name : Nm) (b a c : Ex) (iha : PtC name b a) (ihc : PtC name b c) : PtC name b (.two .mul a c) := by
 intro v vb B w hv hb hB
 obtain ⟨Tb, ub, rfl⟩ := hb.iface
 simp only [EV] at hv
 obtain ⟨x, y, rfl, hx, hy⟩ := hv
 obtain ⟨Tx, ux, rfl⟩ := hx.iface
 have HKx := H_ (Jj iha hx hb hB)
 obtain ⟨Ty, uy, rfl⟩ := hy.iface
 have HKy := H_ (Jj ihc hy hb hB)
 simp only [Zs]
 try simp only [Kv, Vg]
 clear iha ihc hb hx hy
 go_enter func52, ntmps52
 go_wp2_with (go_at_call 225; go_must (refine (map_mul_c B Tx Ty ux uy _ _ _ _ _ (by simp; omega) (HKx.out _ (Zl w _ _) (Z8 (heap_alloc_new _ _)) (Za _ _ _)) (HKy.out _ (Zl w _ _) (Z8 (heap_alloc_new _ _)) (Za _ _ _))).mono ?_; rintro e w2 ⟨⟨v', rfl, hv'⟩, hb2⟩))
 go_ret
 exact ⟨⟨_, rfl, hv'⟩, (Zl w _ _).trans (hb2.mono (by simp; omega))⟩
theorem pt_call (name : Nm) (b a c : Ex) (iha : PtC name b a) (ihc : PtC name b c) : PtC name b (.two .call a c) := by
 intro v vb B w hv hb hB
 obtain ⟨Tb, ub, rfl⟩ := hb.iface
 simp only [EV] at hv
 obtain ⟨x, y, rfl, hx, hy⟩ := hv
 obtain ⟨Tx, ux, rfl⟩ := hx.iface
 have HKx := H_ (Jj iha hx hb hB)
 obtain ⟨Ty, uy, rfl⟩ := hy.iface
 have HKy := H_ (Jj ihc hy hb hB)
 simp only [Zs]
 try simp only [Kv, Vg]
 clear iha ihc hb hx hy
 go_enter func52, ntmps52
 go_wp2_with (go_at_call 230; go_must (refine (map_call_c B Tx Ty ux uy _ _ _ _ _ (by simp; omega) (HKx.out _ (Zl w _ _) (Z8 (heap_alloc_new _ _)) (Za _ _ _)) (HKy.out _ (Zl w _ _) (Z8 (heap_alloc_new _ _)) (Za _ _ _))).mono ?_; rintro e w2 ⟨⟨v', rfl, hv'⟩, hb2⟩))
 go_ret
 exact ⟨⟨_, rfl, hv'⟩, (Zl w _ _).trans (hb2.mono (by simp; omega))⟩
theorem pt_pair (name : Nm) (b a c : Ex) (iha : PtC name b a) (ihc : PtC name b c) : PtC name b (.two .pair a c) := by
 intro v vb B w hv hb hB
 obtain ⟨Tb, ub, rfl⟩ := hb.iface
 simp only [EV] at hv
 obtain ⟨x, y, rfl, hx, hy⟩ := hv
 obtain ⟨Tx, ux, rfl⟩ := hx.iface
 have HKx := H_ (Jj iha hx hb hB)
 obtain ⟨Ty, uy, rfl⟩ := hy.iface
 have HKy := H_ (Jj ihc hy hb hB)
 simp only [Zs]
 try simp only [Kv, Vg]
 clear iha ihc hb hx hy
 go_enter func52, ntmps52
 go_wp2_with (go_at_call 232; go_must (refine (map_pair_c B Tx Ty ux uy _ _ _ _ _ (by simp; omega) (HKx.out _ (Zl w _ _) (Z8 (heap_alloc_new _ _)) (Za _ _ _)) (HKy.out _ (Zl w _ _) (Z8 (heap_alloc_new _ _)) (Za _ _ _))).mono ?_; rintro e w2 ⟨⟨v', rfl, hv'⟩, hb2⟩))
 go_ret
 exact ⟨⟨_, rfl, hv'⟩, (Zl w _ _).trans (hb2.mono (by simp; omega))⟩
theorem pt_fst (name : Nm) (b a : Ex) (iha : PtC name b a) : PtC name b (.one .fst a) := by
 intro v vb B w hv hb hB
 obtain ⟨Tb, ub, rfl⟩ := hb.iface
 simp only [EV] at hv
 obtain ⟨x, rfl, hx⟩ := hv
 obtain ⟨Tx, ux, rfl⟩ := hx.iface
 have HKx := H_ (Jj iha hx hb hB)
 simp only [Zs]
 try simp only [Kv, Vg]
 clear iha hb hx
 go_enter func52, ntmps52
 go_wp2_with (go_at_call 235; go_must (refine (map_fst_c B Tx ux _ _ _ _ (by simp; omega) (HKx.out _ (Zl w _ _) (Z8 (heap_alloc_new _ _)) (Za _ _ _))).mono ?_; rintro e w2 ⟨⟨v', rfl, hv'⟩, hb2⟩))
 go_ret
 exact ⟨⟨_, rfl, hv'⟩, (Zl w _ _).trans (hb2.mono (by simp; omega))⟩
theorem pt_snd (name : Nm) (b a : Ex) (iha : PtC name b a) : PtC name b (.one .snd a) := by
 intro v vb B w hv hb hB
 obtain ⟨Tb, ub, rfl⟩ := hb.iface
 simp only [EV] at hv
 obtain ⟨x, rfl, hx⟩ := hv
 obtain ⟨Tx, ux, rfl⟩ := hx.iface
 have HKx := H_ (Jj iha hx hb hB)
 simp only [Zs]
 try simp only [Kv, Vg]
 clear iha hb hx
 go_enter func52, ntmps52
 go_wp2_with (go_at_call 238; go_must (refine (map_snd_c B Tx ux _ _ _ _ (by simp; omega) (HKx.out _ (Zl w _ _) (Z8 (heap_alloc_new _ _)) (Za _ _ _))).mono ?_; rintro e w2 ⟨⟨v', rfl, hv'⟩, hb2⟩))
 go_ret
 exact ⟨⟨_, rfl, hv'⟩, (Zl w _ _).trans (hb2.mono (by simp; omega))⟩
theorem pt_cond (name : Nm) (b a c d : Ex) (iha : PtC name b a) (ihc : PtC name b c) (ihd : PtC name b d) : PtC name b (.cond a c d) := by
 intro v vb B w hv hb hB
 obtain ⟨Tb, ub, rfl⟩ := hb.iface
 simp only [EV] at hv
 obtain ⟨x, y, z, rfl, hx, hy, hz⟩ := hv
 obtain ⟨Tx, ux, rfl⟩ := hx.iface
 have HKx := H_ (Jj iha hx hb hB)
 obtain ⟨Ty, uy, rfl⟩ := hy.iface
 have HKy := H_ (Jj ihc hy hb hB)
 obtain ⟨Tz, uz, rfl⟩ := hz.iface
 have HKz := H_ (Jj ihd hz hb hB)
 simp only [Zs]
 try simp only [Kv, Vg]
 clear iha ihc ihd hb hx hy hz
 go_enter func52, ntmps52
 go_wp2_with (go_at_call 228; go_must (refine (map_if_c B Tx Ty Tz ux uy uz _ _ _ _ _ _ (by simp; omega) (HKx.out _ (Zl w _ _) (Z8 (heap_alloc_new _ _)) (Za _ _ _)) (HKy.out _ (Zl w _ _) (Z8 (heap_alloc_new _ _)) (Za _ _ _)) (HKz.out _ (Zl w _ _) (Z8 (heap_alloc_new _ _)) (Za _ _ _))).mono ?_; rintro e w2 ⟨⟨v', rfl, hv'⟩, hb2⟩))
 go_ret
 exact ⟨⟨_, rfl, hv'⟩, (Zl w _ _).trans (hb2.mono (by simp; omega))⟩
theorem pt_let (name : Nm) (b : Ex) (s : Nm) (a c : Ex) (iha : PtC name b a) (ihc : PtC name b c) : PtC name b (.lete s a c) := by
 intro v vb B w hv hb hB
 obtain ⟨Tb, ub, rfl⟩ := hb.iface
 simp only [EV] at hv
 obtain ⟨x, y, rfl, hx, hy⟩ := hv
 obtain ⟨Tx, ux, rfl⟩ := hx.iface
 obtain ⟨Ty, uy, rfl⟩ := hy.iface
 by_cases he : s = name
 · subst he
   have HP := H_ (show Zs s b (.lete s a c) = .lete s (Zs s b a) c by simp [Zs])
   rw [HP.out]
   have C0 := H_ (fun W (hW : Below w.heap.size w W) => iha _ _ B W (hx.on hB hW) (hb.on hB hW) (Nat.le_trans hB hW.size))
   have HY := H_ (fun W (hW : Below w.heap.size w W) => hy.on hB hW)
   clear iha ihc hx hy hb
   go_enter func52, ntmps52
   go_wp2_with fail
   generalize hwa : ((w.alloc (.cells #[.string (bs s)] 9)).alloc (.cells #[.iface Tb ub] 53)).alloc (.cells #[.string (bs s), .iface Tx ux, .iface Ty uy] 105) = wa
   have hbw : Below w.heap.size w wa := by rw [← hwa]; exact Qf _ _ _ _
   obtain ⟨q0, q1, q2⟩ := Yz w (.cells #[.string (bs s)] 9 (0, 0)) (.cells #[.iface Tb ub] 53 (0, 0)) (.cells #[.string (bs s), .iface Tx ux, .iface Ty uy] 105 (0, 0))
   have y0 : wa.heap[w.heap.size]? = some (.cells #[.string (bs s)] 9 (0, 0)) := by rw [← hwa]; exact q0
   have y1 : wa.heap[w.heap.size + 1]? = some (.cells #[.iface Tb ub] 53 (0, 0)) := by rw [← hwa]; exact q1
   have y2 : wa.heap[w.heap.size + 2]? = some (.cells #[.string (bs s), .iface Tx ux, .iface Ty uy] 105 (0, 0)) := by rw [← hwa]; exact q2
   clear q0 q1 q2
   have C1 := H_ (fun W (hW : Below wa.heap.size wa W) => C0.out W (hbw.trans (hW.mono hbw.size)))
   have HY1 := H_ (fun W (hW : Below wa.heap.size wa W) => HY.out W (hbw.trans (hW.mono hbw.size)))
   have HF := H_ (fun W (hW : Below wa.heap.size wa W) => hbw.trans (hW.mono hbw.size))
   generalize hB0 : w.heap.size = B0 at *
   have KS : Hid (∀ W, Below wa.heap.size wa W → (fun W => W.cell? ⟨B0 + 2, 0, none⟩ = some (.string (bs s)) ∧ W.cell? ⟨B0 + 2, 1, none⟩ = some (.iface Tx ux) ∧ W.cell? ⟨B0 + 2, 2, none⟩ = some (.iface Ty uy) ∧ W.cell? ⟨B0, 0, none⟩ = some (.string (bs s)) ∧ W.cell? ⟨B0 + 1, 0, none⟩ = some (.iface Tb ub)) W) := H_ (fun W hW => by have k0 := Z2 hW (lt_of_block y0) y0; have k1 := Z2 hW (lt_of_block y1) y1; have k2 := Z2 hW (lt_of_block y2) y2; exact ⟨Z4 k2, Z4 k2, Z4 k2, Z4 k0, Z4 k1⟩)
   clear hwa C0 HY
   have hD0 : Below wa.heap.size wa wa.drew := (Below.refl _ _).drew
   have S0 := H_ (KS.out _ hD0)
   go_region_held_law (fun W => W.cell? ⟨B0 + 2, 0, none⟩ = some (.string (bs s)) ∧ W.cell? ⟨B0 + 2, 1, none⟩ = some (.iface Tx ux) ∧ W.cell? ⟨B0 + 2, 2, none⟩ = some (.iface Ty uy) ∧ W.cell? ⟨B0, 0, none⟩ = some (.string (bs s)) ∧ W.cell? ⟨B0 + 1, 0, none⟩ = some (.iface Tb ub)) (first | exact S0.out | assumption) (first | (go_at_call 52; (with_reducible refine (C1.out _ hD0).mono ?_); rintro e w2 ⟨⟨x1, rfl, hx1⟩, hb2⟩; obtain ⟨S1, t1, rfl⟩ := hx1.iface; have h2 := Below.trans hD0 (hb2.mono hD0.size); have hS2 := KS.out _ h2))
   all_goals
    go_wp2_with fail
    go_ret
    exact ⟨⟨_, rfl, _, _, rfl, hx1, HY1.out _ h2⟩, by rw [hB0]; exact HF.out _ h2⟩
 · have HP := H_ (show Zs name b (.lete s a c) = .lete s (Zs name b a) (Zs name b c) by simp [Zs, he])
   rw [HP.out]
   have HKx := H_ (Jj iha hx hb hB)
   have HKy := H_ (Jj ihc hy hb hB)
   have hx2 : ((bs s).toList == (bs name).toList) = false := by rw [Z9, Z9]; simpa using he
   have hx3 : ¬ (bs s).toList = (bs name).toList := by rw [Z9, Z9]; exact he
   have MP := H_ (fun (W : World) (h : B ≤ W.heap.size) (p1 p2 : Value) => map_let_c B s Tx Ty ux uy p1 p2 (Zs name b a) (Zs name b c) W h)
   generalize bs s = S at *
   clear he iha ihc hx hy hb
   go_enter func52, ntmps52
   go_wp2_with (go_at_call 207; go_must (refine (MP.out _ (by simp; omega) _ _ (HKx.out _ (Qf w _ _ _) (Yz w _ _ _).1 (Yz w _ _ _).2.1) (HKy.out _ (Qf w _ _ _) (Yz w _ _ _).1 (Yz w _ _ _).2.1)).mono ?_; rintro e w2 ⟨⟨v', rfl, hv'⟩, hb2⟩))
   go_ret
   exact ⟨⟨_, rfl, hv'⟩, (Qf w _ _ _).trans (hb2.mono (by simp; omega))⟩
theorem pt_fun (name : Nm) (b : Ex) (f z : Nm) (At Bt : Tr) (c : Ex) (ihc : PtC name b c) : PtC name b (.func f z At Bt c) := by
 intro v vb B w hv hb hB
 obtain ⟨Tb, ub, rfl⟩ := hb.iface
 have hv0 := hv
 simp only [EV] at hv
 obtain ⟨pa, na, ca, pb, nb, cb, y, rfl, hA, hBt, hy⟩ := hv
 obtain ⟨Ty, uy, rfl⟩ := hy.iface
 obtain ⟨la, lb, lc, ld, -, -, -, -, hnA⟩ := Jo At
 obtain ⟨ma, mb, mc, md, -, -, -, -, hnB⟩ := Jo Bt
 have HV := H_ (fun w' (h : Below w.heap.size w w') => hv0.on hB h)
 rw [hnA, hnB] at HV ⊢
 simp only [List.cons_append, List.nil_append] at HV ⊢
 by_cases hf : f = name
 · subst hf
   have HP := H_ (show Zs f b (.func f z At Bt c) = .func f z At Bt c by simp [Zs])
   rw [HP.out]
   clear hv0 ihc hA hBt hy hnA hnB hb
   go_enter func52, ntmps52
   go_wp2_with fail
   go_ret
   exact ⟨⟨_, rfl, HV.out _ (Qf w _ _ _)⟩, Qf w _ _ _⟩
 have hx2 : ((bs f).toList == (bs name).toList) = false := by rw [Z9, Z9]; simpa using hf
 have hx3 : ¬ (bs f).toList = (bs name).toList := by rw [Z9, Z9]; exact hf
 by_cases hz : z = name
 · subst hz
   have HP := H_ (show Zs z b (.func f z At Bt c) = .func f z At Bt c by simp [Zs])
   rw [HP.out]
   generalize bs f = F at *
   clear hv0 ihc hA hBt hy hnA hnB hb hf
   go_enter func52, ntmps52
   go_wp2_with fail
   go_ret
   exact ⟨⟨_, rfl, HV.out _ (Qf w _ _ _)⟩, Qf w _ _ _⟩
 · have HP := H_ (show Zs name b (.func f z At Bt c) = .func f z At Bt (Zs name b c) by simp [Zs, hf, hz])
   rw [HP.out]
   have HKy := H_ (Jj ihc hy hb hB)
   have hz2 : ((bs z).toList == (bs name).toList) = false := by rw [Z9, Z9]; simpa using hz
   have hz3 : ¬ (bs z).toList = (bs name).toList := by rw [Z9, Z9]; exact hz
   have MP := H_ (fun (W : World) (hW : Below w.heap.size w W) (p1 p2 : Value) => map_fun_c B f z At Bt pa pb na nb ca cb la ma lb lc ld mb mc md Ty uy p1 p2 (Zs name b c) W (Nat.le_trans hB hW.size) hnA hnB (hA.below hW (fun k hk => Nat.lt_of_lt_of_le hk hB)) (hBt.below hW (fun k hk => Nat.lt_of_lt_of_le hk hB)))
   generalize bs f = F at *
   generalize bs z = Zz at *
   clear hv0 ihc hA hBt hy hnA hnB hb hf hz HV
   go_enter func52, ntmps52
   go_wp2_with (go_at_call 210; go_must (refine (MP.out _ (Qf w _ _ _) _ _ (HKy.out _ (Qf w _ _ _) (Yz w _ _ _).1 (Yz w _ _ _).2.1)).mono ?_; rintro e w2 ⟨⟨v', rfl, hv'⟩, hb2⟩))
   go_ret
   exact ⟨⟨_, rfl, hv'⟩, (Qf w _ _ _).trans (hb2.mono (by simp; omega))⟩
theorem Jc (name : Nm) (b : Ex) : ∀ x : Ex, PtC name b x
 | .name s => pt_name name b s
 | .num n => pt_num name b n
 | .two .add x y => pt_add name b x y (Jc name b x) (Jc name b y)
 | .two .sub x y => pt_sub name b x y (Jc name b x) (Jc name b y)
 | .two .mul x y => pt_mul name b x y (Jc name b x) (Jc name b y)
 | .two .call x y => pt_call name b x y (Jc name b x) (Jc name b y)
 | .two .pair x y => pt_pair name b x y (Jc name b x) (Jc name b y)
 | .one .fst x => pt_fst name b x (Jc name b x)
 | .one .snd x => pt_snd name b x (Jc name b x)
 | .cond x y z => pt_cond name b x y z (Jc name b x) (Jc name b y) (Jc name b z)
 | .lete s x y => pt_let name b s x y (Jc name b x) (Jc name b y)
 | .func f z A B x => pt_fun name b f z A B x (Jc name b x)
end Go.Proofs.YtjaaalojcdbcpaaGreatDoor
