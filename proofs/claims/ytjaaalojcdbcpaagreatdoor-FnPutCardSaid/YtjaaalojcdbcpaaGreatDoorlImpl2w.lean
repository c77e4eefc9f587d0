/- The program changes the kids of an expression by a closure. -/
import Derived.Test.YtjaaalojcdbcpaaGreatDoorlImpl2u
import Derived.Deep.RegionHeldLaw
set_option maxHeartbeats 20000000
set_option linter.unusedVariables false
set_option linter.unusedSimpArgs false
namespace Go.Proofs.YtjaaalojcdbcpaaGreatDoor
open Go.RowKit Go.Proofs.Tryz
set_option maxRecDepth 8000
def Zs (name : Nm) (b : Ex) : Ex → Ex
 | .name s => if s = name then b else .name s
 | .num n => .num n
 | .two o x y => .two o (Zs name b x) (Zs name b y)
 | .one o x => .one o (Zs name b x)
 | .cond x y z => .cond (Zs name b x) (Zs name b y) (Zs name b z)
 | .lete s x y => .lete s (Zs name b x) (if s = name then y else Zs name b y)
 | .func f a A B x => .func f a A B (if f = name ∨ a = name then x else Zs name b x)
def ChC (B : Nat) (w : World) (p1 p2 : Value) (T : TypeId) (u : Value) (f : Ex) : Prop := ∀ W, Below w.heap.size w W → Calls prog 95 #[.iface T u, p1, p2] W fun e w' => (∃ x', e = .returned x' ∧ EV w' (fun k => k < B) f x') ∧ Below W.heap.size W w'
theorem EV.on {B : Nat} {w w' : World} {x : Ex} {v : Value} (h : EV w (fun k => k < B) x v) (hB : B ≤ w.heap.size) (hb : Below w.heap.size w w') : EV w' (fun k => k < B) x v := h.below hb (fun k hk => Nat.lt_of_lt_of_le hk hB)
theorem Z0n (B : Nat) (Ta Tb : TypeId) (ua ub p1 p2 : Value) (fa fb : Ex) (w : World) (hB : B ≤ w.heap.size) (K1 : ChC B w p1 p2 Ta ua fa) (K2 : ChC B w p1 p2 Tb ub fb) :
 Calls prog 221 #[.agg #[.iface Ta ua, .iface Tb ub], .func (.func 95) #[] #[p1, p2]] w fun e w' => (∃ S1 t1 S2 t2, e = .returned (.agg #[.iface S1 t1, .iface S2 t2]) ∧ EV w' (fun k => k < B) fa (.iface S1 t1) ∧ EV w' (fun k => k < B) fb (.iface S2 t2)) ∧ Below w.heap.size w w' := by
 have K1 := H_ K1
 have K2 := H_ K2
 go_enter func221, ntmps221
 go_wp2_with fail
 generalize hwa : (w.alloc (.cells #[.iface Ta ua, .iface Tb ub] 161)).alloc (.cells #[.nilIface, .nilIface] 161) = wa
 have hbw : Below w.heap.size w wa := by rw [← hwa]; exact Zl _ _ _
 have ya : wa.heap[w.heap.size]? = some (.cells #[.iface Ta ua, .iface Tb ub] 161 (0, 0)) := by rw [← hwa]; exact Z8 (heap_alloc_new _ _)
 have yr : wa.heap[w.heap.size + 1]? = some (.cells #[.nilIface, .nilIface] 161 (0, 0)) := by rw [← hwa]; exact Za _ _ _
 have C1 := H_ (fun W (hW : Below wa.heap.size wa W) => K1.out W (hbw.trans (hW.mono hbw.size)))
 have C2 := H_ (fun W (hW : Below wa.heap.size wa W) => K2.out W (hbw.trans (hW.mono hbw.size)))
 generalize hB0 : w.heap.size = B0 at *
 have KS : Hid (∀ W, Below wa.heap.size wa W → (fun W => W.cell? ⟨B0, 0, none⟩ = some (.iface Ta ua) ∧ W.cell? ⟨B0, 1, none⟩ = some (.iface Tb ub)) W) := H_ (fun W hW => by have q := Z2 hW (lt_of_block ya) ya; exact ⟨Z4 q, Z4 q⟩)
 clear K1 K2 hwa
 have hD0 : Below wa.heap.size wa wa.drew := (Below.refl _ _).drew
 have S0 := H_ (KS.out _ hD0)
 have HSt : Hid (∀ W, Below wa.heap.size wa W → ∀ v0 v1, (fun W => W.cell? ⟨B0, 0, none⟩ = some (.iface Ta ua) ∧ W.cell? ⟨B0, 1, none⟩ = some (.iface Tb ub)) ((W.setCell ⟨B0 + 1, 0, none⟩ v0).setCell ⟨B0 + 1, 1, none⟩ v1)) := H_ (fun W hW v0 v1 => by
  have q := Z2 hW (lt_of_block ya) ya
  have q2 : ((W.setCell ⟨B0 + 1, 0, none⟩ v0).setCell ⟨B0 + 1, 1, none⟩ v1).heap[B0]? = some (.cells #[.iface Ta ua, .iface Tb ub] 161 (0, 0)) := by rw [Z3 _ (by simp), Z3 _ (by simp)]; exact q
  exact ⟨Z4 q2, Z4 q2⟩)
 go_region_held_law (fun W => W.cell? ⟨B0, 0, none⟩ = some (.iface Ta ua) ∧ W.cell? ⟨B0, 1, none⟩ = some (.iface Tb ub)) (first | exact S0.out | assumption | exact hSt _ _) (first | (go_at_call_of 95 (Value.iface Ta ua); (with_reducible refine (C1.out _ hD0).mono ?_); rintro e w2 ⟨⟨x1, rfl, hx1⟩, hb1⟩; obtain ⟨S1, t1, rfl⟩ := hx1.iface; have h1 := Below.trans hD0 (hb1.mono hD0.size); have hS1 := KS.out _ h1) | (go_at_call_of 95 (Value.iface Tb ub); (with_reducible refine (C2.out _ h1).mono ?_); rintro e w3 ⟨⟨x2, rfl, hx2⟩, hb2⟩; obtain ⟨S2, t2, rfl⟩ := hx2.iface; have h2 := Below.trans h1 (hb2.mono h1.size); have hS2 := KS.out _ h2; have r3 := Z2 h2 (lt_of_block yr) yr; obtain ⟨f30, f31⟩ := Xb r3; obtain ⟨r30, r31⟩ := Zh r3; have hSt := HSt.out _ h2))
 all_goals
  go_wp2_with fail
  refine bodyPost_ret (v := .agg #[.iface S1 t1, .iface S2 t2]) (by simp [results, results221, go_sem, r30, r31]) rfl ⟨⟨S1, t1, S2, t2, rfl, ?_, ?_⟩, ?_⟩
  · exact EV.move (fun _ h => h) (fun k hk => by rw [Z3 _ (show k ≠ B0 + 1 by omega), Z3 _ (show k ≠ B0 + 1 by omega)]; exact hb2.block k (by have := h1.size; have := hbw.size; omega)) _ _ hx1
  · exact EV.move (fun _ h => h) (fun k hk => by rw [Z3 _ (show k ≠ B0 + 1 by omega), Z3 _ (show k ≠ B0 + 1 by omega)]) _ _ hx2
  · rw [hB0]; exact ((hbw.trans (h2.mono (by have := hbw.size; omega))).setCell (show B0 ≤ B0 + 1 by omega) _).setCell (show B0 ≤ B0 + 1 by omega) _
theorem Z84 (B : Nat) (Ta : TypeId) (ua p1 p2 : Value) (fa : Ex) (w : World) (hB : B ≤ w.heap.size) (K1 : ChC B w p1 p2 Ta ua fa) :
 Calls prog 236 #[.agg #[.iface Ta ua], .func (.func 95) #[] #[p1, p2]] w fun e w' => (∃ S1 t1, e = .returned (.agg #[.iface S1 t1]) ∧ EV w' (fun k => k < B) fa (.iface S1 t1)) ∧ Below w.heap.size w w' := by
 have C1 := H_ (K1 _ (Zl w (.cells #[.iface Ta ua] 173) (.cells #[.nilIface] 173)))
 clear K1
 go_enter func236, ntmps236
 go_wp2_with (go_at_call 95; go_must (refine (C1.out).mono ?_; rintro e w2 ⟨⟨x1, rfl, hx1⟩, hb2⟩; obtain ⟨S1, t1, rfl⟩ := hx1.iface; have r3 := Z2 hb2 (by simp) (Za w _ _); have f30 := Yf (j := 0) r3; have r30 := Z4 (j := 0) r3))
 refine bodyPost_ret (v := .agg #[.iface S1 t1]) (by simp [results, results236, go_sem, r30]) rfl ⟨⟨S1, t1, rfl, ?_⟩, ?_⟩
 · exact EV.move (fun _ h => h) (fun k hk => by rw [Z3 _ (show k ≠ w.heap.size + 1 by omega)]) _ _ hx1
 · exact ((Zl w _ _).trans (hb2.mono (by simp; omega))).setCell (by simp) _
theorem map_name_c (vs : Array Value) (v0 : Value) (hv : vs = #[v0]) (f : Value) (w : World) : Calls prog 213 #[.agg vs, f] w fun e w' => e = .returned (.iface 110 (.agg vs)) ∧ Below w.heap.size w w' := by
 subst hv
 go_enter func213, ntmps213
 go_wp2_with fail
 go_ret
 exact ⟨rfl, Z5 _ _⟩
theorem Z4r (vs : Array Value) (v0 : Value) (hv : vs = #[v0]) (f : Value) (w : World) : Calls prog 217 #[.agg vs, f] w fun e w' => e = .returned (.iface 141 (.agg vs)) ∧ Below w.heap.size w w' := by
 subst hv
 go_enter func217, ntmps217
 go_wp2_with fail
 go_ret
 exact ⟨rfl, Z5 _ _⟩
theorem map_add_c (B : Nat) (Ta Tb : TypeId) (ua ub p1 p2 : Value) (fa fb : Ex) (w : World) (hB : B ≤ w.heap.size) (K1 : ChC B w p1 p2 Ta ua fa) (K2 : ChC B w p1 p2 Tb ub fb) :
 Calls prog 220 #[.agg #[.iface Ta ua, .iface Tb ub], .func (.func 95) #[] #[p1, p2]] w fun e w' => (∃ v', e = .returned v' ∧ EV w' (fun k => k < B) (.two .add fa fb) v') ∧ Below w.heap.size w w' := by
 have C := H_ (fun o => Z0n B Ta Tb ua ub p1 p2 fa fb (w.alloc o) (by simp; omega) (fun W hW => K1 W ((Z5 w o).trans (hW.mono (by simp)))) (fun W hW => K2 W ((Z5 w o).trans (hW.mono (by simp)))))
 clear K1 K2
 go_enter func220, ntmps220
 go_wp2_with (go_at_call 221; go_must (refine (C.out _).mono ?_; rintro e w2 ⟨⟨S1, t1, S2, t2, rfl, hx1, hx2⟩, hb2⟩))
 go_ret
 exact ⟨⟨_, rfl, _, _, rfl, hx1, hx2⟩, (Z5 w _).trans (hb2.mono (by simp))⟩
theorem map_sub_c (B : Nat) (Ta Tb : TypeId) (ua ub p1 p2 : Value) (fa fb : Ex) (w : World) (hB : B ≤ w.heap.size) (K1 : ChC B w p1 p2 Ta ua fa) (K2 : ChC B w p1 p2 Tb ub fb) :
 Calls prog 223 #[.agg #[.iface Ta ua, .iface Tb ub], .func (.func 95) #[] #[p1, p2]] w fun e w' => (∃ v', e = .returned v' ∧ EV w' (fun k => k < B) (.two .sub fa fb) v') ∧ Below w.heap.size w w' := by
 have C := H_ (fun o => Z0n B Ta Tb ua ub p1 p2 fa fb (w.alloc o) (by simp; omega) (fun W hW => K1 W ((Z5 w o).trans (hW.mono (by simp)))) (fun W hW => K2 W ((Z5 w o).trans (hW.mono (by simp)))))
 clear K1 K2
 go_enter func223, ntmps223
 go_wp2_with (go_at_call 221; go_must (refine (C.out _).mono ?_; rintro e w2 ⟨⟨S1, t1, S2, t2, rfl, hx1, hx2⟩, hb2⟩))
 go_ret
 exact ⟨⟨_, rfl, _, _, rfl, hx1, hx2⟩, (Z5 w _).trans (hb2.mono (by simp))⟩
theorem map_mul_c (B : Nat) (Ta Tb : TypeId) (ua ub p1 p2 : Value) (fa fb : Ex) (w : World) (hB : B ≤ w.heap.size) (K1 : ChC B w p1 p2 Ta ua fa) (K2 : ChC B w p1 p2 Tb ub fb) :
 Calls prog 225 #[.agg #[.iface Ta ua, .iface Tb ub], .func (.func 95) #[] #[p1, p2]] w fun e w' => (∃ v', e = .returned v' ∧ EV w' (fun k => k < B) (.two .mul fa fb) v') ∧ Below w.heap.size w w' := by
 have C := H_ (fun o => Z0n B Ta Tb ua ub p1 p2 fa fb (w.alloc o) (by simp; omega) (fun W hW => K1 W ((Z5 w o).trans (hW.mono (by simp)))) (fun W hW => K2 W ((Z5 w o).trans (hW.mono (by simp)))))
 clear K1 K2
 go_enter func225, ntmps225
 go_wp2_with (go_at_call 221; go_must (refine (C.out _).mono ?_; rintro e w2 ⟨⟨S1, t1, S2, t2, rfl, hx1, hx2⟩, hb2⟩))
 go_ret
 exact ⟨⟨_, rfl, _, _, rfl, hx1, hx2⟩, (Z5 w _).trans (hb2.mono (by simp))⟩
theorem map_call_c (B : Nat) (Ta Tb : TypeId) (ua ub p1 p2 : Value) (fa fb : Ex) (w : World) (hB : B ≤ w.heap.size) (K1 : ChC B w p1 p2 Ta ua fa) (K2 : ChC B w p1 p2 Tb ub fb) :
 Calls prog 230 #[.agg #[.iface Ta ua, .iface Tb ub], .func (.func 95) #[] #[p1, p2]] w fun e w' => (∃ v', e = .returned v' ∧ EV w' (fun k => k < B) (.two .call fa fb) v') ∧ Below w.heap.size w w' := by
 have C := H_ (fun o => Z0n B Ta Tb ua ub p1 p2 fa fb (w.alloc o) (by simp; omega) (fun W hW => K1 W ((Z5 w o).trans (hW.mono (by simp)))) (fun W hW => K2 W ((Z5 w o).trans (hW.mono (by simp)))))
 clear K1 K2
 go_enter func230, ntmps230
 go_wp2_with (go_at_call 221; go_must (refine (C.out _).mono ?_; rintro e w2 ⟨⟨S1, t1, S2, t2, rfl, hx1, hx2⟩, hb2⟩))
 go_ret
 exact ⟨⟨_, rfl, _, _, rfl, hx1, hx2⟩, (Z5 w _).trans (hb2.mono (by simp))⟩
theorem map_pair_c (B : Nat) (Ta Tb : TypeId) (ua ub p1 p2 : Value) (fa fb : Ex) (w : World) (hB : B ≤ w.heap.size) (K1 : ChC B w p1 p2 Ta ua fa) (K2 : ChC B w p1 p2 Tb ub fb) :
 Calls prog 232 #[.agg #[.iface Ta ua, .iface Tb ub], .func (.func 95) #[] #[p1, p2]] w fun e w' => (∃ v', e = .returned v' ∧ EV w' (fun k => k < B) (.two .pair fa fb) v') ∧ Below w.heap.size w w' := by
 have C := H_ (fun o => Z0n B Ta Tb ua ub p1 p2 fa fb (w.alloc o) (by simp; omega) (fun W hW => K1 W ((Z5 w o).trans (hW.mono (by simp)))) (fun W hW => K2 W ((Z5 w o).trans (hW.mono (by simp)))))
 clear K1 K2
 go_enter func232, ntmps232
 go_wp2_with (go_at_call 221; go_must (refine (C.out _).mono ?_; rintro e w2 ⟨⟨S1, t1, S2, t2, rfl, hx1, hx2⟩, hb2⟩))
 go_ret
 exact ⟨⟨_, rfl, _, _, rfl, hx1, hx2⟩, (Z5 w _).trans (hb2.mono (by simp))⟩
theorem map_fst_c (B : Nat) (Ta : TypeId) (ua p1 p2 : Value) (fa : Ex) (w : World) (hB : B ≤ w.heap.size) (K1 : ChC B w p1 p2 Ta ua fa) :
 Calls prog 235 #[.agg #[.iface Ta ua], .func (.func 95) #[] #[p1, p2]] w fun e w' => (∃ v', e = .returned v' ∧ EV w' (fun k => k < B) (.one .fst fa) v') ∧ Below w.heap.size w w' := by
 have C := H_ (fun o => Z84 B Ta ua p1 p2 fa (w.alloc o) (by simp; omega) (fun W hW => K1 W ((Z5 w o).trans (hW.mono (by simp)))))
 clear K1
 go_enter func235, ntmps235
 go_wp2_with (go_at_call 236; go_must (refine (C.out _).mono ?_; rintro e w2 ⟨⟨S1, t1, rfl, hx1⟩, hb2⟩))
 go_ret
 exact ⟨⟨_, rfl, _, rfl, hx1⟩, (Z5 w _).trans (hb2.mono (by simp))⟩
theorem map_snd_c (B : Nat) (Ta : TypeId) (ua p1 p2 : Value) (fa : Ex) (w : World) (hB : B ≤ w.heap.size) (K1 : ChC B w p1 p2 Ta ua fa) :
 Calls prog 238 #[.agg #[.iface Ta ua], .func (.func 95) #[] #[p1, p2]] w fun e w' => (∃ v', e = .returned v' ∧ EV w' (fun k => k < B) (.one .snd fa) v') ∧ Below w.heap.size w w' := by
 have C := H_ (fun o => Z84 B Ta ua p1 p2 fa (w.alloc o) (by simp; omega) (fun W hW => K1 W ((Z5 w o).trans (hW.mono (by simp)))))
 clear K1
 go_enter func238, ntmps238
 go_wp2_with (go_at_call 236; go_must (refine (C.out _).mono ?_; rintro e w2 ⟨⟨S1, t1, rfl, hx1⟩, hb2⟩))
 go_ret
 exact ⟨⟨_, rfl, _, rfl, hx1⟩, (Z5 w _).trans (hb2.mono (by simp))⟩
theorem map_if_c (B : Nat) (Ta Tb Tc : TypeId) (ua ub uc p1 p2 : Value) (fa fb fc : Ex) (w : World) (hB : B ≤ w.heap.size) (K1 : ChC B w p1 p2 Ta ua fa) (K2 : ChC B w p1 p2 Tb ub fb) (K3 : ChC B w p1 p2 Tc uc fc) :
 Calls prog 228 #[.agg #[.iface Ta ua, .iface Tb ub, .iface Tc uc], .func (.func 95) #[] #[p1, p2]] w fun e w' => (∃ v', e = .returned v' ∧ EV w' (fun k => k < B) (.cond fa fb fc) v') ∧ Below w.heap.size w w' := by
 go_enter func228, ntmps228
 go_wp2_with fail
 generalize hwa : w.alloc (.cells #[.iface Ta ua, .iface Tb ub, .iface Tc uc] 167) = wa
 have hbw : Below w.heap.size w wa := by rw [← hwa]; exact Z5 _ _
 have ya : wa.heap[w.heap.size]? = some (.cells #[.iface Ta ua, .iface Tb ub, .iface Tc uc] 167 (0, 0)) := by rw [← hwa]; exact heap_alloc_new _ _
 have C1 := H_ (fun W (hW : Below wa.heap.size wa W) => K1 W (hbw.trans (hW.mono hbw.size)))
 have C2 := H_ (fun W (hW : Below wa.heap.size wa W) => K2 W (hbw.trans (hW.mono hbw.size)))
 have C3 := H_ (fun W (hW : Below wa.heap.size wa W) => K3 W (hbw.trans (hW.mono hbw.size)))
 generalize hB0 : w.heap.size = B0 at *
 have KS : Hid (∀ W, Below wa.heap.size wa W → (fun W => W.cell? ⟨B0, 0, none⟩ = some (.iface Ta ua) ∧ W.cell? ⟨B0, 1, none⟩ = some (.iface Tb ub) ∧ W.cell? ⟨B0, 2, none⟩ = some (.iface Tc uc)) W) := H_ (fun W hW => by have q := Z2 hW (lt_of_block ya) ya; exact ⟨Z4 q, Z4 q, Z4 q⟩)
 clear hwa K1 K2 K3
 have hD0 : Below wa.heap.size wa wa.drew := (Below.refl _ _).drew
 have S0 := H_ (KS.out _ hD0)
 go_region_held_law (fun W => W.cell? ⟨B0, 0, none⟩ = some (.iface Ta ua) ∧ W.cell? ⟨B0, 1, none⟩ = some (.iface Tb ub) ∧ W.cell? ⟨B0, 2, none⟩ = some (.iface Tc uc)) (first | exact S0.out | assumption) (first | (go_at_call_of 95 (Value.iface Ta ua); (with_reducible refine (C1.out _ hD0).mono ?_); rintro e w2 ⟨⟨x1, rfl, hx1⟩, hb1⟩; obtain ⟨S1, t1, rfl⟩ := hx1.iface; have h1 := Below.trans hD0 (hb1.mono hD0.size); have hS1 := KS.out _ h1) | (go_at_call_of 95 (Value.iface Tb ub); (with_reducible refine (C2.out _ h1).mono ?_); rintro e w3 ⟨⟨x2, rfl, hx2⟩, hb2⟩; obtain ⟨S2, t2, rfl⟩ := hx2.iface; have h2 := Below.trans h1 (hb2.mono h1.size); have hS2 := KS.out _ h2) | (go_at_call_of 95 (Value.iface Tc uc); (with_reducible refine (C3.out _ h2).mono ?_); rintro e w4 ⟨⟨x3, rfl, hx3⟩, hb3⟩; obtain ⟨S3, t3, rfl⟩ := hx3.iface; have h3 := Below.trans h2 (hb3.mono h2.size); have hS3 := KS.out _ h3))
 all_goals
  go_wp2_with fail
  go_ret
  refine ⟨⟨_, rfl, _, _, _, rfl, EV.on (hx1) (by have := hbw.size; have := h1.size; omega) (hb2.trans (hb3.mono hb2.size)), EV.on (hx2) (by have := hbw.size; have := h2.size; omega) (hb3), hx3⟩, by rw [hB0]; exact hbw.trans (h3.mono (by have := hbw.size; omega))⟩
theorem map_let_c (B : Nat) (s : Nm) (Ta Tb : TypeId) (ua ub p1 p2 : Value) (fa fb : Ex) (w : World) (hB : B ≤ w.heap.size) (K1 : ChC B w p1 p2 Ta ua fa) (K2 : ChC B w p1 p2 Tb ub fb) :
 Calls prog 207 #[.agg #[.string (bs s), .iface Ta ua, .iface Tb ub], .func (.func 95) #[] #[p1, p2]] w fun e w' => (∃ v', e = .returned v' ∧ EV w' (fun k => k < B) (.lete s fa fb) v') ∧ Below w.heap.size w w' := by
 go_enter func207, ntmps207
 go_wp2_with fail
 generalize hwa : w.alloc (.cells #[.string (bs s), .iface Ta ua, .iface Tb ub] 105) = wa
 have hbw : Below w.heap.size w wa := by rw [← hwa]; exact Z5 _ _
 have ya : wa.heap[w.heap.size]? = some (.cells #[.string (bs s), .iface Ta ua, .iface Tb ub] 105 (0, 0)) := by rw [← hwa]; exact heap_alloc_new _ _
 have C1 := H_ (fun W (hW : Below wa.heap.size wa W) => K1 W (hbw.trans (hW.mono hbw.size)))
 have C2 := H_ (fun W (hW : Below wa.heap.size wa W) => K2 W (hbw.trans (hW.mono hbw.size)))
 generalize hB0 : w.heap.size = B0 at *
 have KS : Hid (∀ W, Below wa.heap.size wa W → (fun W => W.cell? ⟨B0, 0, none⟩ = some (.string (bs s)) ∧ W.cell? ⟨B0, 1, none⟩ = some (.iface Ta ua) ∧ W.cell? ⟨B0, 2, none⟩ = some (.iface Tb ub)) W) := H_ (fun W hW => by have q := Z2 hW (lt_of_block ya) ya; exact ⟨Z4 q, Z4 q, Z4 q⟩)
 clear hwa K1 K2
 have hD0 : Below wa.heap.size wa wa.drew := (Below.refl _ _).drew
 have S0 := H_ (KS.out _ hD0)
 go_region_held_law (fun W => W.cell? ⟨B0, 0, none⟩ = some (.string (bs s)) ∧ W.cell? ⟨B0, 1, none⟩ = some (.iface Ta ua) ∧ W.cell? ⟨B0, 2, none⟩ = some (.iface Tb ub)) (first | exact S0.out | assumption) (first | (go_at_call_of 95 (Value.iface Ta ua); (with_reducible refine (C1.out _ hD0).mono ?_); rintro e w2 ⟨⟨x1, rfl, hx1⟩, hb1⟩; obtain ⟨S1, t1, rfl⟩ := hx1.iface; have h1 := Below.trans hD0 (hb1.mono hD0.size); have hS1 := KS.out _ h1) | (go_at_call_of 95 (Value.iface Tb ub); (with_reducible refine (C2.out _ h1).mono ?_); rintro e w3 ⟨⟨x2, rfl, hx2⟩, hb2⟩; obtain ⟨S2, t2, rfl⟩ := hx2.iface; have h2 := Below.trans h1 (hb2.mono h1.size); have hS2 := KS.out _ h2))
 all_goals
  go_wp2_with fail
  go_ret
  refine ⟨⟨_, rfl, _, _, rfl, EV.on (hx1) (by have := hbw.size; have := h1.size; omega) (hb2), hx2⟩, by rw [hB0]; exact hbw.trans (h2.mono (by have := hbw.size; omega))⟩
theorem map_fun_c (B : Nat) (f x : Nm) (At Bt : Tr) (pa pb : Option Addr) (na nb ca cb : Nat) (la ma : ByteArray) (lb lc ld mb mc md : Int) (Ta : TypeId) (ua p1 p2 : Value) (fa : Ex) (w : World) (hB : B ≤ w.heap.size) (hnA : ∀ q, nI At q = [.string la, q, .int .i64 lb, .int .i64 lc, .int .i64 ld]) (hnB : ∀ q, nI Bt q = [.string ma, q, .int .i64 mb, .int .i64 mc, .int .i64 md]) (hA : FV nI w (fun k => k < B) At (nI At (.slice pa na ca))) (hBt : FV nI w (fun k => k < B) Bt (nI Bt (.slice pb nb cb))) (K1 : ChC B w p1 p2 Ta ua fa) :
 Calls prog 210 #[.agg #[.string (bs f), .string (bs x), .string la, .slice pa na ca, .int .i64 lb, .int .i64 lc, .int .i64 ld, .string ma, .slice pb nb cb, .int .i64 mb, .int .i64 mc, .int .i64 md, .iface Ta ua], .func (.func 95) #[] #[p1, p2]] w fun e w' => (∃ v', e = .returned v' ∧ EV w' (fun k => k < B) (.func f x At Bt fa) v') ∧ Below w.heap.size w w' := by
 have HnA := H_ hnA
 have HnB := H_ hnB
 have HA := H_ (fun w' (h : Below w.heap.size w w') => hA.below h (fun k hk => Nat.lt_of_lt_of_le hk hB))
 have HBt := H_ (fun w' (h : Below w.heap.size w w') => hBt.below h (fun k hk => Nat.lt_of_lt_of_le hk hB))
 clear hnA hnB hA hBt
 go_enter func210, ntmps210
 go_wp2_with fail
 generalize hwa : w.alloc (.cells #[.string (bs f), .string (bs x), .string la, .slice pa na ca, .int .i64 lb, .int .i64 lc, .int .i64 ld, .string ma, .slice pb nb cb, .int .i64 mb, .int .i64 mc, .int .i64 md, .iface Ta ua] 107) = wa
 have hbw : Below w.heap.size w wa := by rw [← hwa]; exact Z5 _ _
 have ya : wa.heap[w.heap.size]? = some (.cells #[.string (bs f), .string (bs x), .string la, .slice pa na ca, .int .i64 lb, .int .i64 lc, .int .i64 ld, .string ma, .slice pb nb cb, .int .i64 mb, .int .i64 mc, .int .i64 md, .iface Ta ua] 107 (0, 0)) := by rw [← hwa]; exact heap_alloc_new _ _
 have C1 := H_ (fun W (hW : Below wa.heap.size wa W) => K1 W (hbw.trans (hW.mono hbw.size)))
 generalize hB0 : w.heap.size = B0 at *
 have KS : Hid (∀ W, Below wa.heap.size wa W → (fun W => W.cell? ⟨B0, 0, none⟩ = some (.string (bs f)) ∧ W.cell? ⟨B0, 1, none⟩ = some (.string (bs x)) ∧ W.cell? ⟨B0, 2, none⟩ = some (.string la) ∧ W.cell? ⟨B0, 3, none⟩ = some (.slice pa na ca) ∧ W.cell? ⟨B0, 4, none⟩ = some (.int .i64 lb) ∧ W.cell? ⟨B0, 5, none⟩ = some (.int .i64 lc) ∧ W.cell? ⟨B0, 6, none⟩ = some (.int .i64 ld) ∧ W.cell? ⟨B0, 7, none⟩ = some (.string ma) ∧ W.cell? ⟨B0, 8, none⟩ = some (.slice pb nb cb) ∧ W.cell? ⟨B0, 9, none⟩ = some (.int .i64 mb) ∧ W.cell? ⟨B0, 10, none⟩ = some (.int .i64 mc) ∧ W.cell? ⟨B0, 11, none⟩ = some (.int .i64 md) ∧ W.cell? ⟨B0, 12, none⟩ = some (.iface Ta ua)) W) := H_ (fun W hW => by have q := Z2 hW (lt_of_block ya) ya; exact ⟨Z4 q, Z4 q, Z4 q, Z4 q, Z4 q, Z4 q, Z4 q, Z4 q, Z4 q, Z4 q, Z4 q, Z4 q, Z4 q⟩)
 clear hwa K1
 have hD0 : Below wa.heap.size wa wa.drew := (Below.refl _ _).drew
 have S0 := H_ (KS.out _ hD0)
 go_region_held_law (fun W => W.cell? ⟨B0, 0, none⟩ = some (.string (bs f)) ∧ W.cell? ⟨B0, 1, none⟩ = some (.string (bs x)) ∧ W.cell? ⟨B0, 2, none⟩ = some (.string la) ∧ W.cell? ⟨B0, 3, none⟩ = some (.slice pa na ca) ∧ W.cell? ⟨B0, 4, none⟩ = some (.int .i64 lb) ∧ W.cell? ⟨B0, 5, none⟩ = some (.int .i64 lc) ∧ W.cell? ⟨B0, 6, none⟩ = some (.int .i64 ld) ∧ W.cell? ⟨B0, 7, none⟩ = some (.string ma) ∧ W.cell? ⟨B0, 8, none⟩ = some (.slice pb nb cb) ∧ W.cell? ⟨B0, 9, none⟩ = some (.int .i64 mb) ∧ W.cell? ⟨B0, 10, none⟩ = some (.int .i64 mc) ∧ W.cell? ⟨B0, 11, none⟩ = some (.int .i64 md) ∧ W.cell? ⟨B0, 12, none⟩ = some (.iface Ta ua)) (first | exact S0.out | assumption) (first | (go_at_call_of 95 (Value.iface Ta ua); (with_reducible refine (C1.out _ hD0).mono ?_); rintro e w2 ⟨⟨x1, rfl, hx1⟩, hb1⟩; obtain ⟨S1, t1, rfl⟩ := hx1.iface; have h1 := Below.trans hD0 (hb1.mono hD0.size); have hS1 := KS.out _ h1))
 all_goals
  go_wp2_with fail
  go_ret
  refine ⟨⟨_, rfl, _, _, _, _, _, _, _, by rw [HnA.out, HnB.out]; rfl, HA.out _ (hbw.trans (h1.mono (by have := hbw.size; omega))), HBt.out _ (hbw.trans (h1.mono (by have := hbw.size; omega))), hx1⟩, by rw [hB0]; exact hbw.trans (h1.mono (by have := hbw.size; omega))⟩
end Go.Proofs.YtjaaalojcdbcpaaGreatDoor
