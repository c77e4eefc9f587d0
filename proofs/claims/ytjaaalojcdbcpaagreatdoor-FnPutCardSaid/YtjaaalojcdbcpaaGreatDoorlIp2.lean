/- The program: an expression's kids are made plain, one after the other. -/
import Derived.Test.YtjaaalojcdbcpaaGreatDoorlIp1M
import Derived.Test.YtjaaalojcdbcpaaGreatDoorlImpl2w
import Derived.Deep.RegionHeldLaw
set_option maxHeartbeats 20000000
set_option linter.unusedVariables false
set_option linter.unusedSimpArgs false
namespace Go.Proofs.YtjaaalojcdbcpaaGreatDoor
open Go.RowKit Go.Proofs.Tryz
set_option maxRecDepth 8000
def NMk (w : World) (b : Nat) (vf : Value) (k : Nat) : Prop := ∃ g, g ≤ k ∧ NMr w b vf k g
theorem NMk.below {w w' : World} {b : Nat} {vf : Value} {k : Nat} (h : NMk w b vf k) (hb : Below w.heap.size w w') : NMk w' b vf k := by
 obtain ⟨g, h1, h2⟩ := h
 exact ⟨g, h1, Z2 hb (lt_of_block h2) h2⟩
theorem NMk.other {w w' : World} {b : Nat} {vf : Value} {k : Nat} (h : NMk w b vf k) (hb : w'.heap[b]? = w.heap[b]?) : NMk w' b vf k := by
 obtain ⟨g, h1, h2⟩ := h
 exact ⟨g, h1, hb.trans h2⟩
theorem NMk.lt {w : World} {b : Nat} {vf : Value} {k : Nat} (h : NMk w b vf k) : b < w.heap.size := by
 obtain ⟨g, h1, h2⟩ := h
 exact lt_of_block h2
theorem EV.onlyI {B b : Nat} {w w' : World} {x : Ex} {v : Value} (h : EV w (fun k => k < B) x v) (hB : B ≤ b) (hw : B ≤ w.heap.size) (ho : Only b w w') : EV w' (fun k => k < B) x v :=
 EV.move (fun _ h => h) (fun k hk => ho.block k (by omega) (by omega)) _ _ h
def PkC (free : List Nm) (m : List (Nm × Nm)) (b B : Nat) (vf : Value) (w : World) (p1 p2 : Value) (T : TypeId) (u : Value) (x : Ex) : Prop := ∀ W k, Only b w W → NMk W b vf k → (plE free m k x).2 ≤ 200 → Calls prog 123 #[.iface T u, p1, p2] W fun e w' => (∃ S t, e = .returned (.iface S t) ∧ EV w' (fun k => k < B) (plE free m k x).1 (.iface S t)) ∧ NMk w' b vf (plE free m k x).2 ∧ Only b W w'
theorem PkC.next {free : List Nm} {m : List (Nm × Nm)} {b B : Nat} {vf : Value} {w w1 : World} {p1 p2 : Value} {T : TypeId} {u : Value} {x : Ex} (h : PkC free m b B vf w p1 p2 T u x) (ho : Only b w w1) : PkC free m b B vf w1 p1 p2 T u x := fun W k hW => h W k (ho.trans hW)
theorem Z1f (free : List Nm) (m : List (Nm × Nm)) (b B : Nat) (vf : Value) (Ta Tb : TypeId) (ua ub p1 p2 : Value) (xa xb : Ex) (k k1 k2 : Nat) (fa fb : Ex) (w : World) (hB : B ≤ b) (hn : NMk w b vf k) (h1 : plE free m k xa = (fa, k1)) (h2 : plE free m k1 xb = (fb, k2)) (hk1 : k1 ≤ 200) (hk2 : k2 ≤ 200) (K1 : PkC free m b B vf w p1 p2 Ta ua xa) (K2 : PkC free m b B vf w p1 p2 Tb ub xb) :
 Calls prog 221 #[.agg #[.iface Ta ua, .iface Tb ub], .func (.func 123) #[] #[p1, p2]] w fun e w' => (∃ S1 t1 S2 t2, e = .returned (.agg #[.iface S1 t1, .iface S2 t2]) ∧ EV w' (fun k => k < B) fa (.iface S1 t1) ∧ EV w' (fun k => k < B) fb (.iface S2 t2)) ∧ NMk w' b vf k2 ∧ Only b w w' := by
 have hbl := hn.lt
 have K1 := H_ K1
 have K2 := H_ K2
 have HN := H_ hn
 clear hn
 go_enter func221, ntmps221
 go_wp2_with fail
 generalize hwa : (w.alloc (.cells #[.iface Ta ua, .iface Tb ub] 161)).alloc (.cells #[.nilIface, .nilIface] 161) = wa
 have hbw : Below w.heap.size w wa := by rw [← hwa]; exact Zl _ _ _
 have ya : wa.heap[w.heap.size]? = some (.cells #[.iface Ta ua, .iface Tb ub] 161 (0, 0)) := by rw [← hwa]; exact Z8 (heap_alloc_new _ _)
 have yr : wa.heap[w.heap.size + 1]? = some (.cells #[.nilIface, .nilIface] 161 (0, 0)) := by rw [← hwa]; exact Za _ _ _
 have hNa := H_ (HN.out.below hbw)
 have C1 : Hid (∀ W, Only b wa W → NMk W b vf k → Calls prog 123 #[.iface Ta ua, p1, p2] W fun e w' => (∃ S t, e = .returned (.iface S t) ∧ EV w' (fun k => k < B) fa (.iface S t)) ∧ NMk w' b vf k1 ∧ Only b W w') := H_ (fun W hW hk => by have h := K1.out W k ((Only.of hbw).trans hW) hk (by rw [h1]; exact hk1); rw [h1] at h; exact h)
 have C2 : Hid (∀ W, Only b wa W → NMk W b vf k1 → Calls prog 123 #[.iface Tb ub, p1, p2] W fun e w' => (∃ S t, e = .returned (.iface S t) ∧ EV w' (fun k => k < B) fb (.iface S t)) ∧ NMk w' b vf k2 ∧ Only b W w') := H_ (fun W hW hk => by have h := K2.out W k1 ((Only.of hbw).trans hW) hk (by rw [h2]; exact hk2); rw [h2] at h; exact h)
 have hsz := hbw.size
 have HOw : Hid (Only b w wa) := H_ (Only.of hbw)
 generalize hB0 : w.heap.size = B0 at *
 have hne0 : B0 ≠ b := by omega
 have hne1 : B0 + 1 ≠ b := by omega
 have KS : Hid (∀ W, Only b wa W → (fun W => W.cell? ⟨B0, 0, none⟩ = some (.iface Ta ua) ∧ W.cell? ⟨B0, 1, none⟩ = some (.iface Tb ub)) W) := H_ (fun W hW => by have q := hW.blk ya hne0; exact ⟨Z4 q, Z4 q⟩)
 clear K1 K2 hwa h1 h2 hk1 hk2 HN
 have hD0 : Only b wa wa.drew := (Only.refl b wa).drew
 have hN0 : NMk wa.drew b vf k := hNa.out.other rfl
 have S0 := H_ (KS.out _ hD0)
 have HSt : Hid (∀ W, Only b wa W → ∀ v0 v1, (fun W => W.cell? ⟨B0, 0, none⟩ = some (.iface Ta ua) ∧ W.cell? ⟨B0, 1, none⟩ = some (.iface Tb ub)) ((W.setCell ⟨B0 + 1, 0, none⟩ v0).setCell ⟨B0 + 1, 1, none⟩ v1)) := H_ (fun W hW v0 v1 => by
  have q := hW.blk ya hne0
  have q2 : ((W.setCell ⟨B0 + 1, 0, none⟩ v0).setCell ⟨B0 + 1, 1, none⟩ v1).heap[B0]? = some (.cells #[.iface Ta ua, .iface Tb ub] 161 (0, 0)) := by rw [Z3 _ (by simp), Z3 _ (by simp)]; exact q
  exact ⟨Z4 q2, Z4 q2⟩)
 first | (go_region_held_law (fun W => W.cell? ⟨B0, 0, none⟩ = some (.iface Ta ua) ∧ W.cell? ⟨B0, 1, none⟩ = some (.iface Tb ub)) (first | exact S0.out | assumption | exact hSt _ _) (first | (go_at_call_of 123 (Value.iface Ta ua); (with_reducible refine (C1.out _ hD0 hN0).mono ?_); rintro e w2 ⟨⟨S1, t1, rfl, hx1⟩, hN1, hb1⟩; have h1 := Only.trans hD0 hb1; have hS1 := KS.out _ h1) | (go_at_call_of 123 (Value.iface Tb ub); (with_reducible refine (C2.out _ h1 hN1).mono ?_); rintro e w3 ⟨⟨S2, t2, rfl, hx2⟩, hN2, hb2⟩; have h2 := Only.trans h1 hb2; have hS2 := KS.out _ h2; have r3 := h2.blk yr hne1; obtain ⟨f30, f31⟩ := Xb r3; obtain ⟨r30, r31⟩ := Zh r3; have hSt := HSt.out _ h2))) | fail
 all_goals
  go_wp2_with fail
  refine bodyPost_ret (v := .agg #[.iface S1 t1, .iface S2 t2]) (by simp [results, results221, go_sem, r30, r31]) rfl ⟨⟨S1, t1, S2, t2, rfl, ?_, ?_⟩, ?_, ?_⟩
  · exact EV.move (fun _ h => h) (fun k hk => by rw [Z3 _ (show k ≠ B0 + 1 by omega), Z3 _ (show k ≠ B0 + 1 by omega)]; exact hb2.block k (by have := h1.size; omega) (by omega)) _ _ hx1
  · exact EV.move (fun _ h => h) (fun k hk => by rw [Z3 _ (show k ≠ B0 + 1 by omega), Z3 _ (show k ≠ B0 + 1 by omega)]) _ _ hx2
  · exact hN2.other (by rw [Z3 _ (show b ≠ B0 + 1 by omega), Z3 _ (show b ≠ B0 + 1 by omega)])
  · exact ((HOw.out.trans h2).setNew (show w.heap.size ≤ B0 + 1 by omega) _).setNew (show w.heap.size ≤ B0 + 1 by omega) _
theorem changed1P (free : List Nm) (m : List (Nm × Nm)) (b B : Nat) (vf : Value) (Ta : TypeId) (ua p1 p2 : Value) (xa : Ex) (k k1 : Nat) (fa : Ex) (w : World) (hB : B ≤ b) (hn : NMk w b vf k) (h1 : plE free m k xa = (fa, k1)) (hk1 : k1 ≤ 200) (K1 : PkC free m b B vf w p1 p2 Ta ua xa) :
 Calls prog 236 #[.agg #[.iface Ta ua], .func (.func 123) #[] #[p1, p2]] w fun e w' => (∃ S1 t1, e = .returned (.agg #[.iface S1 t1]) ∧ EV w' (fun k => k < B) fa (.iface S1 t1)) ∧ NMk w' b vf k1 ∧ Only b w w' := by
 have hbl := hn.lt
 have hb0 := Zl w (.cells #[.iface Ta ua] 173) (.cells #[.nilIface] 173)
 have C1 : Hid (Calls prog 123 #[.iface Ta ua, p1, p2] ((w.alloc (.cells #[.iface Ta ua] 173)).alloc (.cells #[.nilIface] 173)) fun e w' => (∃ S t, e = .returned (.iface S t) ∧ EV w' (fun k => k < B) fa (.iface S t)) ∧ NMk w' b vf k1 ∧ Only b ((w.alloc (.cells #[.iface Ta ua] 173)).alloc (.cells #[.nilIface] 173)) w') := H_ (by have h := K1 _ k (Only.of hb0) (hn.below hb0) (by rw [h1]; exact hk1); rw [h1] at h; exact h)
 have HOw : Hid (Only b w ((w.alloc (.cells #[.iface Ta ua] 173)).alloc (.cells #[.nilIface] 173))) := H_ (Only.of hb0)
 have X2 := Za w (.cells #[.iface Ta ua] 173) (.cells #[.nilIface] 173)
 clear K1 h1 hn hb0
 go_enter func236, ntmps236
 go_wp2_with (go_at_call 123; go_must (refine (C1.out).mono ?_; rintro e w2 ⟨⟨S1, t1, rfl, hx1⟩, hN1, hb2⟩; have r3 := hb2.blk X2 (show w.heap.size + 1 ≠ b by omega); have f30 := Yf (j := 0) r3; have r30 := Z4 (j := 0) r3))
 refine bodyPost_ret (v := .agg #[.iface S1 t1]) (by simp [results, results236, go_sem, r30]) rfl ⟨⟨S1, t1, rfl, ?_⟩, ?_, ?_⟩
 · exact EV.move (fun _ h => h) (fun k hk => by rw [Z3 _ (show k ≠ w.heap.size + 1 by omega)]) _ _ hx1
 · exact hN1.other (by rw [Z3 _ (show b ≠ w.heap.size + 1 by omega)])
 · exact (HOw.out.trans hb2).setNew (show w.heap.size ≤ w.heap.size + 1 by omega) _
theorem map_addP (free : List Nm) (m : List (Nm × Nm)) (b B : Nat) (vf : Value) (Ta Tb : TypeId) (ua ub p1 p2 : Value) (xa xb : Ex) (k k1 k2 : Nat) (fa fb : Ex) (w : World) (hB : B ≤ b) (hn : NMk w b vf k) (h1 : plE free m k xa = (fa, k1)) (h2 : plE free m k1 xb = (fb, k2)) (hk1 : k1 ≤ 200) (hk2 : k2 ≤ 200) (K1 : PkC free m b B vf w p1 p2 Ta ua xa) (K2 : PkC free m b B vf w p1 p2 Tb ub xb) :
 Calls prog 220 #[.agg #[.iface Ta ua, .iface Tb ub], .func (.func 123) #[] #[p1, p2]] w fun e w' => (∃ v', e = .returned v' ∧ EV w' (fun k => k < B) (.two .add fa fb) v') ∧ NMk w' b vf k2 ∧ Only b w w' := by
 have C := H_ (fun o => Z1f free m b B vf Ta Tb ua ub p1 p2 xa xb k k1 k2 fa fb (w.alloc o) hB (hn.below (Z5 w o)) h1 h2 hk1 hk2 (K1.next (Only.of (Z5 w o))) (K2.next (Only.of (Z5 w o))))
 clear K1 K2 hn h1 h2
 go_enter func220, ntmps220
 go_wp2_with (go_at_call 221; go_must (refine (C.out _).mono ?_; rintro e w2 ⟨⟨S1, t1, S2, t2, rfl, hx1, hx2⟩, hN, hb2⟩))
 go_ret
 exact ⟨⟨_, rfl, _, _, rfl, hx1, hx2⟩, hN, (Only.of (Z5 w _)).trans hb2⟩
theorem map_subP (free : List Nm) (m : List (Nm × Nm)) (b B : Nat) (vf : Value) (Ta Tb : TypeId) (ua ub p1 p2 : Value) (xa xb : Ex) (k k1 k2 : Nat) (fa fb : Ex) (w : World) (hB : B ≤ b) (hn : NMk w b vf k) (h1 : plE free m k xa = (fa, k1)) (h2 : plE free m k1 xb = (fb, k2)) (hk1 : k1 ≤ 200) (hk2 : k2 ≤ 200) (K1 : PkC free m b B vf w p1 p2 Ta ua xa) (K2 : PkC free m b B vf w p1 p2 Tb ub xb) :
 Calls prog 223 #[.agg #[.iface Ta ua, .iface Tb ub], .func (.func 123) #[] #[p1, p2]] w fun e w' => (∃ v', e = .returned v' ∧ EV w' (fun k => k < B) (.two .sub fa fb) v') ∧ NMk w' b vf k2 ∧ Only b w w' := by
 have C := H_ (fun o => Z1f free m b B vf Ta Tb ua ub p1 p2 xa xb k k1 k2 fa fb (w.alloc o) hB (hn.below (Z5 w o)) h1 h2 hk1 hk2 (K1.next (Only.of (Z5 w o))) (K2.next (Only.of (Z5 w o))))
 clear K1 K2 hn h1 h2
 go_enter func223, ntmps223
 go_wp2_with (go_at_call 221; go_must (refine (C.out _).mono ?_; rintro e w2 ⟨⟨S1, t1, S2, t2, rfl, hx1, hx2⟩, hN, hb2⟩))
 go_ret
 exact ⟨⟨_, rfl, _, _, rfl, hx1, hx2⟩, hN, (Only.of (Z5 w _)).trans hb2⟩
theorem map_mulP (free : List Nm) (m : List (Nm × Nm)) (b B : Nat) (vf : Value) (Ta Tb : TypeId) (ua ub p1 p2 : Value) (xa xb : Ex) (k k1 k2 : Nat) (fa fb : Ex) (w : World) (hB : B ≤ b) (hn : NMk w b vf k) (h1 : plE free m k xa = (fa, k1)) (h2 : plE free m k1 xb = (fb, k2)) (hk1 : k1 ≤ 200) (hk2 : k2 ≤ 200) (K1 : PkC free m b B vf w p1 p2 Ta ua xa) (K2 : PkC free m b B vf w p1 p2 Tb ub xb) :
 Calls prog 225 #[.agg #[.iface Ta ua, .iface Tb ub], .func (.func 123) #[] #[p1, p2]] w fun e w' => (∃ v', e = .returned v' ∧ EV w' (fun k => k < B) (.two .mul fa fb) v') ∧ NMk w' b vf k2 ∧ Only b w w' := by
 have C := H_ (fun o => Z1f free m b B vf Ta Tb ua ub p1 p2 xa xb k k1 k2 fa fb (w.alloc o) hB (hn.below (Z5 w o)) h1 h2 hk1 hk2 (K1.next (Only.of (Z5 w o))) (K2.next (Only.of (Z5 w o))))
 clear K1 K2 hn h1 h2
 go_enter func225, ntmps225
 go_wp2_with (go_at_call 221; go_must (refine (C.out _).mono ?_; rintro e w2 ⟨⟨S1, t1, S2, t2, rfl, hx1, hx2⟩, hN, hb2⟩))
 go_ret
 exact ⟨⟨_, rfl, _, _, rfl, hx1, hx2⟩, hN, (Only.of (Z5 w _)).trans hb2⟩
theorem map_callP (free : List Nm) (m : List (Nm × Nm)) (b B : Nat) (vf : Value) (Ta Tb : TypeId) (ua ub p1 p2 : Value) (xa xb : Ex) (k k1 k2 : Nat) (fa fb : Ex) (w : World) (hB : B ≤ b) (hn : NMk w b vf k) (h1 : plE free m k xa = (fa, k1)) (h2 : plE free m k1 xb = (fb, k2)) (hk1 : k1 ≤ 200) (hk2 : k2 ≤ 200) (K1 : PkC free m b B vf w p1 p2 Ta ua xa) (K2 : PkC free m b B vf w p1 p2 Tb ub xb) :
 Calls prog 230 #[.agg #[.iface Ta ua, .iface Tb ub], .func (.func 123) #[] #[p1, p2]] w fun e w' => (∃ v', e = .returned v' ∧ EV w' (fun k => k < B) (.two .call fa fb) v') ∧ NMk w' b vf k2 ∧ Only b w w' := by
 have C := H_ (fun o => Z1f free m b B vf Ta Tb ua ub p1 p2 xa xb k k1 k2 fa fb (w.alloc o) hB (hn.below (Z5 w o)) h1 h2 hk1 hk2 (K1.next (Only.of (Z5 w o))) (K2.next (Only.of (Z5 w o))))
 clear K1 K2 hn h1 h2
 go_enter func230, ntmps230
 go_wp2_with (go_at_call 221; go_must (refine (C.out _).mono ?_; rintro e w2 ⟨⟨S1, t1, S2, t2, rfl, hx1, hx2⟩, hN, hb2⟩))
 go_ret
 exact ⟨⟨_, rfl, _, _, rfl, hx1, hx2⟩, hN, (Only.of (Z5 w _)).trans hb2⟩
theorem map_pairP (free : List Nm) (m : List (Nm × Nm)) (b B : Nat) (vf : Value) (Ta Tb : TypeId) (ua ub p1 p2 : Value) (xa xb : Ex) (k k1 k2 : Nat) (fa fb : Ex) (w : World) (hB : B ≤ b) (hn : NMk w b vf k) (h1 : plE free m k xa = (fa, k1)) (h2 : plE free m k1 xb = (fb, k2)) (hk1 : k1 ≤ 200) (hk2 : k2 ≤ 200) (K1 : PkC free m b B vf w p1 p2 Ta ua xa) (K2 : PkC free m b B vf w p1 p2 Tb ub xb) :
 Calls prog 232 #[.agg #[.iface Ta ua, .iface Tb ub], .func (.func 123) #[] #[p1, p2]] w fun e w' => (∃ v', e = .returned v' ∧ EV w' (fun k => k < B) (.two .pair fa fb) v') ∧ NMk w' b vf k2 ∧ Only b w w' := by
 have C := H_ (fun o => Z1f free m b B vf Ta Tb ua ub p1 p2 xa xb k k1 k2 fa fb (w.alloc o) hB (hn.below (Z5 w o)) h1 h2 hk1 hk2 (K1.next (Only.of (Z5 w o))) (K2.next (Only.of (Z5 w o))))
 clear K1 K2 hn h1 h2
 go_enter func232, ntmps232
 go_wp2_with (go_at_call 221; go_must (refine (C.out _).mono ?_; rintro e w2 ⟨⟨S1, t1, S2, t2, rfl, hx1, hx2⟩, hN, hb2⟩))
 go_ret
 exact ⟨⟨_, rfl, _, _, rfl, hx1, hx2⟩, hN, (Only.of (Z5 w _)).trans hb2⟩
theorem map_fstP (free : List Nm) (m : List (Nm × Nm)) (b B : Nat) (vf : Value) (Ta : TypeId) (ua p1 p2 : Value) (xa : Ex) (k k1 : Nat) (fa : Ex) (w : World) (hB : B ≤ b) (hn : NMk w b vf k) (h1 : plE free m k xa = (fa, k1)) (hk1 : k1 ≤ 200) (K1 : PkC free m b B vf w p1 p2 Ta ua xa) :
 Calls prog 235 #[.agg #[.iface Ta ua], .func (.func 123) #[] #[p1, p2]] w fun e w' => (∃ v', e = .returned v' ∧ EV w' (fun k => k < B) (.one .fst fa) v') ∧ NMk w' b vf k1 ∧ Only b w w' := by
 have C := H_ (fun o => changed1P free m b B vf Ta ua p1 p2 xa k k1 fa (w.alloc o) hB (hn.below (Z5 w o)) h1 hk1 (K1.next (Only.of (Z5 w o))))
 clear K1 hn h1
 go_enter func235, ntmps235
 go_wp2_with (go_at_call 236; go_must (refine (C.out _).mono ?_; rintro e w2 ⟨⟨S1, t1, rfl, hx1⟩, hN, hb2⟩))
 go_ret
 exact ⟨⟨_, rfl, _, rfl, hx1⟩, hN, (Only.of (Z5 w _)).trans hb2⟩
theorem map_sndP (free : List Nm) (m : List (Nm × Nm)) (b B : Nat) (vf : Value) (Ta : TypeId) (ua p1 p2 : Value) (xa : Ex) (k k1 : Nat) (fa : Ex) (w : World) (hB : B ≤ b) (hn : NMk w b vf k) (h1 : plE free m k xa = (fa, k1)) (hk1 : k1 ≤ 200) (K1 : PkC free m b B vf w p1 p2 Ta ua xa) :
 Calls prog 238 #[.agg #[.iface Ta ua], .func (.func 123) #[] #[p1, p2]] w fun e w' => (∃ v', e = .returned v' ∧ EV w' (fun k => k < B) (.one .snd fa) v') ∧ NMk w' b vf k1 ∧ Only b w w' := by
 have C := H_ (fun o => changed1P free m b B vf Ta ua p1 p2 xa k k1 fa (w.alloc o) hB (hn.below (Z5 w o)) h1 hk1 (K1.next (Only.of (Z5 w o))))
 clear K1 hn h1
 go_enter func238, ntmps238
 go_wp2_with (go_at_call 236; go_must (refine (C.out _).mono ?_; rintro e w2 ⟨⟨S1, t1, rfl, hx1⟩, hN, hb2⟩))
 go_ret
 exact ⟨⟨_, rfl, _, rfl, hx1⟩, hN, (Only.of (Z5 w _)).trans hb2⟩
theorem map_ifP (free : List Nm) (m : List (Nm × Nm)) (b B : Nat) (vf : Value) (Ta Tb Tc : TypeId) (ua ub uc p1 p2 : Value) (xa xb xc : Ex) (k k1 k2 k3 : Nat) (fa fb fc : Ex) (w : World) (hB : B ≤ b) (hn : NMk w b vf k) (h1 : plE free m k xa = (fa, k1)) (h2 : plE free m k1 xb = (fb, k2)) (h3 : plE free m k2 xc = (fc, k3)) (hk1 : k1 ≤ 200) (hk2 : k2 ≤ 200) (hk3 : k3 ≤ 200) (K1 : PkC free m b B vf w p1 p2 Ta ua xa) (K2 : PkC free m b B vf w p1 p2 Tb ub xb) (K3 : PkC free m b B vf w p1 p2 Tc uc xc) :
 Calls prog 228 #[.agg #[.iface Ta ua, .iface Tb ub, .iface Tc uc], .func (.func 123) #[] #[p1, p2]] w fun e w' => (∃ v', e = .returned v' ∧ EV w' (fun k => k < B) (.cond fa fb fc) v') ∧ NMk w' b vf k3 ∧ Only b w w' := by
 have hbl := hn.lt
 have HN := H_ hn
 clear hn
 go_enter func228, ntmps228
 go_wp2_with fail
 generalize hwa : w.alloc (.cells #[.iface Ta ua, .iface Tb ub, .iface Tc uc] 167) = wa
 have hbw : Below w.heap.size w wa := by rw [← hwa]; exact Z5 _ _
 have ya : wa.heap[w.heap.size]? = some (.cells #[.iface Ta ua, .iface Tb ub, .iface Tc uc] 167 (0, 0)) := by rw [← hwa]; exact heap_alloc_new _ _
 have hNa := H_ (HN.out.below hbw)
 have C1 : Hid (∀ W, Only b wa W → NMk W b vf k → Calls prog 123 #[.iface Ta ua, p1, p2] W fun e w' => (∃ S t, e = .returned (.iface S t) ∧ EV w' (fun k => k < B) fa (.iface S t)) ∧ NMk w' b vf k1 ∧ Only b W w') := H_ (fun W hW hk => by have h := K1 W k ((Only.of hbw).trans hW) hk (by rw [h1]; exact hk1); rw [h1] at h; exact h)
 have C2 : Hid (∀ W, Only b wa W → NMk W b vf k1 → Calls prog 123 #[.iface Tb ub, p1, p2] W fun e w' => (∃ S t, e = .returned (.iface S t) ∧ EV w' (fun k => k < B) fb (.iface S t)) ∧ NMk w' b vf k2 ∧ Only b W w') := H_ (fun W hW hk => by have h := K2 W k1 ((Only.of hbw).trans hW) hk (by rw [h2]; exact hk2); rw [h2] at h; exact h)
 have C3 : Hid (∀ W, Only b wa W → NMk W b vf k2 → Calls prog 123 #[.iface Tc uc, p1, p2] W fun e w' => (∃ S t, e = .returned (.iface S t) ∧ EV w' (fun k => k < B) fc (.iface S t)) ∧ NMk w' b vf k3 ∧ Only b W w') := H_ (fun W hW hk => by have h := K3 W k2 ((Only.of hbw).trans hW) hk (by rw [h3]; exact hk3); rw [h3] at h; exact h)
 have hsz := hbw.size
 have HOw : Hid (Only b w wa) := H_ (Only.of hbw)
 have hBw : B ≤ wa.heap.size := by omega
 generalize hB0 : w.heap.size = B0 at *
 have hne0 : B0 ≠ b := by omega
 have KS : Hid (∀ W, Only b wa W → (fun W => W.cell? ⟨B0, 0, none⟩ = some (.iface Ta ua) ∧ W.cell? ⟨B0, 1, none⟩ = some (.iface Tb ub) ∧ W.cell? ⟨B0, 2, none⟩ = some (.iface Tc uc)) W) := H_ (fun W hW => by have q := hW.blk ya hne0; exact ⟨Z4 q, Z4 q, Z4 q⟩)
 clear hwa K1 K2 K3 h1 h2 h3 hk1 hk2 hk3 HN
 have hD0 : Only b wa wa.drew := (Only.refl b wa).drew
 have hN0 : NMk wa.drew b vf k := hNa.out.other rfl
 have S0 := H_ (KS.out _ hD0)
 first | (go_region_held_law (fun W => W.cell? ⟨B0, 0, none⟩ = some (.iface Ta ua) ∧ W.cell? ⟨B0, 1, none⟩ = some (.iface Tb ub) ∧ W.cell? ⟨B0, 2, none⟩ = some (.iface Tc uc)) (first | exact S0.out | assumption) (first | (go_at_call_of 123 (Value.iface Ta ua); (with_reducible refine (C1.out _ hD0 hN0).mono ?_); rintro e w2 ⟨⟨S1, t1, rfl, hx1⟩, hN1, hb1⟩; have h1 := Only.trans hD0 hb1; have hS1 := KS.out _ h1) | (go_at_call_of 123 (Value.iface Tb ub); (with_reducible refine (C2.out _ h1 hN1).mono ?_); rintro e w3 ⟨⟨S2, t2, rfl, hx2⟩, hN2, hb2⟩; have h2 := Only.trans h1 hb2; have hS2 := KS.out _ h2) | (go_at_call_of 123 (Value.iface Tc uc); (with_reducible refine (C3.out _ h2 hN2).mono ?_); rintro e w4 ⟨⟨S3, t3, rfl, hx3⟩, hN3, hb3⟩; have h3 := Only.trans h2 hb3; have hS3 := KS.out _ h3))) | fail
 all_goals
  go_wp2_with fail
  go_ret
  exact ⟨⟨_, rfl, _, _, _, rfl, hx1.onlyI hB (by have := h1.size; omega) (hb2.trans hb3), hx2.onlyI hB (by have := h2.size; omega) hb3, hx3⟩, hN3, HOw.out.trans h3⟩
end Go.Proofs.YtjaaalojcdbcpaaGreatDoor
