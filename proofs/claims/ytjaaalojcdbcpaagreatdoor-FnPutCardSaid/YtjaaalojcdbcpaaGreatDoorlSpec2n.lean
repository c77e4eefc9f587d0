/- The reference model's ExprPut. -/
import Derived.Test.YtjaaalojcdbcpaaGreatDoorlSpec2m
import Derived.Test.YtjaaalojcdbcpaaGreatDoorlSpec2hM
import Derived.Test.YtjaaalojcdbcpaaGreatDoorlSpec2sM
set_option maxHeartbeats 20000000
set_option linter.unusedVariables false
set_option linter.unusedSimpArgs false
namespace Go.Proofs.YtjaaalojcdbcpaaGreatDoor
open Go.RowKit Go.Proofs.Tryz
set_option maxRecDepth 8000
theorem Z5v {l : List UInt8} {x : Ex} (h : Zp l = some x) : ∃ t, Xv l = some t ∧ Zy t = some x ∧ t.size ≤ 120 := by
 cases hp : Zt l with
 | none => rw [Kr hp] at h; cases h
 | some t =>
   rw [J8 hp] at h
   by_cases hs : t.size ≤ 120
   · rw [if_pos hs] at h
     exact ⟨t, Z0s hp (by simp [Jx, h]) hs, h, hs⟩
   · rw [if_neg hs] at h; cases h
theorem Z3n {s : ByteArray} (hs : s.size ≤ 1048576) (W : World) : Calls prog 29 #[.string s] W fun e w' => (∃ a p n c, e = .returned (.tuple #[.agg #[.string a, .slice p n c], .bool (Xv s.data.toList).isSome])) ∧ Below W.heap.size W w' :=
 (Z36 s hs W).mono fun e w' ⟨hp, hb⟩ => ⟨Kh hp, hb⟩
theorem Z0h (s n y : ByteArray) (hs : s.size ≤ 1048576) (hn : n.size ≤ 1048576) (hy : y.size ≤ 1048576) (P Q N Z : Bool) (hP : P = (Xv s.data.toList).isSome) (hQ : Q = (Xv y.data.toList).isSome) (hN : N = Yg n.data.toList) (hZ : Z = (Qr y.data.toList).isSome) (hno : (P && Q && N && Z) = false) (w : World) :
 Calls prog 22 #[.string s, .string n, .string y] w fun e w' => e = .returned (.tuple #[.string ⟨#[]⟩, .bool false]) ∧ Below w.heap.size w w' := by
 have CS : Hid (∀ W, Calls prog 29 #[.string s] W fun e w' => (∃ a p n c, e = .returned (.tuple #[.agg #[.string a, .slice p n c], .bool P])) ∧ Below W.heap.size W w') := H_ (fun W => by rw [hP]; exact Z3n hs W)
 have CY : Hid (∀ W, Calls prog 29 #[.string y] W fun e w' => (∃ a p n c, e = .returned (.tuple #[.agg #[.string a, .slice p n c], .bool Q])) ∧ Below W.heap.size W w') := H_ (fun W => by rw [hQ]; exact Z3n hy W)
 have CN : Hid (∀ W, Calls prog 53 #[.string n] W fun e w' => e = .returned (.bool N) ∧ w' = W) := H_ (fun W => by rw [hN]; exact Z7i n hn W)
 have CC : Hid (∀ W, Calls prog 54 #[.string y] W fun e w' => e = .returned (.bool Z) ∧ Below W.heap.size W w') := H_ (fun W => by rw [hZ]; exact Z14 y hy W)
 clear hP hQ hN hZ
 cases P <;> cases Q <;> cases N <;> cases Z <;> first
  | (exact absurd hno (by decide))
  | (clear hno
     go_enter func22, ntmps22
     go_wp2_with (first | (go_at_call 29; first | ((with_reducible refine (CS.out _).mono ?_); rintro e w1 ⟨⟨a1, p1, n1, c1, rfl⟩, hb1⟩; have hB1 := H_ (hb1.alloc hb1.size (.cells #[.string a1, .slice p1 n1 c1] 47))) | ((with_reducible refine (CY.out _).mono ?_); rintro e w2 ⟨⟨a2, p2, n2, c2, rfl⟩, hb2⟩; have hB2 := H_ ((hB1.out.trans (hb2.mono hB1.out.size)).alloc (Nat.le_trans hB1.out.size hb2.size) (.cells #[.string a2, .slice p2 n2 c2] 47)))) | (go_at_call 53; go_must (refine (CN.out _).mono ?_; rintro e w3 ⟨rfl, rfl⟩)) | (go_at_call 54; go_must (refine (CC.out _).mono ?_; rintro e w4 ⟨rfl, hb4⟩)))
     go_ret2
     first
      | exact ⟨rfl, hB2.out.trans (hb4.mono hB2.out.size)⟩
      | exact ⟨rfl, hB2.out⟩)
theorem Z6d (s n y : ByteArray) (hs : s.size ≤ 1048576) (hn : n.size ≤ 1048576) (hy : y.size ≤ 1048576) {x b : Ex} (hp : Zp s.data.toList = some x) (hm : Yg n.data.toList = true) (hc : Qr y.data.toList = some b) (w : World) :
 Calls prog 22 #[.string s, .string n, .string y] w fun e w' => Z03 (Kx s.data.toList n.data.toList y.data.toList) e ∧ Below w.heap.size w w' := by
 obtain ⟨t, ht, ht1, ht2⟩ := Z5v hp
 obtain ⟨tb, hb, hb1, hb2⟩ := Z5v (Z3y hc).1
 obtain rfl := X3 _ _ hb1
 obtain rfl := X3 _ _ ht1
 have gs := Ve ht
 have gy := Ve hb
 obtain ⟨ws, bs1, ds, -⟩ := Yk gs.1
 obtain ⟨wy, by1, dy, -⟩ := Yk gy.1
 have hg := Qm (name := n.data.toList) hb1 x ht1
 have hw := Ky (name := n.data.toList) wy x ws
 have hfit := putE_fits (name := n.data.toList) by1 bs1 gs.2.2
 have hR := Z78 hp hm hc
 have hlim := Z7h hw hg
 rw [hlim] at hR
 have hlen := Y4 _ hw
 have hbn : bs n.data.toList = n := (Z5j rfl).symm
 have CS := H_ (Z06 hs ht)
 have CY := H_ (Z06 hy hb)
 have CN : Hid (∀ W, Calls prog 53 #[.string n] W fun e w' => e = .returned (.bool true) ∧ w' = W) := H_ (fun W => by have h := Z7i n hn W; rw [hm] at h; exact h)
 have CC : Hid (∀ W, Calls prog 54 #[.string y] W fun e w' => e = .returned (.bool true) ∧ Below W.heap.size W w') := H_ (fun W => by have h := Z14 y hy W; rw [hc] at h; exact h)
 obtain ⟨A1, hA1⟩ : ∃ A1, A1 = bs (Z1 (Z0 x)) := ⟨_, rfl⟩
 obtain ⟨A2, hA2⟩ : ∃ A2, A2 = bs (Z1 (Z0 b)) := ⟨_, rfl⟩
 have CP : Hid (∀ (W : World) p1 n1 c1 p2 n2 c2, FV nS W (fun k => k < W.heap.size) (Z0 x) (nS (Z0 x) (.slice p1 n1 c1)) → FV nS W (fun k => k < W.heap.size) (Z0 b) (nS (Z0 b) (.slice p2 n2 c2)) → Calls prog 55 #[.agg #[.string A1, .slice p1 n1 c1], .string n, .agg #[.string A2, .slice p2 n2 c2]] W fun e w' => Z1x W.heap.size (Z0 (Zs n.data.toList b x)) W e w') := H_ (fun W p1 n1 c1 p2 n2 c2 h1 h2 => by
  have h := l2Put_all n.data.toList b 61 (Z0 x) x (nS (Z0 x) (.slice p1 n1 c1)) (nS (Z0 b) (.slice p2 n2 c2)) W.heap.size W hm (by omega) ws bs1 ht1 h1 h2 (Nat.le_refl _)
  rw [hbn] at h
  rw [hA1, hA2]
  exact h)
 generalize hX : Z0 (Zs n.data.toList b x) = T at *
 obtain ⟨A3, hA3⟩ : ∃ A3, A3 = bs (Z1 T) := ⟨_, rfl⟩
 have CT : Hid (∀ (W : World) p m c (ok : Nat → Prop), FV nS W ok T (nS T (.slice p m c)) → (∀ k, ok k → k < W.heap.size) → Calls prog 31 #[.agg #[.string A3, .slice p m c]] W fun e w' => e = .returned (.string (bs T.text)) ∧ Below W.heap.size W w') := H_ (fun W p m c ok h1 h2 => by rw [hA3]; exact Z0k (T.depth + 1) T _ ok W (by omega) hw (by omega) h1 h2)
 obtain ⟨z, hz⟩ : ∃ z, z = (Xv T.text).isSome := ⟨_, rfl⟩
 have CV : Hid (∀ W, Calls prog 56 #[.string (bs T.text)] W fun e w' => e = .returned (.bool z) ∧ Below W.heap.size W w') := H_ (fun W => by rw [hz]; exact Kf (bs T.text) (by rw [Y0]; omega) W)
 rw [← hz] at hR
 have HE1 : Hid (z = true → Z03 (Kx s.data.toList n.data.toList y.data.toList) (.returned (.tuple #[.string (bs T.text), .bool true]))) := H_ (fun h => by rw [hR, h]; rfl)
 have HE0 : Hid (z = false → Z03 (Kx s.data.toList n.data.toList y.data.toList) (.returned (.tuple #[.string ⟨#[]⟩, .bool false]))) := H_ (fun h => by rw [hR, h]; rfl)
 unfold Hid at CS CY
 rw [← hA1] at CS
 rw [← hA2] at CY
 have CS := H_ CS
 have CY := H_ CY
 have HP : Hid (∀ e W w', Z1x W.heap.size T W e w' → (∃ p m c, e = .returned (.agg #[.string A3, .slice p m c]) ∧ FV nS w' (fun k => k < w'.heap.size) T (nS T (.slice p m c))) ∧ Below W.heap.size W w') := H_ (fun e W w' ⟨⟨p, m, c, h1, h2⟩, h3⟩ => ⟨⟨p, m, c, by rw [hA3]; exact h1, h2.wide (fun k hk => by have := h3.size; omega)⟩, h3⟩)
 generalize bs T.text = TT at *
 clear hR hlim hlen hX hA1 hA2 hA3 hz hbn hfit hw hg hp hm hc ws bs1 ds wy by1 dy gs gy ht ht1 ht2 hb hb1 hb2
 cases z <;>
  (go_enter func22, ntmps22
   go_wp2_with (first | (go_at_call 29; first | ((with_reducible refine (CS.out _).mono ?_); rintro e w1 ⟨⟨p1, n1, c1, rfl, hv1⟩, hb1⟩; have hB1 := H_ (hb1.alloc hb1.size (.cells #[.string A1, .slice p1 n1 c1] 47)); have x1 := heap_alloc_new w1 (.cells #[.string A1, .slice p1 n1 c1] 47); have hv1a := H_ (FV.wide (hv1.below (Z5 w1 (.cells #[.string A1, .slice p1 n1 c1] 47)) (fun k hk => hk.2)) (ok' := fun k => k < (w1.alloc (.cells #[.string A1, .slice p1 n1 c1] 47)).heap.size) (fun k hk => by simp; omega)); clear hv1) | ((with_reducible refine (CY.out _).mono ?_); rintro e w2 ⟨⟨p2, n2, c2, rfl, hv2⟩, hb2⟩; have hB2 := H_ ((hB1.out.trans (hb2.mono hB1.out.size)).alloc (Nat.le_trans hB1.out.size hb2.size) (.cells #[.string A2, .slice p2 n2 c2] 47)); have x2 := heap_alloc_new w2 (.cells #[.string A2, .slice p2 n2 c2] 47); have x1b := Z8 (o' := (.cells #[.string A2, .slice p2 n2 c2] 47)) (Z2 hb2 (lt_of_block x1) x1); have hv2a := H_ (FV.wide (hv2.below (Z5 w2 (.cells #[.string A2, .slice p2 n2 c2] 47)) (fun k hk => hk.2)) (ok' := fun k => k < (w2.alloc (.cells #[.string A2, .slice p2 n2 c2] 47)).heap.size) (fun k hk => by simp; omega)); have hv1b := H_ (FV.wide ((hv1a.out.below hb2 (fun k hk => hk)).below (Z5 w2 (.cells #[.string A2, .slice p2 n2 c2] 47)) (fun k hk => Nat.lt_of_lt_of_le hk hb2.size)) (ok' := fun k => k < (w2.alloc (.cells #[.string A2, .slice p2 n2 c2] 47)).heap.size) (fun k hk => by have := hb2.size; simp at hk this ⊢; omega)); clear hv2)) | (go_at_call 53; go_must (refine (CN.out _).mono ?_; rintro e w3 ⟨rfl, rfl⟩)) | (go_at_call 54; go_must (refine (CC.out _).mono ?_; rintro e w4 ⟨rfl, hb4⟩; have x1c := Z2 hb4 (lt_of_block x1b) x1b; have x2c := Z2 hb4 (lt_of_block x2) x2; obtain ⟨y0, y1⟩ := Zh x1c; obtain ⟨z0, z1⟩ := Zh x2c; have k1 := H_ (FV.wide (hv1b.out.below hb4 (fun k hk => hk)) (ok' := fun k => k < w4.heap.size) (fun k hk => Nat.lt_of_lt_of_le hk hb4.size)); have k2 := H_ (FV.wide (hv2a.out.below hb4 (fun k hk => hk)) (ok' := fun k => k < w4.heap.size) (fun k hk => Nat.lt_of_lt_of_le hk hb4.size)); have hB4 := H_ (hB2.out.trans (hb4.mono hB2.out.size)))) | (go_at_call 55; go_must (refine (CP.out _ _ _ _ _ _ _ k1.out k2.out).mono ?_; rintro e w5 hpp; obtain ⟨⟨p5, m5, c5, rfl, hv5⟩, hb5⟩ := HP.out _ _ _ hpp; have hB5 := H_ (hB4.out.trans (hb5.mono hB4.out.size)))) | (go_at_call 31; go_must (refine (CT.out _ _ _ _ _ hv5 (fun k hk => hk)).mono ?_; rintro e w6 ⟨rfl, hb6⟩; have hB6 := H_ (hB5.out.trans (hb6.mono hB5.out.size)))) | (go_at_call 56; go_must (refine (CV.out _).mono ?_; rintro e w7 ⟨rfl, hb7⟩; have hB7 := H_ (hB6.out.trans (hb7.mono hB6.out.size)))))
   go_ret2
   exact ⟨by first | exact HE1.out rfl | exact HE0.out rfl | exact HE1.out trivial | exact HE0.out trivial | exact HE1.out | exact HE0.out, hB7.out⟩)
theorem specExprPut_c (s n y : ByteArray) (hs : s.size ≤ 1048576) (hn : n.size ≤ 1048576) (hy : y.size ≤ 1048576) (w : World) :
 Calls prog 22 #[.string s, .string n, .string y] w fun e w' => Z03 (Kx s.data.toList n.data.toList y.data.toList) e ∧ Below w.heap.size w w' := by
 cases hp : Zp s.data.toList with
 | none =>
   exact (Z0h s n y hs hn hy _ _ _ _ rfl rfl rfl rfl (by rw [← Z3k, hp]; rfl) w).mono fun e w' ⟨h1, h2⟩ => ⟨by rw [Z79 hp]; exact h1, h2⟩
 | some x =>
   cases hm : Yg n.data.toList with
   | false => exact (Z0h s n y hs hn hy _ _ _ _ rfl rfl rfl rfl (by rw [hm]; simp) w).mono fun e w' ⟨h1, h2⟩ => ⟨by rw [putTx_no hm]; exact h1, h2⟩
   | true =>
     cases hc : Qr y.data.toList with
     | none => exact (Z0h s n y hs hn hy _ _ _ _ rfl rfl rfl rfl (by rw [hc]; simp) w).mono fun e w' ⟨h1, h2⟩ => ⟨by rw [putTx_cl hc]; exact h1, h2⟩
     | some b => exact Z6d s n y hs hn hy hp hm hc w
end Go.Proofs.YtjaaalojcdbcpaaGreatDoor
