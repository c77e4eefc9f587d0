/- Plain texts: what is alike, what is put (plain mathematics). The program: ExprAlike. -/
import Derived.Test.YtjaaalojcdbcpaaGreatDoorlPureDbM
import Derived.Test.YtjaaalojcdbcpaaGreatDoorlImpl2y
import Derived.Test.YtjaaalojcdbcpaaGreatDoorlIp5
set_option maxHeartbeats 20000000
set_option linter.unusedVariables false
set_option linter.unusedSimpArgs false
namespace Go.Proofs.YtjaaalojcdbcpaaGreatDoor
open Go.RowKit Go.Proofs.Tryz
set_option maxRecDepth 8000
def Z87 (l m : List UInt8) : Bool := match Zp l, Zp m with | some x, some y => decide ((Z0 (plX x)).text = (Z0 (plX y)).text) | _, _ => false
theorem alTx_left {l m : List UInt8} (h : Zp l = none) : Z87 l m = false := by simp [Z87, h]
theorem alTx_right {l m : List UInt8} (h : Zp m = none) : Z87 l m = false := by unfold Z87; rw [h]; cases Zp l <;> rfl
theorem alTx_both {l m : List UInt8} {x y : Ex} (h : Zp l = some x) (h2 : Zp m = some y) : Z87 l m = decide ((Z0 (plX x)).text = (Z0 (plX y)).text) := by simp [Z87, h, h2]
theorem alTx_of {l m : List UInt8} {x y : Ex} (hx : Zp l = some x) (hy : Zp m = some y) (h : plX x = plX y) : Z87 l m = true := by rw [alTx_both hx hy, h]; simp
theorem plain_law {l P : List UInt8} (h : Z6g l = some P) : P.length ≤ 12000 ∧ Z6g P = some P ∧ (∃ F, V9 l = some F ∧ V9 P = some F) ∧ (∃ k : Nat, k ≤ 120 ∧ Xf l = k ∧ Xf P = k) ∧ Z87 l P = true := by
 cases hx : Zp l with
 | none => rw [Z58 hx] at h; cases h
 | some x =>
   rw [Z17 hx] at h
   obtain rfl := Option.some.inj h
   obtain ⟨q1, q2⟩ := Z7b hx
   obtain ⟨a1, -, a3, -, -, -, -⟩ := Jv hx
   obtain ⟨b1, -, b3, -, -, -, -⟩ := Jv q1
   refine ⟨q2, ?_, ⟨_, Vk hx, ?_⟩, ⟨(Z0 x).size, a3, ?_, ?_⟩, alTx_of hx q1 (plX_idem x).symm⟩
   · rw [Z17 q1, plX_idem]
   · rw [Vk q1, plX_free]
   · unfold Xf; rw [a1]
   · unfold Xf; rw [b1]; exact congrArg Nat.cast (Z7a x).1
theorem Jh (n : Nm) (b : Ex) : ∀ x : Ex, (Z0 (Zs n b x)).size + (Ze x).count n = (Z0 x).size + (Ze x).count n * (Z0 b).size
 | .name s => by
   simp only [Zs, Ze]
   by_cases e : s = n
   · subst e; simp [Z0, Tr.size]; omega
   · rw [if_neg e]
     have : List.count n [s] = 0 := by simp [e]
     simp [this]
 | .num k => by simp [Zs, Ze]
 | .two o x y => by
   have h1 := Jh n b x
   have h2 := Jh n b y
   simp only [Zs, Ze, Z0, Tr.size, Yd, List.count_append, Nat.add_mul]; omega
 | .one o x => by
   have h1 := Jh n b x
   simp only [Zs, Ze, Z0, Tr.size, Yd]; omega
 | .cond x y z => by
   have h1 := Jh n b x
   have h2 := Jh n b y
   have h3 := Jh n b z
   simp only [Zs, Ze, Z0, Tr.size, Yd, List.count_append, Nat.add_mul]; omega
 | .lete s x y => by
   have h1 := Jh n b x
   have h2 := Jh n b y
   simp only [Zs, Ze, List.count_append, Z4h, List.mem_singleton]
   by_cases e : s = n
   · have e2 : n = s := e.symm
     rw [if_pos e, if_pos e2]
     simp only [Z0, Tr.size, Yd, Nat.add_mul]; omega
   · have e2 : ¬ n = s := fun q => e q.symm
     rw [if_neg e, if_neg e2]
     simp only [Z0, Tr.size, Yd, Nat.add_mul]; omega
 | .func f a A B x => by
   have h1 := Jh n b x
   simp only [Zs, Ze, Z4h, List.mem_cons, List.not_mem_nil, or_false]
   by_cases e : f = n ∨ a = n
   · have e2 : n = f ∨ n = a := e.imp Eq.symm Eq.symm
     rw [if_pos e, if_pos e2]
     simp only [Z0, Tr.size, Yd]; omega
   · have e2 : ¬ (n = f ∨ n = a) := fun q => e (q.imp Eq.symm Eq.symm)
     rw [if_neg e, if_neg e2]
     simp only [Z0, Tr.size, Yd]; omega
theorem K8 {n : Nm} {b : Ex} (hb : Ze b = []) : ∀ x : Ex, (Ze (Zs n b x)).count n = 0
 | .name s => by
   simp only [Zs]
   by_cases e : s = n
   · rw [if_pos e, hb]; rfl
   · rw [if_neg e]; simp [Ze, e]
 | .num k => rfl
 | .two o x y => by simp only [Zs, Ze, List.count_append, K8 hb x, K8 hb y]
 | .one o x => by simp only [Zs, Ze, K8 hb x]
 | .cond x y z => by simp only [Zs, Ze, List.count_append, K8 hb x, K8 hb y, K8 hb z]
 | .lete s x y => by
   simp only [Zs, Ze, List.count_append, K8 hb x, Z4h, List.mem_singleton]
   by_cases e : s = n
   · have e2 : n = s := e.symm
     rw [if_pos e2]
   · rw [if_neg e, K8 hb y]; split <;> rfl
 | .func f a A B x => by
   simp only [Zs, Ze, Z4h, List.mem_cons, List.not_mem_nil, or_false]
   by_cases e : f = n ∨ a = n
   · have e2 : n = f ∨ n = a := e.imp Eq.symm Eq.symm
     rw [if_pos e2]
   · rw [if_neg e, K8 hb x]; split <;> rfl
theorem Z2a {l : List UInt8} {x : Ex} (h : Zp l = some x) : (Z0 x).size ≤ 120 := (Jv h).2.2.1
theorem alikeTx_c {x : Ex} {l : List UInt8} (h : Zp l = some x) (v : Value) (B : Nat) (w : World) (hv : EV w (fun k => k < B) (plX x) v) (hB : B ≤ w.heap.size) (hT : Tab w) :
 Calls prog 33 #[v] w fun e w' => e = .returned (.string (bs (Z0 (plX x)).text)) ∧ Below w.heap.size w w' := by
 obtain ⟨hw, hb, ho⟩ := Z0r h
 have hP := Z2d (frE x) x [] 0 (fun q hq => by cases hq) hw ho (by have := Z4n (Z2a h); omega)
 exact Z81 (plX x) v B w hP.2.1 hP.1 (by have h := hP.2.2; show (Z0 (plE (frE x) [] 0 x).1).bytes ≤ _; omega) hv hB hT
theorem Z23 (s y : ByteArray) (hs : s.size ≤ 1048576) (hy : y.size ≤ 1048576) (w : World) (hT : Tab w) :
 Calls prog 12 #[.string s, .string y] w fun e w' => e = .returned (.bool (Z87 s.data.toList y.data.toList)) ∧ Below w.heap.size w w' := by
 have tok1 : True := trivial
 have tok3 : True := trivial
 have tok4 : True := trivial
 cases h1 : Zp s.data.toList with
 | none =>
   have HR := H_ (alTx_left (m := y.data.toList) h1)
   have C := H_ (Qq hs h1)
   clear h1 hT
   go_enter func12, ntmps12
   go_wp2_with (go_at_call 34; go_must (refine (C.out _).mono ?_; rintro e w1 ⟨⟨v, rfl⟩, hb1⟩))
   go_ret
   exact ⟨by rw [HR.out]; rfl, hb1⟩
 | some x =>
   have C := H_ (Qp hs h1)
   cases h2 : Zp y.data.toList with
   | none =>
     have HR := H_ (alTx_right (l := s.data.toList) h2)
     have C2 := H_ (Qq hy h2)
     clear h1 h2 hT
     go_enter func12, ntmps12
     go_wp2_with (first | (go_at_call 34; clear tok1; go_must (refine (C.out _).mono ?_; rintro e w1 ⟨⟨v, rfl, hx⟩, hb1⟩)) | (go_at_call 34; go_must (refine (C2.out _).mono ?_; rintro e w2 ⟨⟨v2, rfl⟩, hb2⟩)))
     go_ret
     exact ⟨by rw [HR.out]; rfl, hb1.trans (hb2.mono hb1.size)⟩
   | some z =>
     have C2 := H_ (Qp hy h2)
     obtain ⟨T1, hT1⟩ : ∃ T1, T1 = bs (Z0 (plX x)).text := ⟨_, rfl⟩
     obtain ⟨T2, hT2⟩ : ∃ T2, T2 = bs (Z0 (plX z)).text := ⟨_, rfl⟩
     have HR : Hid (Z87 s.data.toList y.data.toList = decide (T1.toList = T2.toList)) := H_ (by rw [alTx_both h1 h2, hT1, hT2, Z9, Z9])
     have hl1 := Kn h1
     have hz1 := Z2a h1
     have hl2 := Kn h2
     have hz2 := Z2a h2
     have P1 : Hid (∀ (W : World) (B : Nat) v, Below w.heap.size w W → EV W (fun k => k < B) x v → B ≤ W.heap.size → Calls prog 35 #[v] W fun e w' => (∃ S t n, e = .returned (.tuple #[.iface S t, .int .i64 n]) ∧ n ≤ 100 ∧ EV w' (fun k => k < B) (plX x) (.iface S t)) ∧ Below W.heap.size W w') := H_ (fun W B v hW hv hB => Z2c x v B W hv hB hl1 hz1 (hT.below hW))
     have P2 : Hid (∀ (W : World) (B : Nat) v, Below w.heap.size w W → EV W (fun k => k < B) z v → B ≤ W.heap.size → Calls prog 35 #[v] W fun e w' => (∃ S t n, e = .returned (.tuple #[.iface S t, .int .i64 n]) ∧ n ≤ 100 ∧ EV w' (fun k => k < B) (plX z) (.iface S t)) ∧ Below W.heap.size W w') := H_ (fun W B v hW hv hB => Z2c z v B W hv hB hl2 hz2 (hT.below hW))
     have X1 : Hid (∀ (W : World) (B : Nat) v, Below w.heap.size w W → EV W (fun k => k < B) (plX x) v → B ≤ W.heap.size → Calls prog 33 #[v] W fun e w' => e = .returned (.string T1) ∧ Below W.heap.size W w') := H_ (fun W B v hW hv hB => by rw [hT1]; exact alikeTx_c h1 v B W hv hB (hT.below hW))
     have X2 : Hid (∀ (W : World) (B : Nat) v, Below w.heap.size w W → EV W (fun k => k < B) (plX z) v → B ≤ W.heap.size → Calls prog 33 #[v] W fun e w' => e = .returned (.string T2) ∧ Below W.heap.size W w') := H_ (fun W B v hW hv hB => by rw [hT2]; exact alikeTx_c h2 v B W hv hB (hT.below hW))
     clear h1 h2 hT hT1 hT2 hl1 hl2 hz1 hz2
     go_enter func12, ntmps12
     go_wp2_with (first | (go_at_call 34; clear tok1; go_must (refine (C.out _).mono ?_; rintro e w1 ⟨⟨v, rfl, hx⟩, hb1⟩)) | (go_at_call 34; go_must (refine (C2.out _).mono ?_; rintro e w2 ⟨⟨v2, rfl, hx2⟩, hb2⟩; have hB2 := H_ (hb1.trans (hb2.mono hb1.size)); have hx1 := H_ ((EV.move (w := w1) (w' := w2) (ok' := fun k => k < w1.heap.size) (fun k hk => hk.2) (fun k hk => hb2.block k hk.2) _ _ hx)))) | (go_at_call 35; clear tok3; go_must (refine (P1.out w2 w1.heap.size _ hB2.out hx1.out hb2.size).mono ?_; rintro e w3 ⟨⟨S3, t3, n3, rfl, hn3, hx3⟩, hb3⟩; have hB3 := H_ (hB2.out.trans (hb3.mono hB2.out.size)); have hx23 := H_ ((EV.move (w := w2) (w' := w3) (ok' := fun k => k < w2.heap.size) (fun k hk => hk.2) (fun k hk => hb3.block k hk.2) _ _ hx2)))) | (go_at_call 35; go_must (refine (P2.out w3 w2.heap.size _ hB3.out hx23.out hb3.size).mono ?_; rintro e w4 ⟨⟨S4, t4, n4, rfl, hn4, hx4⟩, hb4⟩; have hB4 := H_ (hB3.out.trans (hb4.mono hB3.out.size)); have hx34 := H_ ((EV.move (w := w3) (w' := w4) (ok' := fun k => k < w1.heap.size) (fun k hk => hk) (fun k hk => hb4.block k (by have := hb2.size; have := hb3.size; omega)) _ _ hx3)))) | (go_at_call 33; clear tok4; go_must (refine (X1.out w4 w1.heap.size _ hB4.out hx34.out (by have := hb2.size; have := hb3.size; have := hb4.size; omega)).mono ?_; rintro e w5 ⟨rfl, hb5⟩; have hB5 := H_ (hB4.out.trans (hb5.mono hB4.out.size)); have hx45 := H_ ((EV.move (w := w4) (w' := w5) (ok' := fun k => k < w2.heap.size) (fun k hk => hk) (fun k hk => hb5.block k (by have := hb3.size; have := hb4.size; omega)) _ _ hx4)))) | (go_at_call 33; go_must (refine (X2.out w5 w2.heap.size _ hB5.out hx45.out (by have := hb3.size; have := hb4.size; have := hb5.size; omega)).mono ?_; rintro e w6 ⟨rfl, hb6⟩)))
     go_ret
     refine ⟨?_, hB5.out.trans (hb6.mono hB5.out.size)⟩
     rw [HR.out]
     show Ending.returned (.bool (T1.toList == T2.toList)) = _
     by_cases h : T1.toList = T2.toList <;> simp [h]
end Go.Proofs.YtjaaalojcdbcpaaGreatDoor
