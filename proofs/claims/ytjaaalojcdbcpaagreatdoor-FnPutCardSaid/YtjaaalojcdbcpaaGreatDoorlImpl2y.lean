/- The program's ExprPut. -/
import Derived.Test.YtjaaalojcdbcpaaGreatDoorlIp1M
import Derived.Test.YtjaaalojcdbcpaaGreatDoorlImpl2x
set_option maxHeartbeats 20000000
set_option linter.unusedVariables false
set_option linter.unusedSimpArgs false
namespace Go.Proofs.YtjaaalojcdbcpaaGreatDoor
open Go.RowKit Go.Proofs.Tryz
set_option maxRecDepth 8000
theorem Vo {name : Nm} {b : Ex} (hb : Qa b) : ∀ x : Ex, Qa x → Qa (Zs name b x)
 | .name s, h => by simp only [Zs]; split; exact hb; exact h
 | .num n, h => h
 | .two o x y, h => ⟨Vo hb x h.1, Vo hb y h.2⟩
 | .one o x, h => Vo hb x h
 | .cond x y z, h => ⟨Vo hb x h.1, Vo hb y h.2.1, Vo hb z h.2.2⟩
 | .lete s x y, h => by simp only [Zs]; refine ⟨h.1, Vo hb x h.2.1, ?_⟩; split; exact h.2.2; exact Vo hb y h.2.2
 | .func f a A B x, h => by simp only [Zs]; refine ⟨h.1, h.2.1, ?_⟩; split; exact h.2.2; exact Vo hb x h.2.2
theorem Ky {name : Nm} {b : Ex} (hb : (Z0 b).wf) : ∀ x : Ex, (Z0 x).wf → (Z0 (Zs name b x)).wf
 | .name s, h => by simp only [Zs]; split; exact hb; exact h
 | .num n, h => h
 | .two o x y, h => by simp only [Zs, Z0, Tr.wf, wfs] at h ⊢; exact ⟨by simp, h.2.1, Ky hb x h.2.2.1, Ky hb y h.2.2.2.1, trivial⟩
 | .one o x, h => by simp only [Zs, Z0, Tr.wf, wfs] at h ⊢; exact ⟨by simp, h.2.1, Ky hb x h.2.2.1, trivial⟩
 | .cond x y z, h => by simp only [Zs, Z0, Tr.wf, wfs] at h ⊢; exact ⟨by simp, h.2.1, Ky hb x h.2.2.1, Ky hb y h.2.2.2.1, Ky hb z h.2.2.2.2.1, trivial⟩
 | .lete s x y, h => by
   simp only [Zs, Z0, Tr.wf, wfs] at h ⊢
   refine ⟨by simp, h.2.1, h.2.2.1, Ky hb x h.2.2.2.1, ?_, trivial⟩
   split; exact h.2.2.2.2.1; exact Ky hb y h.2.2.2.2.1
 | .func f a A B x, h => by
   simp only [Zs, Z0, Tr.wf, wfs] at h ⊢
   refine ⟨by simp, h.2.1, h.2.2.1, h.2.2.2.1, h.2.2.2.2.1, h.2.2.2.2.2.1, ?_, trivial⟩
   split; exact h.2.2.2.2.2.2.1; exact Ky hb x h.2.2.2.2.2.2.1
theorem Jk {m : Nat} (hm : 1 ≤ m) (k : Nat) : k ≤ m * k := Nat.le_mul_of_pos_left k hm
theorem Qs {name : Nm} {b : Ex} {m : Nat} (hm : 1 ≤ m) (hb : (Z0 b).bytes ≤ m) : ∀ x : Ex, (Z0 x).wf → (Z0 (Zs name b x)).bytes ≤ m * (Z0 x).bytes
 | .name s, h => by
   simp only [Zs]
   split
   · simp only [Z0, Tr.wf] at h
     have : 1 ≤ s.length := List.length_pos_iff.2 h.1
     simp only [Z0, Tr.bytes]
     exact Nat.le_trans hb (Nat.le_mul_of_pos_right m this)
   · exact Jk hm _
 | .num n, h => Jk hm _
 | .two o x y, h => by
   simp only [Zs, Z0, Tr.wf, wfs] at h ⊢
   have h1 := Qs (name := name) hm hb x h.2.2.1
   have h2 := Qs (name := name) hm hb y h.2.2.2.1
   have h3 := Jk hm (Z2h o).length
   simp only [Tr.bytes, Zi, Nat.mul_add, Nat.mul_one, Nat.mul_zero]; omega
 | .one o x, h => by
   simp only [Zs, Z0, Tr.wf, wfs] at h ⊢
   have h1 := Qs (name := name) hm hb x h.2.2.1
   have h3 := Jk hm (Z42 o).length
   simp only [Tr.bytes, Zi, Nat.mul_add, Nat.mul_one, Nat.mul_zero]; omega
 | .cond x y z, h => by
   simp only [Zs, Z0, Tr.wf, wfs] at h ⊢
   have h1 := Qs (name := name) hm hb x h.2.2.1
   have h2 := Qs (name := name) hm hb y h.2.2.2.1
   have h4 := Qs (name := name) hm hb z h.2.2.2.2.1
   have h3 := Jk hm kIf.length
   simp only [Tr.bytes, Zi, Nat.mul_add, Nat.mul_one, Nat.mul_zero]; omega
 | .lete s x y, h => by
   simp only [Zs, Z0, Tr.wf, wfs] at h ⊢
   have h1 := Qs (name := name) hm hb x h.2.2.2.1
   have h2 : (Z0 (if s = name then y else Zs name b y)).bytes ≤ m * (Z0 y).bytes := by
    split
    · exact Jk hm _
    · exact Qs hm hb y h.2.2.2.2.1
   have h3 := Jk hm Yy.length
   have h4 := Jk hm s.length
   simp only [Tr.bytes, Zi, Nat.mul_add, Nat.mul_one, Nat.mul_zero]; omega
 | .func f a A B x, h => by
   simp only [Zs, Z0, Tr.wf, wfs] at h ⊢
   have h2 : (Z0 (if f = name ∨ a = name then x else Zs name b x)).bytes ≤ m * (Z0 x).bytes := by
    split
    · exact Jk hm _
    · exact Qs hm hb x h.2.2.2.2.2.2.1
   have h3 := Jk hm Yt.length
   have h4 := Jk hm f.length
   have h5 := Jk hm a.length
   have h6 := Jk hm A.bytes
   have h7 := Jk hm B.bytes
   simp only [Tr.bytes, Zi, Nat.mul_add, Nat.mul_one, Nat.mul_zero]; omega
theorem inLimits2_c (t : Tr) (u : ByteArray) (p : Option Addr) (n c : Nat) (sz : Int) (w : World) (hb : t.bytes ≤ 1000000000) (hd : t.depth ≤ 1000000000) :
 Calls prog 143 #[.agg #[.string u, .slice p n c, .int .i64 t.bytes, .int .i64 sz, .int .i64 t.depth]] w fun e w' => e = .returned (.bool (decide (t.bytes ≤ 12000 ∧ t.depth ≤ 60))) ∧ Below w.heap.size w w' := by
 by_cases h : t.bytes ≤ 12000
 · have h1 : decide ((t.bytes : Int) ≤ 12000) = true := by simp; omega
   by_cases h2 : t.depth ≤ 60
   · have h3 : decide ((t.depth : Int) ≤ 60) = true := by simp; omega
     have HF : Hid (decide (t.bytes ≤ 12000 ∧ t.depth ≤ 60) = true) := H_ (by simp [h, h2])
     go_enter func143, ntmps143
     go_wp2_with fail
     go_ret
     exact ⟨by rw [HF.out]; rfl, Z5 w _⟩
   · have h3 : decide ((t.depth : Int) ≤ 60) = false := by simp; omega
     have HF : Hid (decide (t.bytes ≤ 12000 ∧ t.depth ≤ 60) = false) := H_ (by simp [h2])
     go_enter func143, ntmps143
     go_wp2_with fail
     go_ret
     exact ⟨by rw [HF.out]; rfl, Z5 w _⟩
 · have h1 : decide ((t.bytes : Int) ≤ 12000) = false := by simp; omega
   have HF : Hid (decide (t.bytes ≤ 12000 ∧ t.depth ≤ 60) = false) := H_ (by simp [h])
   go_enter func143, ntmps143
   go_wp2_with fail
   go_ret
   exact ⟨by rw [HF.out]; rfl, Z5 w _⟩
def Z10 (T : Tr) : Option (List UInt8) := if T.size ≤ 120 ∧ T.bytes ≤ 12000 ∧ T.depth ≤ 60 then some T.text else none
def Kx (l n y : List UInt8) : Option (List UInt8) :=
 match Zp l with
 | none => none
 | some x => if Yg n = true then (match Qr y with | none => none | some b => Z10 (Z0 (Zs n b x))) else none
theorem Z79 {l n y : List UInt8} (h : Zp l = none) : Kx l n y = none := by simp [Kx, h]
theorem putTx_no {l n y : List UInt8} (h : Yg n = false) : Kx l n y = none := by unfold Kx; cases Zp l <;> simp [h]
theorem putTx_cl {l n y : List UInt8} (h : Qr y = none) : Kx l n y = none := by unfold Kx; cases Zp l <;> simp [h]
theorem Z78 {l n y : List UInt8} {x b : Ex} (h : Zp l = some x) (hn : Yg n = true) (hy : Qr y = some b) : Kx l n y = Z10 (Z0 (Zs n b x)) := by simp [Kx, h, hn, hy]
def Z03 (r : Option (List UInt8)) (e : Ending) : Prop := e = .returned (.tuple #[.string (bs (r.getD [])), .bool r.isSome])
theorem closed_none {s : ByteArray} (hs : s.size ≤ 1048576) (hp : Qr s.data.toList = none) (W : World) : Calls prog 50 #[.string s] W fun e w' => (∃ v, e = .returned (.tuple #[v, .bool false])) ∧ Below W.heap.size W w' :=
 (Z4l s hs W).mono fun e w' ⟨h1, h2⟩ => ⟨by rw [hp] at h1; exact Z4m h1, h2⟩
theorem closed_some {s : ByteArray} (hs : s.size ≤ 1048576) {x : Ex} (hp : Qr s.data.toList = some x) (W : World) : Calls prog 50 #[.string s] W fun e w' => (∃ v, e = .returned (.tuple #[v, .bool true]) ∧ EV w' (fun k => W.heap.size ≤ k ∧ k < w'.heap.size) x v) ∧ Below W.heap.size W w' :=
 (Z4l s hs W).mono fun e w' ⟨h1, h2⟩ => ⟨by rw [hp] at h1; exact h1, h2⟩
theorem Z3y {l : List UInt8} {x : Ex} (h : Qr l = some x) : Zp l = some x ∧ Ze x = [] := by
 cases hr : Zp l with
 | none => rw [Z5w hr] at h; cases h
 | some y =>
   by_cases hf : Ze y = []
   · rw [Z2b hr hf] at h; simp only [Option.some.injEq] at h; subst h; exact ⟨rfl, hf⟩
   · rw [Z57 hr hf] at h; cases h
theorem fitsExpr_c (t : Tr) (u : ByteArray) (p : Option Addr) (n c : Nat) (o1 o2 o3 : Int) (h1 : o1 = t.bytes) (h2 : o2 = t.size) (h3 : o3 = t.depth) (w : World) (hb : t.bytes ≤ 1000000000) (hd : t.depth ≤ 1000000000) :
 Calls prog 94 #[.agg #[.string u, .slice p n c, .int .i64 o1, .int .i64 o2, .int .i64 o3]] w fun e w' => e = .returned (.bool (decide (t.size ≤ 120 ∧ t.bytes ≤ 12000 ∧ t.depth ≤ 60))) ∧ Below w.heap.size w w' := by
 have CL : Hid (∀ W : World, Calls prog 143 #[.agg #[.string u, .slice p n c, .int .i64 o1, .int .i64 o2, .int .i64 o3]] W fun e w' => e = .returned (.bool (decide (t.bytes ≤ 12000 ∧ t.depth ≤ 60))) ∧ Below W.heap.size W w') := H_ (fun W => by rw [h1, h3]; exact inLimits2_c t u p n c o2 W hb hd)
 by_cases hz : t.size ≤ 120
 · have hz2 : decide (o2 ≤ 120) = true := by rw [h2]; simp; omega
   have HR : Hid (decide (t.size ≤ 120 ∧ t.bytes ≤ 12000 ∧ t.depth ≤ 60) = decide (t.bytes ≤ 12000 ∧ t.depth ≤ 60)) := H_ (by simp [hz])
   rw [HR.out]
   clear h1 h2 h3 hz hb hd
   generalize decide (t.bytes ≤ 12000 ∧ t.depth ≤ 60) = v at *
   go_enter func94, ntmps94
   go_wp2_with (go_at_call 143; go_must (refine (CL.out _).mono ?_; rintro e w6 ⟨rfl, hb6⟩))
   go_ret
   exact ⟨Zf (by simp), (Z5 w _).trans (hb6.mono (by simp))⟩
 · have hz2 : decide (o2 ≤ 120) = false := by rw [h2]; simp; omega
   have HR : Hid (decide (t.size ≤ 120 ∧ t.bytes ≤ 12000 ∧ t.depth ≤ 60) = false) := H_ (by simp [hz])
   rw [HR.out]
   clear h1 h2 h3 hz hb hd
   go_enter func94, ntmps94
   go_wp2_with fail
   go_ret
   exact ⟨Zf (by simp), Z5 w _⟩
theorem madeText_h (X : Ex) (hF : FmC X) (v : Value) (w : World) (hok : Qa X) (hwf : (Z0 X).wf) (hby : (Z0 X).bytes ≤ 500000000) (hv : EV w (fun k => k < w.heap.size) X v) (hT : Tab w) :
 Calls prog 51 #[v] w fun e w' => Z03 (Z10 (Z0 X)) e ∧ Below w.heap.size w w' := by
 obtain ⟨tn, o1, o2, o3, -, ho1, ho2, ho3, hq⟩ := Jo (Z0 X)
 obtain ⟨T0, u0, rfl⟩ := hv.iface
 have CF : Hid (Calls prog 69 #[.iface T0 u0] w fun e w' => (∃ p m c, e = .returned (.agg #[.string tn, .slice p m c, .int .i64 o1, .int .i64 o2, .int .i64 o3]) ∧ FV nI w' (fun k => k < w.heap.size ∨ (w.heap.size ≤ k ∧ k < w'.heap.size)) (Z0 X) (nI (Z0 X) (.slice p m c))) ∧ Below w.heap.size w w') := H_ ((hF _ w.heap.size w hok hwf hby hv (Nat.le_refl _) hT).mono fun e w' ⟨⟨p, m, c, h1, h2⟩, h3⟩ => ⟨⟨p, m, c, by rw [h1, hq], h2⟩, h3⟩)
 have hd := Z4z (Z0 X) hwf
 obtain ⟨v, hv9⟩ : ∃ v, v = decide ((Z0 X).size ≤ 120 ∧ (Z0 X).bytes ≤ 12000 ∧ (Z0 X).depth ≤ 60) := ⟨_, rfl⟩
 have CL : Hid (∀ (W : World) p m c, Calls prog 94 #[.agg #[.string tn, .slice p m c, .int .i64 o1, .int .i64 o2, .int .i64 o3]] W fun e w' => e = .returned (.bool v) ∧ Below W.heap.size W w') := H_ (fun W p m c => by rw [hv9]; exact fitsExpr_c (Z0 X) tn p m c o1 o2 o3 ho1 ho2 ho3 W (by omega) (by omega))
 have CT : Hid (∀ (W : World) (ok : Nat → Prop) p m c, FV nI W ok (Z0 X) (nI (Z0 X) (.slice p m c)) → (∀ k, ok k → k < W.heap.size) → Calls prog 45 #[.agg #[.string tn, .slice p m c, .int .i64 o1, .int .i64 o2, .int .i64 o3]] W fun e w' => e = .returned (.string (bs (Z0 X).text)) ∧ Below W.heap.size W w') := H_ (fun W ok p m c hf hk => by
  have h := text_c (Z0 X) p m c ok W hwf (by omega) hf hk
  have e : (nI (Z0 X) (.slice p m c)).toArray = #[.string tn, .slice p m c, .int .i64 o1, .int .i64 o2, .int .i64 o3] := by rw [hq]
  have e2 : (nI (Z0 X) (.slice p m c)).toArray = #[.string (bs (Z1 (Z0 X))), .slice p m c, .int .i64 (Z0 X).bytes, .int .i64 (Z0 X).size, .int .i64 (Z0 X).depth] := rfl
  rw [← e2, e] at h
  exact h)
 have HR2 : Hid (Z10 (Z0 X) = if v = true then some (Z0 X).text else none) := H_ (by rw [hv9]; unfold Z10; simp only [decide_eq_true_eq])
 clear hF hv9 hq ho1 ho2 ho3 hd hby hok hwf hT hv
 cases v <;>
  (go_enter func51, ntmps51
   go_wp2_with (first | (go_at_call 69; go_must (refine (CF.out).mono ?_; rintro e w5 ⟨⟨p5, m5, c5, rfl, hf5⟩, hb5⟩; have s5 := hb5.size; have B5 := H_ (hb5.alloc hb5.size (.cells #[.string tn, .slice p5 m5 c5, .int .i64 o1, .int .i64 o2, .int .i64 o3] 65)); have x5 := heap_alloc_new w5 (.cells #[.string tn, .slice p5 m5 c5, .int .i64 o1, .int .i64 o2, .int .i64 o3] 65); have k5 := FV.below hf5 (Z5 w5 (.cells #[.string tn, .slice p5 m5 c5, .int .i64 o1, .int .i64 o2, .int .i64 o3] 65)) (fun k hk => by omega))) | (go_at_call 94; go_must (refine (CL.out _ _ _ _).mono ?_; rintro e w6 ⟨rfl, hb6⟩; have s6 := hb6.size; have x5' := Z2 hb6 (lt_of_block x5) x5; obtain ⟨ce0, ce1, ce2, ce3, ce4⟩ := Yo x5')) | (go_at_call 45; go_must (refine (CT.out _ _ p5 m5 c5 (k5.below hb6 (fun k hk => by simp; omega)) (fun k hk => by simp at s6; omega)).mono ?_; rintro e w7 ⟨rfl, hb7⟩)))
   go_ret2
   first
    | exact ⟨by rw [HR2.out, if_neg (by simp)]; rfl, (X9 (Xm B5.out) hb6).1⟩
    | exact ⟨by rw [HR2.out, if_pos trivial]; rfl, (X9 (X9 (Xm B5.out) hb6) hb7).1⟩
    | exact ⟨by rw [HR2.out, if_pos rfl]; rfl, (X9 (X9 (Xm B5.out) hb6) hb7).1⟩)
theorem madeText_c (X : Ex) (v : Value) (w : World) (hok : Qa X) (hwf : (Z0 X).wf) (hby : (Z0 X).bytes ≤ 500000000) (hv : EV w (fun k => k < w.heap.size) X v) (hT : Tab w) :
 Calls prog 51 #[v] w fun e w' => Z03 (Z10 (Z0 X)) e ∧ Below w.heap.size w w' := madeText_h X (J4 X) v w hok hwf hby hv hT
theorem Z3r (s n y : ByteArray) (hs : s.size ≤ 1048576) (hn : n.size ≤ 1048576) (hy : y.size ≤ 1048576) (w : World) (hT : Tab w) :
 Calls prog 21 #[.string s, .string n, .string y] w fun e w' => Z03 (Kx s.data.toList n.data.toList y.data.toList) e ∧ Below w.heap.size w w' := by
 have CN := H_ (Z7s n hn)
 cases hp : Zp s.data.toList with
 | none =>
   have C := H_ (Qq hs hp)
   have HR := H_ (Z79 (n := n.data.toList) (y := y.data.toList) hp)
   clear hp hT
   go_enter func21, ntmps21
   go_wp2_with (first | (go_at_call 34; go_must (refine (C.out _).mono ?_; rintro e w1 ⟨⟨v, rfl⟩, hb1⟩)) | (go_at_call 49; go_must (refine (CN.out _).mono ?_; rintro e w2 ⟨rfl, rfl⟩)))
   go_ret2
   exact ⟨by rw [HR.out]; rfl, hb1⟩
 | some x =>
   have C := H_ (Qp hs hp)
   cases hm : Yg n.data.toList with
   | false =>
     have HR := H_ (putTx_no (l := s.data.toList) (y := y.data.toList) hm)
     unfold Hid at CN
     rw [hm] at CN
     have CN := H_ CN
     clear hp hm hT
     go_enter func21, ntmps21
     go_wp2_with (first | (go_at_call 34; go_must (refine (C.out _).mono ?_; rintro e w1 ⟨⟨v, rfl, hv⟩, hb1⟩; obtain ⟨T0, u0, rfl⟩ := hv.iface)) | (go_at_call 49; go_must (refine (CN.out _).mono ?_; rintro e w2 ⟨rfl, rfl⟩)))
     go_ret2
     exact ⟨by rw [HR.out]; rfl, hb1⟩
   | true =>
     unfold Hid at CN
     rw [hm] at CN
     have CN := H_ CN
     cases hc : Qr y.data.toList with
     | none =>
       have CC := H_ (closed_none hy hc)
       have HR := H_ (putTx_cl (l := s.data.toList) (n := n.data.toList) hc)
       clear hp hm hT hc
       go_enter func21, ntmps21
       go_wp2_with (first | (go_at_call 34; go_must (refine (C.out _).mono ?_; rintro e w1 ⟨⟨v, rfl, hv⟩, hb1⟩; obtain ⟨T0, u0, rfl⟩ := hv.iface)) | (go_at_call 49; go_must (refine (CN.out _).mono ?_; rintro e w2 ⟨rfl, rfl⟩)) | (go_at_call 50; go_must (refine (CC.out _).mono ?_; rintro e w3 ⟨⟨v3, rfl⟩, hb3⟩)))
       go_ret2
       exact ⟨by rw [HR.out]; rfl, hb1.trans (hb3.mono hb1.size)⟩
     | some b =>
       have CC := H_ (closed_some hy hc)
       have HR := H_ (Z78 hp hm hc)
       obtain ⟨q1, q2, q3⟩ := Z0r hp
       obtain ⟨r1, r2, r3⟩ := Z0r (Z3y hc).1
       have hwf := Ky (name := n.data.toList) r1 x q1
       have hok := Vo (name := n.data.toList) r3 x q3
       have hby : (Z0 (Zs n.data.toList b x)).bytes ≤ 500000000 := by
        have h1 := Qs (name := n.data.toList) (m := 12000) (by omega) r2 x q1
        omega
       have hbs : bs n.data.toList = n := (Z5j rfl).symm
       have CP : Hid (∀ (W : World) (v1 v2 : Value), EV W (fun k => k < W.heap.size) x v1 → EV W (fun k => k < W.heap.size) b v2 → Calls prog 52 #[v1, .string n, v2] W fun e w' => (∃ v', e = .returned v' ∧ EV w' (fun k => k < W.heap.size) (Zs n.data.toList b x) v') ∧ Below W.heap.size W w') := H_ (fun W v1 v2 h1 h2 => by have h := Jc n.data.toList b x v1 v2 W.heap.size W h1 h2 (Nat.le_refl _); rw [hbs] at h; exact h)
       generalize hX : Zs n.data.toList b x = X at *
       have CM : Hid (∀ (W : World) (v : Value), EV W (fun k => k < W.heap.size) X v → Below w.heap.size w W → Calls prog 51 #[v] W fun e w' => Z03 (Z10 (Z0 X)) e ∧ Below W.heap.size W w') := H_ (fun W v hv hW => madeText_c X v W hok hwf hby hv (hT.below hW))
       obtain ⟨t, z, ht⟩ : ∃ t z, ∀ e : Ending, Z03 (Z10 (Z0 X)) e → e = .returned (.tuple #[.string t, .bool z]) := ⟨_, _, fun _ h => h⟩
       have HX : Hid (Z03 (Kx s.data.toList n.data.toList y.data.toList) (.returned (.tuple #[.string t, .bool z]))) := H_ (by
        have h1 := ht _ (show Z03 (Z10 (Z0 X)) (.returned (.tuple #[.string (bs ((Z10 (Z0 X)).getD [])), .bool (Z10 (Z0 X)).isSome])) from rfl)
        rw [HR.out, ← h1]; rfl)
       have CM2 : Hid (∀ (W : World) (v : Value), EV W (fun k => k < W.heap.size) X v → Below w.heap.size w W → Calls prog 51 #[v] W fun e w' => e = .returned (.tuple #[.string t, .bool z]) ∧ Below W.heap.size W w') := H_ (fun W v h1 h2 => (CM.out W v h1 h2).mono fun e w' ⟨k1, k2⟩ => ⟨ht e k1, k2⟩)
       clear HR CM ht hby hok hwf hX hbs q1 q2 q3 r1 r2 r3 hp hm hc hT
       go_enter func21, ntmps21
       go_wp2_with (first | (go_at_call 34; go_must (refine (C.out _).mono ?_; rintro e w1 ⟨⟨v1, rfl, hv1⟩, hb1⟩; obtain ⟨T0, u0, rfl⟩ := hv1.iface)) | (go_at_call 49; go_must (refine (CN.out _).mono ?_; rintro e w2 ⟨rfl, rfl⟩)) | (go_at_call 50; go_must (refine (CC.out _).mono ?_; rintro e w3 ⟨⟨v3, rfl, hv3⟩, hb3⟩; obtain ⟨T3, u3, rfl⟩ := hv3.iface; have s3 := hb3.size; have kx := H_ (EV.move (ok' := fun k => k < w3.heap.size) (fun k hk => by omega) (fun _ _ => rfl) _ _ (hv1.below hb3 (fun k hk => hk.2))); have kb := H_ (EV.move (ok' := fun k => k < w3.heap.size) (fun k hk => by omega) (fun _ _ => rfl) _ _ hv3); clear hv1 hv3)) | (go_at_call 52; go_must (refine (CP.out _ _ _ kx.out kb.out).mono ?_; rintro e w4 ⟨⟨v4, rfl, hv4⟩, hb4⟩; obtain ⟨T4, u4, rfl⟩ := hv4.iface; have k4 := H_ (EV.move (ok' := fun k => k < w4.heap.size) (fun k hk => Nat.lt_of_lt_of_le hk hb4.size) (fun _ _ => rfl) _ _ hv4); clear hv4)) | (go_at_call 51; go_must (refine (CM2.out _ _ k4.out ((X9 (X9 (Xm hb1) hb3) hb4).1)).mono ?_; rintro e w5 ⟨rfl, hb5⟩)))
       go_ret2
       exact ⟨HX.out, (X9 (X9 (X9 (Xm hb1) hb3) hb4) hb5).1⟩
end Go.Proofs.YtjaaalojcdbcpaaGreatDoor
