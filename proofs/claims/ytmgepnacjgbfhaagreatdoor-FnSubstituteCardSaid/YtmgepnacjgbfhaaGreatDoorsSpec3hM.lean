/- What ExprPut's outcome weighs: leaves of an expression. The program: expressions as texts; the kids of a text. The program's ExprPut. The reference's ExprType and ExprTyped. -/
import Derived.Test.YtmgepnacjgbfhaaGreatDoorsImpl2w
import Derived.Test.YtmgepnacjgbfhaaGreatDoorsImpl2u
import Derived.Test.YtmgepnacjgbfhaaGreatDoorsImpl1jM
import Derived.Test.YtmgepnacjgbfhaaGreatDoorsSpec2hM
import Derived.Test.YtmgepnacjgbfhaaGreatDoorsImpl2x
import Derived.Test.YtmgepnacjgbfhaaGreatDoorsSpec3f
import Derived.Test.YtmgepnacjgbfhaaGreatDoorsImpl3cM
import Derived.Test.YtmgepnacjgbfhaaGreatDoorsPureT
namespace Go.Proofs.YtmgepnacjgbfhaaGreatDoor
open Go.RowKit Go.Proofs.Tryz
set_option maxRecDepth 8000
set_option maxHeartbeats 20000000
set_option linter.unusedVariables false
set_option linter.unusedSimpArgs false
def Z3z : Ex → Nat
 | .name _ => 1
 | .num _ => 1
 | .two _ a b => Z3z a + Z3z b
 | .one _ a => Z3z a
 | .cond a b c => Z3z a + Z3z b + Z3z c
 | .lete _ e b => Z3z e + Z3z b + 1
 | .func _ _ _ _ e => Z3z e + 2
theorem nm_len {a : List UInt8} (h : Yl a = true) : a.length ≤ 4 := by
 cases a with
 | nil => simp
 | cons c r => simp only [Yl, Bool.and_eq_true, decide_eq_true_eq] at h; simp only [List.length_cons]; omega
def oksE : List Ex → Prop
 | [] => True
 | e :: es => Jp e ∧ oksE es
mutual
theorem Z49 : ∀ (t : Tr) (x : Ex), Yg t = some x → Jp x
 | .atom a, x, h => by
   simp only [Yg, Qs] at h
   cases hn : Qx a with
   | some n => simp only [hn, Option.some.injEq] at h; subst h; exact numOf_range hn
   | none =>
     simp only [hn] at h
     split at h
     · rename_i hm; simp only [Option.some.injEq] at h; subst h; exact nm_len hm
     · cases h
 | .list [], x, h => by simp [Yg, Qf] at h
 | .list (h0 :: ps), x, h => by
   simp only [Yg, Qf] at h
   split at h
   · match ps, h with
     | [x0, e0, b0], h =>
       simp only [Q1] at h
       split at h
       · rename_i hx
         split at h
         · cases h
         · rename_i e' he
           split at h
           · cases h
           · rename_i b' hb
             simp only [Option.some.injEq] at h
             subst h
             exact ⟨nm_len hx, Z49 e0 e' he, Z49 b0 b' hb⟩
       · cases h
     | [], h => cases h
     | [_], h => cases h
     | [_, _], h => cases h
     | _ :: _ :: _ :: _ :: _, h => cases h
   · split at h
     · match ps, h with
       | [f0, x0, A0, B0, e0], h =>
         simp only [X3] at h
         split at h
         · rename_i hx
           simp only [Bool.and_eq_true] at hx
           split at h
           · cases h
           · rename_i e' he
             simp only [Option.some.injEq] at h
             subst h
             exact ⟨nm_len hx.1.1.1.1, nm_len hx.1.1.1.2, Z49 e0 e' he⟩
         · cases h
       | [], h => cases h
       | [_], h => cases h
       | [_, _], h => cases h
       | [_, _, _], h => cases h
       | [_, _, _, _], h => cases h
       | _ :: _ :: _ :: _ :: _ :: _ :: _, h => cases h
     · cases hk : Yh ps with
       | none => simp [hk] at h
       | some es =>
         simp only [hk, Option.bind_some] at h
         have hp := kidsEx_ok ps es hk
         match es, h, hp with
         | [], h, hp => cases h
         | [a], h, hp =>
           simp only [Yi, Option.map_eq_some_iff] at h
           obtain ⟨o, ho, rfl⟩ := h
           exact hp.1
         | [a, b], h, hp =>
           simp only [Yi, Option.map_eq_some_iff] at h
           obtain ⟨o, ho, rfl⟩ := h
           exact ⟨hp.1, hp.2.1⟩
         | [a, b, c], h, hp =>
           simp only [Yi] at h
           split at h
           · simp only [Option.some.injEq] at h; subst h; exact ⟨hp.1, hp.2.1, hp.2.2.1⟩
           · cases h
         | _ :: _ :: _ :: _ :: _, h, hp => cases h
theorem kidsEx_ok : ∀ (ts : List Tr) (es : List Ex), Yh ts = some es → oksE es
 | [], es, h => by simp only [Yh, Option.some.injEq] at h; subst h; trivial
 | t :: ts, es, h => by
   simp only [Yh] at h
   split at h
   · cases h
   · rename_i e he
     split at h
     · cases h
     · rename_i es' hs
       simp only [Option.some.injEq] at h
       subst h
       exact ⟨Z49 t e he, kidsEx_ok ts es' hs⟩
end
def kidsTx (l : List UInt8) : Option (List Nm) := (Yf l).map (fun x => (Zd x).map (fun k => (Z3 k).text))
theorem Z58 {l : List UInt8} {x : Ex} (h : Yf l = some x) : (Z3 x).wf ∧ (Z3 x).bytes ≤ 12000 ∧ Jp x := by
 cases hp : Zt l with
 | none => rw [K9 hp] at h; cases h
 | some t =>
   rw [Qj hp] at h
   split at h
   · have hg := Yn hp
     rw [Kq t x h]
     exact ⟨hg.1, hg.2.1, Z49 t x h⟩
   · cases h
theorem Kv {name : Nm} {b : Ex} (hb : Jp b) : ∀ x : Ex, Jp x → Jp (Yq name b x)
 | .name s, h => by simp only [Yq]; split; exact hb; exact h
 | .num n, h => h
 | .two o x y, h => ⟨Kv hb x h.1, Kv hb y h.2⟩
 | .one o x, h => Kv hb x h
 | .cond x y z, h => ⟨Kv hb x h.1, Kv hb y h.2.1, Kv hb z h.2.2⟩
 | .lete s x y, h => by simp only [Yq]; refine ⟨h.1, Kv hb x h.2.1, ?_⟩; split; exact h.2.2; exact Kv hb y h.2.2
 | .func f a A B x, h => by simp only [Yq]; refine ⟨h.1, h.2.1, ?_⟩; split; exact h.2.2; exact Kv hb x h.2.2
theorem Kh {name : Nm} {b : Ex} (hb : (Z3 b).wf) : ∀ x : Ex, (Z3 x).wf → (Z3 (Yq name b x)).wf
 | .name s, h => by simp only [Yq]; split; exact hb; exact h
 | .num n, h => h
 | .two o x y, h => by simp only [Yq, Z3, Tr.wf, wfs] at h ⊢; exact ⟨by simp, h.2.1, Kh hb x h.2.2.1, Kh hb y h.2.2.2.1, trivial⟩
 | .one o x, h => by simp only [Yq, Z3, Tr.wf, wfs] at h ⊢; exact ⟨by simp, h.2.1, Kh hb x h.2.2.1, trivial⟩
 | .cond x y z, h => by simp only [Yq, Z3, Tr.wf, wfs] at h ⊢; exact ⟨by simp, h.2.1, Kh hb x h.2.2.1, Kh hb y h.2.2.2.1, Kh hb z h.2.2.2.2.1, trivial⟩
 | .lete s x y, h => by
   simp only [Yq, Z3, Tr.wf, wfs] at h ⊢
   refine ⟨by simp, h.2.1, h.2.2.1, Kh hb x h.2.2.2.1, ?_, trivial⟩
   split; exact h.2.2.2.2.1; exact Kh hb y h.2.2.2.2.1
 | .func f a A B x, h => by
   simp only [Yq, Z3, Tr.wf, wfs] at h ⊢
   refine ⟨by simp, h.2.1, h.2.2.1, h.2.2.2.1, h.2.2.2.2.1, h.2.2.2.2.2.1, ?_, trivial⟩
   split; exact h.2.2.2.2.2.2.1; exact Kh hb x h.2.2.2.2.2.2.1
theorem Jf {m : Nat} (hm : 1 ≤ m) (k : Nat) : k ≤ m * k := Nat.le_mul_of_pos_left k hm
theorem Qo {name : Nm} {b : Ex} {m : Nat} (hm : 1 ≤ m) (hb : (Z3 b).bytes ≤ m) : ∀ x : Ex, (Z3 x).wf → (Z3 (Yq name b x)).bytes ≤ m * (Z3 x).bytes
 | .name s, h => by
   simp only [Yq]
   split
   · simp only [Z3, Tr.wf] at h
     have : 1 ≤ s.length := List.length_pos_iff.2 h.1
     simp only [Z3, Tr.bytes]
     exact Nat.le_trans hb (Nat.le_mul_of_pos_right m this)
   · exact Jf hm _
 | .num n, h => Jf hm _
 | .two o x y, h => by
   simp only [Yq, Z3, Tr.wf, wfs] at h ⊢
   have h1 := Qo (name := name) hm hb x h.2.2.1
   have h2 := Qo (name := name) hm hb y h.2.2.2.1
   have h3 := Jf hm (Z3d o).length
   simp only [Tr.bytes, Zq, Nat.mul_add, Nat.mul_one, Nat.mul_zero]; omega
 | .one o x, h => by
   simp only [Yq, Z3, Tr.wf, wfs] at h ⊢
   have h1 := Qo (name := name) hm hb x h.2.2.1
   have h3 := Jf hm (Z4l o).length
   simp only [Tr.bytes, Zq, Nat.mul_add, Nat.mul_one, Nat.mul_zero]; omega
 | .cond x y z, h => by
   simp only [Yq, Z3, Tr.wf, wfs] at h ⊢
   have h1 := Qo (name := name) hm hb x h.2.2.1
   have h2 := Qo (name := name) hm hb y h.2.2.2.1
   have h4 := Qo (name := name) hm hb z h.2.2.2.2.1
   have h3 := Jf hm kIf.length
   simp only [Tr.bytes, Zq, Nat.mul_add, Nat.mul_one, Nat.mul_zero]; omega
 | .lete s x y, h => by
   simp only [Yq, Z3, Tr.wf, wfs] at h ⊢
   have h1 := Qo (name := name) hm hb x h.2.2.2.1
   have h2 : (Z3 (if s = name then y else Yq name b y)).bytes ≤ m * (Z3 y).bytes := by
    split
    · exact Jf hm _
    · exact Qo hm hb y h.2.2.2.2.1
   have h3 := Jf hm Qr.length
   have h4 := Jf hm s.length
   simp only [Tr.bytes, Zq, Nat.mul_add, Nat.mul_one, Nat.mul_zero]; omega
 | .func f a A B x, h => by
   simp only [Yq, Z3, Tr.wf, wfs] at h ⊢
   have h2 : (Z3 (if f = name ∨ a = name then x else Yq name b x)).bytes ≤ m * (Z3 x).bytes := by
    split
    · exact Jf hm _
    · exact Qo hm hb x h.2.2.2.2.2.2.1
   have h3 := Jf hm Qh.length
   have h4 := Jf hm f.length
   have h5 := Jf hm a.length
   have h6 := Jf hm A.bytes
   have h7 := Jf hm B.bytes
   simp only [Tr.bytes, Zq, Nat.mul_add, Nat.mul_one, Nat.mul_zero]; omega
theorem inLimits2_c (t : Tr) (u : ByteArray) (p : Option Addr) (n c : Nat) (sz : Int) (w : World) (hb : t.bytes ≤ 1000000000) (hd : t.depth ≤ 1000000000) :
 Calls prog 101 #[.agg #[.string u, .slice p n c, .int .i64 t.bytes, .int .i64 sz, .int .i64 t.depth]] w fun e w' => e = .returned (.bool (decide (t.bytes ≤ 12000 ∧ t.depth ≤ 60))) ∧ Below w.heap.size w w' := by
 by_cases h : t.bytes ≤ 12000
 · have h1 : decide ((t.bytes : Int) ≤ 12000) = true := by simp; omega
   by_cases h2 : t.depth ≤ 60
   · have h3 : decide ((t.depth : Int) ≤ 60) = true := by simp; omega
     have HF : Hid (decide (t.bytes ≤ 12000 ∧ t.depth ≤ 60) = true) := H_ (by simp [h, h2])
     go_enter func101, ntmps101
     go_wp2_with fail
     go_ret
     exact ⟨by rw [HF.out]; rfl, Z4 w _⟩
   · have h3 : decide ((t.depth : Int) ≤ 60) = false := by simp; omega
     have HF : Hid (decide (t.bytes ≤ 12000 ∧ t.depth ≤ 60) = false) := H_ (by simp [h2])
     go_enter func101, ntmps101
     go_wp2_with fail
     go_ret
     exact ⟨by rw [HF.out]; rfl, Z4 w _⟩
 · have h1 : decide ((t.bytes : Int) ≤ 12000) = false := by simp; omega
   have HF : Hid (decide (t.bytes ≤ 12000 ∧ t.depth ≤ 60) = false) := H_ (by simp [h])
   go_enter func101, ntmps101
   go_wp2_with fail
   go_ret
   exact ⟨by rw [HF.out]; rfl, Z4 w _⟩
def Vw (T : Tr) : Option (List UInt8) := if T.size ≤ 120 ∧ T.bytes ≤ 12000 ∧ T.depth ≤ 60 then some T.text else none
def Vu (l n y : List UInt8) : Option (List UInt8) :=
 match Yf l with
 | none => none
 | some x => if Yl n = true then (match Jm y with | none => none | some b => Vw (Z3 (Yq n b x))) else none
theorem putTx_none {l n y : List UInt8} (h : Yf l = none) : Vu l n y = none := by simp [Vu, h]
theorem putTx_no {l n y : List UInt8} (h : Yl n = false) : Vu l n y = none := by unfold Vu; cases Yf l <;> simp [h]
theorem putTx_cl {l n y : List UInt8} (h : Jm y = none) : Vu l n y = none := by unfold Vu; cases Yf l <;> simp [h]
theorem Z6m {l n y : List UInt8} {x b : Ex} (h : Yf l = some x) (hn : Yl n = true) (hy : Jm y = some b) : Vu l n y = Vw (Z3 (Yq n b x)) := by simp [Vu, h, hn, hy]
def Kl (r : Option (List UInt8)) (e : Ending) : Prop := e = .returned (.tuple #[.string (bs (r.getD [])), .bool r.isSome])
theorem closed_none {s : ByteArray} (hs : s.size ≤ 1048576) (hp : Jm s.data.toList = none) (W : World) : Calls prog 31 #[.string s] W fun e w' => (∃ v, e = .returned (.tuple #[v, .bool false])) ∧ Below W.heap.size W w' :=
 (Z3u s hs W).mono fun e w' ⟨h1, h2⟩ => ⟨by rw [hp] at h1; exact Z3v h1, h2⟩
theorem closed_some {s : ByteArray} (hs : s.size ≤ 1048576) {x : Ex} (hp : Jm s.data.toList = some x) (W : World) : Calls prog 31 #[.string s] W fun e w' => (∃ v, e = .returned (.tuple #[v, .bool true]) ∧ EV w' (fun k => W.heap.size ≤ k ∧ k < w'.heap.size) x v) ∧ Below W.heap.size W w' :=
 (Z3u s hs W).mono fun e w' ⟨h1, h2⟩ => ⟨by rw [hp] at h1; exact h1, h2⟩
theorem readCl_got {l : List UInt8} {x : Ex} (h : Jm l = some x) : Yf l = some x ∧ Zj x = [] := by
 cases hr : Yf l with
 | none => rw [Z59 hr] at h; cases h
 | some y =>
   by_cases hf : Zj y = []
   · rw [Z1l hr hf] at h; simp only [Option.some.injEq] at h; subst h; exact ⟨rfl, hf⟩
   · rw [readCl_no hr hf] at h; cases h
theorem fitsExpr_c (t : Tr) (u : ByteArray) (p : Option Addr) (n c : Nat) (o1 o2 o3 : Int) (h1 : o1 = t.bytes) (h2 : o2 = t.size) (h3 : o3 = t.depth) (w : World) (hb : t.bytes ≤ 1000000000) (hd : t.depth ≤ 1000000000) :
 Calls prog 62 #[.agg #[.string u, .slice p n c, .int .i64 o1, .int .i64 o2, .int .i64 o3]] w fun e w' => e = .returned (.bool (decide (t.size ≤ 120 ∧ t.bytes ≤ 12000 ∧ t.depth ≤ 60))) ∧ Below w.heap.size w w' := by
 have CL : Hid (∀ W : World, Calls prog 101 #[.agg #[.string u, .slice p n c, .int .i64 o1, .int .i64 o2, .int .i64 o3]] W fun e w' => e = .returned (.bool (decide (t.bytes ≤ 12000 ∧ t.depth ≤ 60))) ∧ Below W.heap.size W w') := H_ (fun W => by rw [h1, h3]; exact inLimits2_c t u p n c o2 W hb hd)
 by_cases hz : t.size ≤ 120
 · have hz2 : decide (o2 ≤ 120) = true := by rw [h2]; simp; omega
   have HR : Hid (decide (t.size ≤ 120 ∧ t.bytes ≤ 12000 ∧ t.depth ≤ 60) = decide (t.bytes ≤ 12000 ∧ t.depth ≤ 60)) := H_ (by simp [hz])
   rw [HR.out]
   clear h1 h2 h3 hz hb hd
   generalize decide (t.bytes ≤ 12000 ∧ t.depth ≤ 60) = v at *
   go_enter func62, ntmps62
   go_wp2_with (go_at_call 101; go_must (refine (CL.out _).mono ?_; rintro e w6 ⟨rfl, hb6⟩))
   go_ret
   exact ⟨Zh (by simp), (Z4 w _).trans (hb6.mono (by simp))⟩
 · have hz2 : decide (o2 ≤ 120) = false := by rw [h2]; simp; omega
   have HR : Hid (decide (t.size ≤ 120 ∧ t.bytes ≤ 12000 ∧ t.depth ≤ 60) = false) := H_ (by simp [hz])
   rw [HR.out]
   clear h1 h2 h3 hz hb hd
   go_enter func62, ntmps62
   go_wp2_with fail
   go_ret
   exact ⟨Zh (by simp), Z4 w _⟩
theorem Z6v (X : Ex) (hF : FmC X) (v : Value) (w : World) (hok : Jp X) (hwf : (Z3 X).wf) (hby : (Z3 X).bytes ≤ 500000000) (hv : EV w (fun k => k < w.heap.size) X v) (hT : Tab w) :
 Calls prog 28 #[v] w fun e w' => Kl (Vw (Z3 X)) e ∧ Below w.heap.size w w' := by
 obtain ⟨tn, o1, o2, o3, -, ho1, ho2, ho3, hq⟩ := Zm (Z3 X)
 obtain ⟨T0, u0, rfl⟩ := hv.iface
 have CF : Hid (Calls prog 61 #[.iface T0 u0] w fun e w' => (∃ p m c, e = .returned (.agg #[.string tn, .slice p m c, .int .i64 o1, .int .i64 o2, .int .i64 o3]) ∧ FV nI w' (fun k => k < w.heap.size ∨ (w.heap.size ≤ k ∧ k < w'.heap.size)) (Z3 X) (nI (Z3 X) (.slice p m c))) ∧ Below w.heap.size w w') := H_ ((hF _ w.heap.size w hok hwf hby hv (Nat.le_refl _) hT).mono fun e w' ⟨⟨p, m, c, h1, h2⟩, h3⟩ => ⟨⟨p, m, c, by rw [h1, hq], h2⟩, h3⟩)
 have hd := Z23 (Z3 X) hwf
 obtain ⟨v, hv9⟩ : ∃ v, v = decide ((Z3 X).size ≤ 120 ∧ (Z3 X).bytes ≤ 12000 ∧ (Z3 X).depth ≤ 60) := ⟨_, rfl⟩
 have CL : Hid (∀ (W : World) p m c, Calls prog 62 #[.agg #[.string tn, .slice p m c, .int .i64 o1, .int .i64 o2, .int .i64 o3]] W fun e w' => e = .returned (.bool v) ∧ Below W.heap.size W w') := H_ (fun W p m c => by rw [hv9]; exact fitsExpr_c (Z3 X) tn p m c o1 o2 o3 ho1 ho2 ho3 W (by omega) (by omega))
 have CT : Hid (∀ (W : World) (ok : Nat → Prop) p m c, FV nI W ok (Z3 X) (nI (Z3 X) (.slice p m c)) → (∀ k, ok k → k < W.heap.size) → Calls prog 20 #[.agg #[.string tn, .slice p m c, .int .i64 o1, .int .i64 o2, .int .i64 o3]] W fun e w' => e = .returned (.string (bs (Z3 X).text)) ∧ Below W.heap.size W w') := H_ (fun W ok p m c hf hk => by
  have h := text_c (Z3 X) p m c ok W hwf (by omega) hf hk
  have e : (nI (Z3 X) (.slice p m c)).toArray = #[.string tn, .slice p m c, .int .i64 o1, .int .i64 o2, .int .i64 o3] := by rw [hq]
  have e2 : (nI (Z3 X) (.slice p m c)).toArray = #[.string (bs (Z0 (Z3 X))), .slice p m c, .int .i64 (Z3 X).bytes, .int .i64 (Z3 X).size, .int .i64 (Z3 X).depth] := rfl
  rw [← e2, e] at h
  exact h)
 have HR2 : Hid (Vw (Z3 X) = if v = true then some (Z3 X).text else none) := H_ (by rw [hv9]; unfold Vw; simp only [decide_eq_true_eq])
 clear hF hv9 hq ho1 ho2 ho3 hd hby hok hwf hT hv
 cases v <;>
  (go_enter func28, ntmps28
   go_wp2_with (first | (go_at_call 61; go_must (refine (CF.out).mono ?_; rintro e w5 ⟨⟨p5, m5, c5, rfl, hf5⟩, hb5⟩; have s5 := hb5.size; have B5 := H_ (hb5.alloc hb5.size (.cells #[.string tn, .slice p5 m5 c5, .int .i64 o1, .int .i64 o2, .int .i64 o3] 49)); have x5 := heap_alloc_new w5 (.cells #[.string tn, .slice p5 m5 c5, .int .i64 o1, .int .i64 o2, .int .i64 o3] 49); have k5 := FV.below hf5 (Z4 w5 (.cells #[.string tn, .slice p5 m5 c5, .int .i64 o1, .int .i64 o2, .int .i64 o3] 49)) (fun k hk => by omega))) | (go_at_call 62; go_must (refine (CL.out _ _ _ _).mono ?_; rintro e w6 ⟨rfl, hb6⟩; have s6 := hb6.size; have x5' := Z1 hb6 (lt_of_block x5) x5; obtain ⟨ce0, ce1, ce2, ce3, ce4⟩ := Zb x5')) | (go_at_call 20; go_must (refine (CT.out _ _ p5 m5 c5 (k5.below hb6 (fun k hk => by simp; omega)) (fun k hk => by simp at s6; omega)).mono ?_; rintro e w7 ⟨rfl, hb7⟩)))
   go_ret2
   first
    | exact ⟨by rw [HR2.out, if_neg (by simp)]; rfl, (Yb (Xp B5.out) hb6).1⟩
    | exact ⟨by rw [HR2.out, if_pos trivial]; rfl, (Yb (Yb (Xp B5.out) hb6) hb7).1⟩
    | exact ⟨by rw [HR2.out, if_pos rfl]; rfl, (Yb (Yb (Xp B5.out) hb6) hb7).1⟩)
theorem madeText_c (X : Ex) (v : Value) (w : World) (hok : Jp X) (hwf : (Z3 X).wf) (hby : (Z3 X).bytes ≤ 500000000) (hv : EV w (fun k => k < w.heap.size) X v) (hT : Tab w) :
 Calls prog 28 #[v] w fun e w' => Kl (Vw (Z3 X)) e ∧ Below w.heap.size w w' := Z6v X (J7 X) v w hok hwf hby hv hT
theorem implExprPut_c (s n y : ByteArray) (hs : s.size ≤ 1048576) (hn : n.size ≤ 1048576) (hy : y.size ≤ 1048576) (w : World) (hT : Tab w) :
 Calls prog 11 #[.string s, .string n, .string y] w fun e w' => Kl (Vu s.data.toList n.data.toList y.data.toList) e ∧ Below w.heap.size w w' := by
 have CN := H_ (isName_c n hn)
 cases hp : Yf s.data.toList with
 | none =>
   have C := H_ (Ku hs hp)
   have HR := H_ (putTx_none (n := n.data.toList) (y := y.data.toList) hp)
   clear hp hT
   go_enter func11, ntmps11
   go_wp2_with (first | (go_at_call 18; go_must (refine (C.out _).mono ?_; rintro e w1 ⟨⟨v, rfl⟩, hb1⟩)) | (go_at_call 30; go_must (refine (CN.out _).mono ?_; rintro e w2 ⟨rfl, rfl⟩)))
   go_ret2
   exact ⟨by rw [HR.out]; rfl, hb1⟩
 | some x =>
   have C := H_ (Kt hs hp)
   cases hm : Yl n.data.toList with
   | false =>
     have HR := H_ (putTx_no (l := s.data.toList) (y := y.data.toList) hm)
     unfold Hid at CN
     rw [hm] at CN
     have CN := H_ CN
     clear hp hm hT
     go_enter func11, ntmps11
     go_wp2_with (first | (go_at_call 18; go_must (refine (C.out _).mono ?_; rintro e w1 ⟨⟨v, rfl, hv⟩, hb1⟩; obtain ⟨T0, u0, rfl⟩ := hv.iface)) | (go_at_call 30; go_must (refine (CN.out _).mono ?_; rintro e w2 ⟨rfl, rfl⟩)))
     go_ret2
     exact ⟨by rw [HR.out]; rfl, hb1⟩
   | true =>
     unfold Hid at CN
     rw [hm] at CN
     have CN := H_ CN
     cases hc : Jm y.data.toList with
     | none =>
       have CC := H_ (closed_none hy hc)
       have HR := H_ (putTx_cl (l := s.data.toList) (n := n.data.toList) hc)
       clear hp hm hT hc
       go_enter func11, ntmps11
       go_wp2_with (first | (go_at_call 18; go_must (refine (C.out _).mono ?_; rintro e w1 ⟨⟨v, rfl, hv⟩, hb1⟩; obtain ⟨T0, u0, rfl⟩ := hv.iface)) | (go_at_call 30; go_must (refine (CN.out _).mono ?_; rintro e w2 ⟨rfl, rfl⟩)) | (go_at_call 31; go_must (refine (CC.out _).mono ?_; rintro e w3 ⟨⟨v3, rfl⟩, hb3⟩)))
       go_ret2
       exact ⟨by rw [HR.out]; rfl, hb1.trans (hb3.mono hb1.size)⟩
     | some b =>
       have CC := H_ (closed_some hy hc)
       have HR := H_ (Z6m hp hm hc)
       obtain ⟨q1, q2, q3⟩ := Z58 hp
       obtain ⟨r1, r2, r3⟩ := Z58 (readCl_got hc).1
       have hwf := Kh (name := n.data.toList) r1 x q1
       have hok := Kv (name := n.data.toList) r3 x q3
       have hby : (Z3 (Yq n.data.toList b x)).bytes ≤ 500000000 := by
        have h1 := Qo (name := n.data.toList) (m := 12000) (by omega) r2 x q1
        omega
       have hbs : bs n.data.toList = n := (Z26 rfl).symm
       have CP : Hid (∀ (W : World) (v1 v2 : Value), EV W (fun k => k < W.heap.size) x v1 → EV W (fun k => k < W.heap.size) b v2 → Calls prog 32 #[v1, .string n, v2] W fun e w' => (∃ v', e = .returned v' ∧ EV w' (fun k => k < W.heap.size) (Yq n.data.toList b x) v') ∧ Below W.heap.size W w') := H_ (fun W v1 v2 h1 h2 => by have h := J4 n.data.toList b x v1 v2 W.heap.size W h1 h2 (Nat.le_refl _); rw [hbs] at h; exact h)
       generalize hX : Yq n.data.toList b x = X at *
       have CM : Hid (∀ (W : World) (v : Value), EV W (fun k => k < W.heap.size) X v → Below w.heap.size w W → Calls prog 28 #[v] W fun e w' => Kl (Vw (Z3 X)) e ∧ Below W.heap.size W w') := H_ (fun W v hv hW => madeText_c X v W hok hwf hby hv (hT.below hW))
       obtain ⟨t, z, ht⟩ : ∃ t z, ∀ e : Ending, Kl (Vw (Z3 X)) e → e = .returned (.tuple #[.string t, .bool z]) := ⟨_, _, fun _ h => h⟩
       have HX : Hid (Kl (Vu s.data.toList n.data.toList y.data.toList) (.returned (.tuple #[.string t, .bool z]))) := H_ (by
        have h1 := ht _ (show Kl (Vw (Z3 X)) (.returned (.tuple #[.string (bs ((Vw (Z3 X)).getD [])), .bool (Vw (Z3 X)).isSome])) from rfl)
        rw [HR.out, ← h1]; rfl)
       have CM2 : Hid (∀ (W : World) (v : Value), EV W (fun k => k < W.heap.size) X v → Below w.heap.size w W → Calls prog 28 #[v] W fun e w' => e = .returned (.tuple #[.string t, .bool z]) ∧ Below W.heap.size W w') := H_ (fun W v h1 h2 => (CM.out W v h1 h2).mono fun e w' ⟨k1, k2⟩ => ⟨ht e k1, k2⟩)
       clear HR CM ht hby hok hwf hX hbs q1 q2 q3 r1 r2 r3 hp hm hc hT
       go_enter func11, ntmps11
       go_wp2_with (first | (go_at_call 18; go_must (refine (C.out _).mono ?_; rintro e w1 ⟨⟨v1, rfl, hv1⟩, hb1⟩; obtain ⟨T0, u0, rfl⟩ := hv1.iface)) | (go_at_call 30; go_must (refine (CN.out _).mono ?_; rintro e w2 ⟨rfl, rfl⟩)) | (go_at_call 31; go_must (refine (CC.out _).mono ?_; rintro e w3 ⟨⟨v3, rfl, hv3⟩, hb3⟩; obtain ⟨T3, u3, rfl⟩ := hv3.iface; have s3 := hb3.size; have kx := H_ (EV.move (ok' := fun k => k < w3.heap.size) (fun k hk => by omega) (fun _ _ => rfl) _ _ (hv1.below hb3 (fun k hk => hk.2))); have kb := H_ (EV.move (ok' := fun k => k < w3.heap.size) (fun k hk => by omega) (fun _ _ => rfl) _ _ hv3); clear hv1 hv3)) | (go_at_call 32; go_must (refine (CP.out _ _ _ kx.out kb.out).mono ?_; rintro e w4 ⟨⟨v4, rfl, hv4⟩, hb4⟩; obtain ⟨T4, u4, rfl⟩ := hv4.iface; have k4 := H_ (EV.move (ok' := fun k => k < w4.heap.size) (fun k hk => Nat.lt_of_lt_of_le hk hb4.size) (fun _ _ => rfl) _ _ hv4); clear hv4)) | (go_at_call 28; go_must (refine (CM2.out _ _ k4.out ((Yb (Yb (Xp hb1) hb3) hb4).1)).mono ?_; rintro e w5 ⟨rfl, hb5⟩)))
       go_ret2
       exact ⟨HX.out, (Yb (Yb (Yb (Xp hb1) hb3) hb4) hb5).1⟩
theorem tyS_empty {env : List (Nm × Tr)} {x : Ex} {t : Tr} (henv : Qu env) (hty : Kf x) (h : tyR env x = .ok t) : tyS (tyR env x) ≠ [] := by
 rw [h]; exact Qb (Ze (Q8 x env t henv hty h)).1
theorem tyOf_tyS {ns : List Nm} {ts : List (List UInt8)} {l : List UInt8} {env : List (Nm × Tr)} {x : Ex} (he : Q7 ns ts = some env) (hx : Yf l = some x) : (Vs ns ts l).getD [] = tyS (tyR env x) ∧ (Vs ns ts l).isSome = !decide (tyS (tyR env x) = []) := by
 cases hr : tyR env x with
 | error f => rw [tyOf_bad he hx hr]; exact ⟨rfl, rfl⟩
 | ok t =>
   have := tyS_empty (Z21 he) (Z1k hx) hr
   rw [Z2e he hx hr]
   rw [hr] at this
   exact ⟨rfl, by simp [this]⟩
theorem l3Type_top {t : Tr} {x : Ex} {env : List (Nm × Tr)} {v1 v2 : Value} {w : World} (hwf : t.wf) (hby : t.bytes ≤ 12000) (hx : Yg t = some x) (henv : Qu env) (hl : env.length ≤ 8) (h1 : Zo w v1 (Z06 env)) (h2 : Zo w v2 (Z05 env)) {p : Option Addr} {m c : Nat} {W : World} (hW : Below w.heap.size w W) (hv : FV nS W (fun k => k < W.heap.size) t (nS t (.slice p m c))) :
 Calls prog 23 #[.agg #[.string (bs (Z0 t)), .slice p m c], v1, v2] W fun e w' => e = .returned (.string (bs (tyS (tyR env x)))) ∧ Below W.heap.size W w' :=
 Z10 (t.depth + 1) t x env (nS t (.slice p m c)) v1 v2 _ W (by omega) hwf hby hx henv (by have := Z23 t hwf; omega) (h1.below hW) (h2.below hW) hv (fun _ h => h)
theorem Z6d (v1 v2 : Value) (ns : List Nm) (ts : List (List UInt8)) (s : ByteArray) (w : World) (h1 : Zo w v1 ns) (h2 : Zo w v2 ts) (hn : ∀ k (h : k < ns.length), ns[k].length ≤ 1048576) (ht : ∀ k (h : k < ts.length), ts[k].length ≤ 1048576) (hs : s.size ≤ 1048576) :
 Calls prog 6 #[v1, v2, .string s] w fun e w' => Z3j (Vs ns ts s.data.toList) e ∧ Below w.heap.size w w' := by
 have CV : Hid (∀ W, Below w.heap.size w W → Calls prog 22 #[v1, v2] W fun e w' => e = .returned (.bool (Q7 ns ts).isSome) ∧ Below W.heap.size W w') := H_ (fun W hW => Z6e v1 v2 ns ts W (h1.below hW) (h2.below hW) hn ht)
 cases hp : Qg s.data.toList with
 | none =>
   have C := H_ (l2Parse_none hs hp)
   have HR := H_ (tyOf_ex (ns := ns) (ts := ts) (readEx_none2 hp))
   obtain ⟨p1, c1, rfl, -, -⟩ := h1
   obtain ⟨p2, c2, rfl, -, -⟩ := h2
   clear hp CV hn ht
   go_enter func6, ntmps6
   go_wp2_with (go_at_call 21; go_must (refine (C.out _).mono ?_; rintro e w1 ⟨⟨a, p, m, c, rfl, hnl⟩, hb1⟩))
   try go_region
   all_goals
    go_wp2_with fail
    go_ret2
    exact ⟨by rw [HR.out]; rfl, by first | exact hb1.alloc hb1.size _ | exact (hb1.alloc hb1.size _).drew⟩
 | some t =>
   have C := H_ (l2Parse_some hs hp)
   obtain ⟨x, hx1, hx2⟩ := readEx_asEx' hp
   have hg := Yn (Z6n hp).1
   cases he : Q7 ns ts with
   | none =>
     rw [he] at CV
     have HR := H_ (tyOf_env (l := s.data.toList) he)
     obtain ⟨p1, c1, rfl, -, -⟩ := h1
     obtain ⟨p2, c2, rfl, -, -⟩ := h2
     clear hp hn ht he hg hx1 hx2
     generalize bs (Z0 t) = A at *
     have B0 := H_ (Z4 w (.cells #[] 9))
     go_enter func6, ntmps6
     go_wp2_with (first | (go_at_call 21; go_must (refine (C.out _).mono ?_; rintro e w1 ⟨⟨p, m, c, rfl, hv⟩, hb1⟩; have HB1 := H_ (hb1.alloc hb1.size (.cells #[.string A, .slice p m c] 55)))) | (go_at_call 22; go_must (refine (CV.out _ HB1.out).mono ?_; rintro e w2 ⟨rfl, hb2⟩)))
     all_goals
      go_ret2
      exact ⟨by rw [HR.out]; rfl, HB1.out.trans (hb2.mono HB1.out.size)⟩
   | some env =>
     rw [he] at CV
     obtain ⟨q1, q2⟩ := tyOf_tyS he hx1
     obtain ⟨hns, hts, hl, h8⟩ := envOf_lists he
     have hok := Z21 he
     have CT : Hid (∀ W p m c, Below w.heap.size w W → FV nS W (fun k => k < W.heap.size) t (nS t (.slice p m c)) → Calls prog 23 #[.agg #[.string (bs (Z0 t)), .slice p m c], v1, v2] W fun e w' => e = .returned (.string (bs (tyS (tyR env x)))) ∧ Below W.heap.size W w') := H_ (fun W p m c hW hv =>
      l3Type_top hg.1 (by have := hg.2; omega) hx2 hok (by rw [← Z00, ← hns]; exact h8) (hns ▸ h1) (hts ▸ h2) hW hv)
     obtain ⟨rr, hrr⟩ : ∃ q, q = tyS (tyR env x) := ⟨_, rfl⟩
     rw [← hrr] at CT q1 q2
     have hfin : Z3j (Vs ns ts s.data.toList) (.returned (.tuple #[.string (bs rr), .bool (!(bs rr).toList.isEmpty)])) := by
      unfold Z3j
      rw [q1, q2, Z8]
      by_cases hz : rr = []
      · subst hz; rfl
      · rw [decide_eq_false hz, show rr.isEmpty = false by simpa using hz]
     have HF := H_ hfin
     obtain ⟨A, hA⟩ : ∃ q, q = bs (Z0 t) := ⟨_, rfl⟩
     rw [← hA] at C CT
     obtain ⟨p1, c1, rfl, -, -⟩ := h1
     obtain ⟨p2, c2, rfl, -, -⟩ := h2
     generalize bs rr = RR at *
     clear hfin q1 q2 hp hn ht he hg hx1 hx2 hns hts hl h8 hok hrr hA
     go_enter func6, ntmps6
     go_wp2_with (first | (go_at_call 21; go_must (refine (C.out _).mono ?_; rintro e w1 ⟨⟨p, m, c, rfl, hv⟩, hb1⟩; have HB1 := H_ (hb1.alloc hb1.size (.cells #[.string A, .slice p m c] 55)); have V1 := H_ ((hv.below (Z4 w1 (.cells #[.string A, .slice p m c] 55)) (fun k hk => hk.2)).wide (ok' := fun q => q < (w1.alloc (.cells #[.string A, .slice p m c] 55)).heap.size) (fun k hk => by simp; omega)); have y1 := heap_alloc_new w1 (.cells #[.string A, .slice p m c] 55); clear hv)) | (go_at_call 22; go_must (refine (CV.out _ HB1.out).mono ?_; rintro e w2 ⟨rfl, hb2⟩; have HB2 := H_ (HB1.out.trans (hb2.mono HB1.out.size)); have y2 := Z1 hb2 (lt_of_block y1) y1; obtain ⟨c20, c21⟩ := Zp y2; have V2 := H_ (V1.out.below hb2 (fun _ h => h) |>.wide (ok' := fun q => q < w2.heap.size) (fun k hk => Nat.lt_of_lt_of_le hk hb2.size)))) | (go_at_call 23; go_must (refine (CT.out _ _ _ _ HB2.out V2.out).mono ?_; rintro e w3 ⟨rfl, hb3⟩)))
     all_goals
      go_ret2
      exact ⟨HF.out, HB2.out.trans (hb3.mono HB2.out.size)⟩
def clTy (l : List UInt8) : Nm := match Jm l with | none => [] | some x => tyS (tyR [] x)
end Go.Proofs.YtmgepnacjgbfhaaGreatDoor
