/- The program changes the kids of an expression by a closure. What ExprPut's outcome weighs: leaves of an expression. The program puts a closed expression for a name. The program's ExprPut. An expression with a closed one put for a name is an expression again, and its text is read as it if it keeps the limits. The plain mathematics of ExprOf: the plainest expression of a type. The reference model's environments. The program's EnvValid and EnvLook. The program's ExprType. The program's ExprTyped. -/
import Derived.Test.YtfknoigbkleanaaGreatDoorqImpl2u
import Derived.Deep.RegionHeldLaw
import Derived.Test.YtfknoigbkleanaaGreatDoorqImpl2vM
import Derived.Test.YtfknoigbkleanaaGreatDoorqPureT
import Derived.Test.YtfknoigbkleanaaGreatDoorqS2dM
import Derived.Test.YtfknoigbkleanaaGreatDoorqBuildM
import Derived.Test.YtfknoigbkleanaaGreatDoorqS1z
import Derived.Test.YtfknoigbkleanaaGreatDoorqImpl3bM
import Derived.Test.YtfknoigbkleanaaGreatDoorqImpl3y
namespace Go.Proofs.YtfknoigbkleanaaGreatDoor
open Go.RowKit Go.Proofs.Tryz
set_option maxRecDepth 8000
set_option maxHeartbeats 20000000
set_option linter.unusedVariables false
set_option linter.unusedSimpArgs false
def Z8l (name : Nm) (b : Ex) : Ex → Ex
 | .name s => if s = name then b else .name s
 | .num n => .num n
 | .two o x y => .two o (Z8l name b x) (Z8l name b y)
 | .one o x => .one o (Z8l name b x)
 | .cond x y z => .cond (Z8l name b x) (Z8l name b y) (Z8l name b z)
 | .lete s x y => .lete s (Z8l name b x) (if s = name then y else Z8l name b y)
 | .func f a A B x => .func f a A B (if f = name ∨ a = name then x else Z8l name b x)
def ChC (B : Nat) (w : World) (p1 p2 : Value) (T : TypeId) (u : Value) (f : Ex) : Prop := ∀ W, Below w.heap.size w W → Calls prog 129 #[.iface T u, p1, p2] W fun e w' => (∃ x', e = .returned x' ∧ EV w' (fun k => k < B) f x') ∧ Below W.heap.size W w'
theorem EV.on {B : Nat} {w w' : World} {x : Ex} {v : Value} (h : EV w (fun k => k < B) x v) (hB : B ≤ w.heap.size) (hb : Below w.heap.size w w') : EV w' (fun k => k < B) x v := h.below hb (fun k hk => Nat.lt_of_lt_of_le hk hB)
theorem map_number_c (vs : Array Value) (v0 : Value) (hv : vs = #[v0]) (f : Value) (w : World) : Calls prog 256 #[.agg vs, f] w fun e w' => e = .returned (.iface 130 (.agg vs)) ∧ Below w.heap.size w w' := by
 subst hv
 go_enter func256, ntmps256
 go_wp2_with fail
 go_ret
 exact ⟨rfl, Z4 _ _⟩
def Z5z : Ex → Nat
 | .name _ => 1
 | .num _ => 1
 | .two _ a b => Z5z a + Z5z b
 | .one _ a => Z5z a
 | .cond a b c => Z5z a + Z5z b + Z5z c
 | .lete _ e b => Z5z e + Z5z b + 1
 | .func _ _ _ _ e => Z5z e + 2
def PtC (name : Nm) (b x : Ex) : Prop := ∀ (v vb : Value) (B : Nat) (w : World), EV w (fun k => k < B) x v → EV w (fun k => k < B) b vb → B ≤ w.heap.size →
    Calls prog 80 #[v, .string (bs name), vb] w fun e w' => (∃ v', e = .returned v' ∧ EV w' (fun k => k < B) (Z8l name b x) v') ∧ Below w.heap.size w w'
theorem inLimits2_c (t : Tr) (u : ByteArray) (p : Option Addr) (n c : Nat) (sz : Int) (w : World) (hb : t.bytes ≤ 1000000000) (hd : t.depth ≤ 1000000000) :
 Calls prog 160 #[.agg #[.string u, .slice p n c, .int .i64 t.bytes, .int .i64 sz, .int .i64 t.depth]] w fun e w' => e = .returned (.bool (decide (t.bytes ≤ 12000 ∧ t.depth ≤ 60))) ∧ Below w.heap.size w w' := by
 by_cases h : t.bytes ≤ 12000
 · have h1 : decide ((t.bytes : Int) ≤ 12000) = true := by simp; omega
   by_cases h2 : t.depth ≤ 60
   · have h3 : decide ((t.depth : Int) ≤ 60) = true := by simp; omega
     have HF : Hid (decide (t.bytes ≤ 12000 ∧ t.depth ≤ 60) = true) := H_ (by simp [h, h2])
     go_enter func160, ntmps160
     go_wp2_with fail
     go_ret
     exact ⟨by rw [HF.out]; rfl, Z4 w _⟩
   · have h3 : decide ((t.depth : Int) ≤ 60) = false := by simp; omega
     have HF : Hid (decide (t.bytes ≤ 12000 ∧ t.depth ≤ 60) = false) := H_ (by simp [h2])
     go_enter func160, ntmps160
     go_wp2_with fail
     go_ret
     exact ⟨by rw [HF.out]; rfl, Z4 w _⟩
 · have h1 : decide ((t.bytes : Int) ≤ 12000) = false := by simp; omega
   have HF : Hid (decide (t.bytes ≤ 12000 ∧ t.depth ≤ 60) = false) := H_ (by simp [h])
   go_enter func160, ntmps160
   go_wp2_with fail
   go_ret
   exact ⟨by rw [HF.out]; rfl, Z4 w _⟩
def Z5c (T : Tr) : Option (List UInt8) := if T.size ≤ 120 ∧ T.bytes ≤ 12000 ∧ T.depth ≤ 60 then some T.text else none
def putTx (l n y : List UInt8) : Option (List UInt8) :=
 match Yb l with
 | none => none
 | some x => if Yr n = true then (match X4 y with | none => none | some b => Z5c (Z2 (Z8l n b x))) else none
def Z6o (r : Option (List UInt8)) (e : Ending) : Prop := e = .returned (.tuple #[.string (bs (r.getD [])), .bool r.isSome])
theorem fitsExpr_c (t : Tr) (u : ByteArray) (p : Option Addr) (n c : Nat) (o1 o2 o3 : Int) (h1 : o1 = t.bytes) (h2 : o2 = t.size) (h3 : o3 = t.depth) (w : World) (hb : t.bytes ≤ 1000000000) (hd : t.depth ≤ 1000000000) :
 Calls prog 112 #[.agg #[.string u, .slice p n c, .int .i64 o1, .int .i64 o2, .int .i64 o3]] w fun e w' => e = .returned (.bool (decide (t.size ≤ 120 ∧ t.bytes ≤ 12000 ∧ t.depth ≤ 60))) ∧ Below w.heap.size w w' := by
 have CL : Hid (∀ W : World, Calls prog 160 #[.agg #[.string u, .slice p n c, .int .i64 o1, .int .i64 o2, .int .i64 o3]] W fun e w' => e = .returned (.bool (decide (t.bytes ≤ 12000 ∧ t.depth ≤ 60))) ∧ Below W.heap.size W w') := H_ (fun W => by rw [h1, h3]; exact inLimits2_c t u p n c o2 W hb hd)
 by_cases hz : t.size ≤ 120
 · have hz2 : decide (o2 ≤ 120) = true := by rw [h2]; simp; omega
   have HR : Hid (decide (t.size ≤ 120 ∧ t.bytes ≤ 12000 ∧ t.depth ≤ 60) = decide (t.bytes ≤ 12000 ∧ t.depth ≤ 60)) := H_ (by simp [hz])
   rw [HR.out]
   clear h1 h2 h3 hz hb hd
   generalize decide (t.bytes ≤ 12000 ∧ t.depth ≤ 60) = v at *
   go_enter func112, ntmps112
   go_wp2_with (go_at_call 160; go_must (refine (CL.out _).mono ?_; rintro e w6 ⟨rfl, hb6⟩))
   go_ret
   exact ⟨Zh (by simp), (Z4 w _).trans (hb6.mono (by simp))⟩
 · have hz2 : decide (o2 ≤ 120) = false := by rw [h2]; simp; omega
   have HR : Hid (decide (t.size ≤ 120 ∧ t.bytes ≤ 12000 ∧ t.depth ≤ 60) = false) := H_ (by simp [hz])
   rw [HR.out]
   clear h1 h2 h3 hz hb hd
   go_enter func112, ntmps112
   go_wp2_with fail
   go_ret
   exact ⟨Zh (by simp), Z4 w _⟩
theorem madeText_h (X : Ex) (hF : FmC X) (v : Value) (w : World) (hok : Qg X) (hwf : (Z2 X).wf) (hby : (Z2 X).bytes ≤ 500000000) (hv : EV w (fun k => k < w.heap.size) X v) (hT : Tab w) :
 Calls prog 63 #[v] w fun e w' => Z6o (Z5c (Z2 X)) e ∧ Below w.heap.size w w' := by
 obtain ⟨tn, o1, o2, o3, -, ho1, ho2, ho3, hq⟩ := Zq (Z2 X)
 obtain ⟨T0, u0, rfl⟩ := hv.iface
 have CF : Hid (Calls prog 106 #[.iface T0 u0] w fun e w' => (∃ p m c, e = .returned (.agg #[.string tn, .slice p m c, .int .i64 o1, .int .i64 o2, .int .i64 o3]) ∧ FV nI w' (fun k => k < w.heap.size ∨ (w.heap.size ≤ k ∧ k < w'.heap.size)) (Z2 X) (nI (Z2 X) (.slice p m c))) ∧ Below w.heap.size w w') := H_ ((hF _ w.heap.size w hok hwf hby hv (Nat.le_refl _) hT).mono fun e w' ⟨⟨p, m, c, h1, h2⟩, h3⟩ => ⟨⟨p, m, c, by rw [h1, hq], h2⟩, h3⟩)
 have hd := Z2i (Z2 X) hwf
 obtain ⟨v, hv9⟩ : ∃ v, v = decide ((Z2 X).size ≤ 120 ∧ (Z2 X).bytes ≤ 12000 ∧ (Z2 X).depth ≤ 60) := ⟨_, rfl⟩
 have CL : Hid (∀ (W : World) p m c, Calls prog 112 #[.agg #[.string tn, .slice p m c, .int .i64 o1, .int .i64 o2, .int .i64 o3]] W fun e w' => e = .returned (.bool v) ∧ Below W.heap.size W w') := H_ (fun W p m c => by rw [hv9]; exact fitsExpr_c (Z2 X) tn p m c o1 o2 o3 ho1 ho2 ho3 W (by omega) (by omega))
 have CT : Hid (∀ (W : World) (ok : Nat → Prop) p m c, FV nI W ok (Z2 X) (nI (Z2 X) (.slice p m c)) → (∀ k, ok k → k < W.heap.size) → Calls prog 48 #[.agg #[.string tn, .slice p m c, .int .i64 o1, .int .i64 o2, .int .i64 o3]] W fun e w' => e = .returned (.string (bs (Z2 X).text)) ∧ Below W.heap.size W w') := H_ (fun W ok p m c hf hk => by
  have h := text_c (Z2 X) p m c ok W hwf (by omega) hf hk
  have e : (nI (Z2 X) (.slice p m c)).toArray = #[.string tn, .slice p m c, .int .i64 o1, .int .i64 o2, .int .i64 o3] := by rw [hq]
  have e2 : (nI (Z2 X) (.slice p m c)).toArray = #[.string (bs (Z0 (Z2 X))), .slice p m c, .int .i64 (Z2 X).bytes, .int .i64 (Z2 X).size, .int .i64 (Z2 X).depth] := rfl
  rw [← e2, e] at h
  exact h)
 have HR2 : Hid (Z5c (Z2 X) = if v = true then some (Z2 X).text else none) := H_ (by rw [hv9]; unfold Z5c; simp only [decide_eq_true_eq])
 clear hF hv9 hq ho1 ho2 ho3 hd hby hok hwf hT hv
 cases v <;>
  (go_enter func63, ntmps63
   go_wp2_with (first | (go_at_call 106; go_must (refine (CF.out).mono ?_; rintro e w5 ⟨⟨p5, m5, c5, rfl, hf5⟩, hb5⟩; have s5 := hb5.size; have B5 := H_ (hb5.alloc hb5.size (.cells #[.string tn, .slice p5 m5 c5, .int .i64 o1, .int .i64 o2, .int .i64 o3] 56)); have x5 := heap_alloc_new w5 (.cells #[.string tn, .slice p5 m5 c5, .int .i64 o1, .int .i64 o2, .int .i64 o3] 56); have k5 := FV.below hf5 (Z4 w5 (.cells #[.string tn, .slice p5 m5 c5, .int .i64 o1, .int .i64 o2, .int .i64 o3] 56)) (fun k hk => by omega))) | (go_at_call 112; go_must (refine (CL.out _ _ _ _).mono ?_; rintro e w6 ⟨rfl, hb6⟩; have s6 := hb6.size; have x5' := Z1 hb6 (lt_of_block x5) x5; obtain ⟨ce0, ce1, ce2, ce3, ce4⟩ := Zb x5')) | (go_at_call 48; go_must (refine (CT.out _ _ p5 m5 c5 (k5.below hb6 (fun k hk => by simp; omega)) (fun k hk => by simp at s6; omega)).mono ?_; rintro e w7 ⟨rfl, hb7⟩)))
   go_ret2
   first
    | exact ⟨by rw [HR2.out, if_neg (by simp)]; rfl, (Y0 (Yk B5.out) hb6).1⟩
    | exact ⟨by rw [HR2.out, if_pos trivial]; rfl, (Y0 (Y0 (Yk B5.out) hb6) hb7).1⟩
    | exact ⟨by rw [HR2.out, if_pos rfl]; rfl, (Y0 (Y0 (Yk B5.out) hb6) hb7).1⟩)
theorem limT_valid {X : Ex} (hw : (Z2 X).wf) (hg : Y9 (Z2 X) = some X) : Z5c (Z2 X) = if (Qp (Z2 X).text).isSome then some (Z2 X).text else none := by
 have hi : Ki (Z2 X) = true := by simp [Ki, hg]
 unfold Z5c
 by_cases h1 : (Z2 X).bytes ≤ 12000 ∧ (Z2 X).depth ≤ 60
 · have hp := V6 hw h1.1 h1.2
   by_cases h2 : (Z2 X).size ≤ 120
   · rw [Z3l hp hi h2]; simp [h1, h2]
   · rw [Z3n hp h2]; simp [h2]
 · have hp := Z38 hw h1
   rw [Z3m hp]
   rw [if_neg (fun h => h1 h.2)]; simp
def Xd : Tr → Ex
 | .list [x, a, b] => if Z0 x = [42] then .two .pair (Xd a) (Xd b) else .func [102] [120] a b (Xd b)
 | _ => .num 0
theorem Vf (a : List UInt8) : Xd (.atom a) = .num 0 := by simp [Xd]
theorem Jq (x a b : Tr) : Xd (.list [x, a, b]) = if Z0 x = [42] then .two .pair (Xd a) (Xd b) else .func [102] [120] a b (Xd b) := by rw [Xd]
theorem Z45 : Z2 (.num 0) = .atom [48] := by simp [Z2, Lib.itoa, dd1]
structure OfOK (t : Tr) : Prop where
 wf : (Z2 (Xd t)).wf
 bytes : (Z2 (Xd t)).bytes ≤ 100 * t.size
 ok : Qg (Xd t)
 good : Y9 (Z2 (Xd t)) = some (Xd t)
theorem Z0s : ∀ (n : Nat) (t : Tr), t.depth ≤ n → Zp t = true → OfOK t
 | _, .atom a, _, h => by
   refine ⟨?_, ?_, ?_, ?_⟩
   · rw [Vf, Z45]; exact ⟨by simp, by decide⟩
   · rw [Vf, Z45]; simp [Tr.bytes, Tr.size]
   · rw [Vf]; simp [Qg]
   · rw [Vf, Z45]; simp [Y9, Qm, Qo]
 | 0, .list ts, hd, h => by
   obtain ⟨x, a, b, rfl, -⟩ := Q4 (Zy h).1
   have := Ku x a b
   omega
 | n + 1, .list ts, hd, h => by
   obtain ⟨x, a, b, rfl, hx, -⟩ := Q4 (Zy h).1
   have hdd := Ku x a b
   have hsz := (Zy h).2
   have hxc : Z0 x = [42] ∨ (¬ Z0 x = [42] ∧ Z0 x = [62]) := by
    rcases hx with hx | hx
    · exact .inr ⟨by rw [hx]; decide, hx⟩
    · exact .inl hx
   have hab : Zp a = true ∧ Zp b = true := by
    rcases hxc with e | ⟨_, e⟩
    · exact Xv (c := 42) h (by simp [Ya, e])
    · exact Xv (c := 62) h (by simp [Ya, e])
   have hsz2 : (Tr.list [x, a, b]).size = x.size + (a.size + (b.size + 0)) := by simp only [Tr.size, Yo]
   have hx1 : 1 ≤ x.size := by
    cases x with
    | atom y => simp [Tr.size]
    | list l => rcases hx with hx | hx <;> cases hx
   have kb := Z0s n b (by omega) hab.2
   have sa := Zf hab.1
   have sb := Zf hab.2
   rw [hsz2] at hsz
   rcases hxc with e | ⟨e, e2⟩
   · have ka := Z0s n a (by omega) hab.1
     have he : Xd (.list [x, a, b]) = .two .pair (Xd a) (Xd b) := by rw [Jq, if_pos e]
     refine ⟨?_, ?_, ?_, ?_⟩
     · rw [he]; simp only [Z2, Tr.wf, wfs]; exact ⟨by simp, ⟨by decide, by decide⟩, ka.wf, kb.wf, trivial⟩
     · rw [he, hsz2]
       have h1 := ka.bytes
       have h2 := kb.bytes
       have h3 : (Z3c .pair).length = 4 := rfl
       simp only [Z2, Tr.bytes, Zk]; omega
     · rw [he]; exact ⟨ka.ok, kb.ok⟩
     · rw [he]; exact (Z1c _ _ _).2 ⟨ka.good, kb.good⟩
   · have he : Xd (.list [x, a, b]) = .func [102] [120] a b (Xd b) := by rw [Jq, if_neg e]
     refine ⟨?_, ?_, ?_, ?_⟩
     · rw [he]; simp only [Z2, Tr.wf, wfs]; exact ⟨by simp, ⟨by decide, by decide⟩, ⟨by decide, by decide⟩, ⟨by decide, by decide⟩, sa.1, sb.1, kb.wf, trivial⟩
     · rw [he, hsz2]
       have h2 := kb.bytes
       have h3 : Q1.length = 3 := rfl
       have h4 := sa.2.1
       have h5 := sb.2.1
       have h6 := (K5 _ _ (Nat.le_refl _) sa.2.2.2.2).1
       have h7 := (K5 _ _ (Nat.le_refl _) sb.2.2.2.2).1
       simp only [Z2, Tr.bytes, Zk, List.length_cons, List.length_nil]; omega
     · rw [he]; exact ⟨by decide, by decide, kb.ok⟩
     · rw [he]; exact (Z10 _ _ _ _ _).2 ⟨by rw [hab.1, hab.2]; decide, kb.good⟩
def Z8n (l : List UInt8) : Option (List UInt8) := (Yi l).bind (fun t => Z5c (Z2 (Xd t)))
theorem Z29 {l : List UInt8} (h : Yi l = none) : Z8n l = none := by simp [Z8n, h]
theorem Z49 {l : List UInt8} {t : Tr} (h : Yi l = some t) : Z8n l = Z5c (Z2 (Xd t)) := by simp [Z8n, h]
theorem Z8h {l : List UInt8} {t : Tr} (h : Yi l = some t) : Zp t = true := by
 obtain ⟨_, _, _, _, h1, h2⟩ := J5 h
 simp [Zp, h1, h2]
theorem tyW {env : List (Nm × Tr)} {x : Ex} (henv : Qe env) (hty : Kn x) (W : World) (q : Option Addr) (T : TypeId) (z : Value) (B : Nat) (hq : FrV W env (.pointer q)) (hv : EV W (fun k => B ≤ k ∧ k < W.heap.size) x (.iface T z)) :
 Calls prog 47 #[.pointer q, .iface T z] W fun e w' => Ty3 W (fun k => k < W.heap.size) (tyR env x) e w' ∧ Below W.heap.size W w' :=
 J8 x _ env q _ W henv hty (fun k hk => hk) hq.toO (hv.move (fun k hk => hk.2) (fun _ _ => rfl))
theorem Z1b (v1 v2 : Value) (ns : List Nm) (ts : List (List UInt8)) (s : ByteArray) (w : World) (h1 : Zn w v1 ns) (h2 : Zn w v2 ts) (hn : ∀ k (h : k < ns.length), ns[k].length ≤ 1048576) (ht : ∀ k (h : k < ts.length), ts[k].length ≤ 1048576) (hs : s.size ≤ 1048576) :
 Calls prog 11 #[v1, v2, .string s] w fun e w' => Z5j (Z3b ns ts s.data.toList) e ∧ Below w.heap.size w w' := by
 have C := H_ (readEnv_c v1 v2 ns ts w h1 h2 hn ht)
 obtain ⟨p1, c1, rfl, -, -⟩ := h1
 obtain ⟨p2, c2, rfl, -, -⟩ := h2
 cases he : K7 ns ts with
 | none =>
   have HR := H_ (tyOf_env (l := s.data.toList) he)
   rw [he] at C
   clear hn ht he
   go_enter func11, ntmps11
   go_wp2_with (go_at_call 45; go_must (refine (C.out).mono ?_; rintro e w1 ⟨rfl, hb1⟩))
   go_ret2
   exact ⟨by rw [HR.out]; rfl, hb1⟩
 | some env =>
   have hok := envOf_ok he
   rw [he] at C
   cases hx : Yb s.data.toList with
   | none =>
     have HR := H_ (tyOf_ex (ns := ns) (ts := ts) hx)
     have CX := H_ (Z02 hs hx)
     clear hn ht he hx hok
     go_enter func11, ntmps11
     go_wp2_with (first | (go_at_call 45; go_must (refine (C.out).mono ?_; rintro e w1 ⟨⟨q, rfl, hq⟩, hb1⟩)) | (go_at_call 46; go_must (refine (CX.out _).mono ?_; rintro e w2 ⟨⟨v, rfl⟩, hb2⟩)))
     go_ret2
     exact ⟨by rw [HR.out]; rfl, (Y0 (Yk hb1) hb2).1⟩
   | some x =>
     have CX := H_ (Z01 hs hx)
     have hty := Z3j hx
     cases hr : tyR env x with
     | error f =>
       have HR := H_ (Z5m he hx hr)
       have CT : Hid (∀ W q T z B, FrV W env (.pointer q) → EV W (fun k => B ≤ k ∧ k < W.heap.size) x (.iface T z) → Calls prog 47 #[.pointer q, .iface T z] W fun e w' => (∃ T2 z2, e = .returned (.tuple #[.agg #[.string ⟨#[]⟩, .slice none 0 0, .int .i64 0, .int .i64 0, .int .i64 0], .iface T2 z2])) ∧ Below W.heap.size W w') := H_ (fun W q T z B k1 k2 => by
        have h := tyW hok hty W q T z B k1 k2
        rw [hr] at h
        exact h.mono fun e w' ⟨⟨T2, z2, h1, _⟩, h3⟩ => ⟨⟨T2, z2, h1⟩, h3⟩)
       clear hn ht he hx hok hty hr
       go_enter func11, ntmps11
       go_wp2_with (first | (go_at_call 45; go_must (refine (C.out).mono ?_; rintro e w1 ⟨⟨q, rfl, hq⟩, hb1⟩)) | (go_at_call 46; go_must (refine (CX.out _).mono ?_; rintro e w2 ⟨⟨v, rfl, hv⟩, hb2⟩; obtain ⟨T, z, rfl⟩ := hv.iface; have hq2 := hq.below hb2; clear hq)) | (go_at_call 47; go_must (refine (CT.out _ _ _ _ _ hq2 hv).mono ?_; rintro e w3 ⟨⟨T2, z2, rfl⟩, hb3⟩)))
       go_ret2
       exact ⟨by rw [HR.out]; rfl, (Y0 (Y0 (Y0 (Yk hb1) hb2) hb3) (Z4 _ _)).1⟩
     | ok t =>
       have HR := H_ (Z21 he hx hr)
       obtain ⟨k1, k2, k3, k4, k5⟩ := Zf (Qj x env t hok hty hr)
       obtain ⟨u, t1, t2, t3, hu, ht1, ht2, ht3, hqq⟩ := Zq t
       have CT : Hid (∀ W q T z B, FrV W env (.pointer q) → EV W (fun k => B ≤ k ∧ k < W.heap.size) x (.iface T z) → Calls prog 47 #[.pointer q, .iface T z] W fun e w' => (∃ p m c, e = .returned (.tuple #[.agg #[.string u, .slice p m c, .int .i64 t1, .int .i64 t2, .int .i64 t3], .nilIface]) ∧ FV nI w' (fun k => k < w'.heap.size) t (nI t (.slice p m c))) ∧ Below W.heap.size W w') := H_ (fun W q T z B k1 k2 => by
        have h := tyW hok hty W q T z B k1 k2
        rw [hr] at h
        rw [hu, ht1, ht2, ht3]
        exact h.mono fun e w' ⟨⟨p, m, c, h1, h2⟩, h3⟩ => ⟨⟨p, m, c, h1, h2.move (fun k hk => by have := h3.size; rcases hk with hk | hk <;> omega) (fun _ _ => rfl) _ _⟩, h3⟩)
       have TX : Hid (∀ (W : World) p m c, FV nI W (fun k => k < W.heap.size) t (nI t (.slice p m c)) → Calls prog 48 #[.agg #[.string u, .slice p m c, .int .i64 t1, .int .i64 t2, .int .i64 t3]] W fun e w' => e = .returned (.string (bs t.text)) ∧ Below W.heap.size W w') :=
        H_ (fun W p m c h1 => by rw [hu, ht1, ht2, ht3]; exact text_c t p m c _ W k1 (by omega) h1 (fun k hk => hk))
       clear hn ht he hx hok hty hr k1 k2 k3 k4 k5 hu ht1 ht2 ht3 hqq
       go_enter func11, ntmps11
       go_wp2_with (first | (go_at_call 45; go_must (refine (C.out).mono ?_; rintro e w1 ⟨⟨q, rfl, hq⟩, hb1⟩)) | (go_at_call 46; go_must (refine (CX.out _).mono ?_; rintro e w2 ⟨⟨v, rfl, hv⟩, hb2⟩; obtain ⟨T, z, rfl⟩ := hv.iface; have hq2 := hq.below hb2; clear hq)) | (go_at_call 47; go_must (refine (CT.out _ _ _ _ _ hq2 hv).mono ?_; rintro e w3 ⟨⟨p, m, c, rfl, hf⟩, hb3⟩; have V2 := H_ (hf.on (Z4 w3 (.cells #[.string u, .slice p m c, .int .i64 t1, .int .i64 t2, .int .i64 t3] 56))); clear hf)) | (go_at_call 48; go_must (refine (TX.out _ _ _ _ V2.out).mono ?_; rintro e w4 ⟨rfl, hb4⟩)))
       go_ret2
       exact ⟨by rw [HR.out]; rfl, (Y0 (Y0 (Y0 (Y0 (Yk hb1) hb2) hb3) (Z4 _ _)) hb4).1⟩
theorem Z7s {w : World} (b : Nat) : Zn w (.slice (some ⟨b, 0, none⟩) 0 0) [] := ⟨some ⟨b, 0, none⟩, 0, rfl, by simp, fun h => absurd rfl h⟩
theorem Js (s : ByteArray) (hs : s.size ≤ 1048576) (w : World) :
 Calls prog 18 #[.string s] w fun e w' => e = .returned (.bool (Qv s.data.toList)) ∧ Below w.heap.size w w' := by
 have C : Hid (∀ W, Calls prog 11 #[.slice none 0 0, .slice none 0 0, .string s] W fun e w' => Z5j (Z3b [] [] s.data.toList) e ∧ Below W.heap.size W w') := H_ (fun W => Z1b _ _ [] [] s W ⟨none, 0, rfl, by simp, fun h => absurd rfl h⟩ ⟨none, 0, rfl, by simp, fun h => absurd rfl h⟩ (fun k h => by simp at h) (fun k h => by simp at h) hs)
 obtain ⟨R, hR⟩ : ∃ R, R = Z3b [] [] s.data.toList := ⟨_, rfl⟩
 have HR := H_ hR
 rw [← hR] at C
 clear hR
 go_enter func18, ntmps18
 go_wp2_with (go_at_call 11; go_must (refine (C.out _).mono ?_; rintro e w1 ⟨hp, hb1⟩; obtain rfl := hp))
 go_ret
 exact ⟨by rw [Qv, ← HR.out]; rfl, hb1⟩
end Go.Proofs.YtfknoigbkleanaaGreatDoor
