/- The plain text of an expression: it is read back, has the same type and as many parts. Expressions without the names that they bind: what is alike, what is put, what is plain already (plain mathematics). Plain texts: what is alike, what is put (plain mathematics). The program: ExprAlike. -/
import Derived.Test.YtjaaalojcdbcpaaGreatDoorpPureA
import Derived.Test.YtjaaalojcdbcpaaGreatDoorpPureMM
import Derived.Test.YtjaaalojcdbcpaaGreatDoorpIp5
import Derived.Test.YtjaaalojcdbcpaaGreatDoorpPureOM
set_option maxHeartbeats 20000000
set_option linter.unusedVariables false
set_option linter.unusedSimpArgs false
namespace Go.Proofs.YtjaaalojcdbcpaaGreatDoor
open Go.RowKit Go.Proofs.Tryz
set_option maxRecDepth 8000
theorem plX_read {l : List UInt8} {x : Ex} (h : Zy l = some x) : Zy (Z0 (plX x)).text = some (plX x) ∧ (Z0 (plX x)).text.length ≤ 12000 := by
 obtain ⟨-, -, h1, h2, h3, h4, h5⟩ := Z1b h
 have hf := Z0r h1
 have hg : good (plX x) := Qo (frE x) x [] 0 (fun q hq => by cases hq) h5 (by omega)
 obtain ⟨s1, s2⟩ := Qn (frE x) x [] 0
 have s1' : (Z0 (plX x)).size = (Z0 x).size := s1
 have s2' : (Z0 (plX x)).depth = (Z0 x).depth := s2
 have hb := Xn _ hg
 refine ⟨readA_made (by omega) (by omega) hg, ?_⟩
 rw [Xu _ (J6 _ hg)]
 omega
inductive Db where
 | free (s : Nm)
 | bnd (i : Nat)
 | num (n : Int)
 | two (o : Op2) (a b : Db)
 | one (o : Op1) (a : Db)
 | cond (a b c : Db)
 | lete (e b : Db)
 | func (A B : Tr) (e : Db)
def ixN : List Nm → Nm → Option Nat
 | [], _ => none
 | a :: l, s => if a = s then some 0 else (ixN l s).map (fun i => i + 1)
def nmD (env : List Nm) (s : Nm) : Db := match ixN env s with | some i => .bnd i | none => .free s
def dbE : List Nm → Ex → Db
 | env, .name s => nmD env s
 | _, .num n => .num n
 | env, .two o a b => .two o (dbE env a) (dbE env b)
 | env, .one o a => .one o (dbE env a)
 | env, .cond a b c => .cond (dbE env a) (dbE env b) (dbE env c)
 | env, .lete x e b => .lete (dbE env e) (dbE (x :: env) b)
 | env, .func f x A B e => .func A B (dbE (x :: f :: env) e)
def exD (free : List Nm) : List Nm → Nat → Db → Ex × Nat
 | _, k, .free s => (.name s, k)
 | ns, k, .bnd i => (.name (ns.getD i []), k)
 | _, k, .num n => (.num n, k)
 | ns, k, .two o a b => let p := exD free ns k a; let q := exD free ns p.2 b; (.two o p.1 q.1, q.2)
 | ns, k, .one o a => let p := exD free ns k a; (.one o p.1, p.2)
 | ns, k, .cond a b c => let p := exD free ns k a; let q := exD free ns p.2 b; let r := exD free ns q.2 c; (.cond p.1 q.1 r.1, r.2)
 | ns, k, .lete e b => let i := Zh free k; let p := exD free ns (i + 1) e; let q := exD free (Zb i :: ns) p.2 b; (.lete (Zb i) p.1 q.1, q.2)
 | ns, k, .func A B e => let i := Zh free k; let j := Zh free (i + 1); let p := exD free (Zb j :: Zb i :: ns) (j + 1) e; (.func (Zb i) (Zb j) A B p.1, p.2)
structure PlIn (free : List Nm) (m : List (Nm × Nm)) (k : Nat) : Prop where
 nd : (m.map (fun q => q.2)).Nodup
 new : ∀ q ∈ m, q.2 ∉ free ∧ ∃ j, j < k ∧ q.2 = Zb j
theorem PlIn.mono {free : List Nm} {m : List (Nm × Nm)} {k k' : Nat} (h : PlIn free m k) (hk : k ≤ k') : PlIn free m k' := ⟨h.nd, fun q hq => ⟨(h.new q hq).1, by obtain ⟨j, h1, h2⟩ := (h.new q hq).2; exact ⟨j, by omega, h2⟩⟩⟩
theorem PlIn.cons {free : List Nm} {m : List (Nm × Nm)} {k : Nat} (h : PlIn free m k) (x : Nm) : PlIn free ((x, Zb (Zh free k)) :: m) (Zh free k + 1) := by
 have hk := (Xv free k).1
 refine ⟨?_, ?_⟩
 · simp only [List.map_cons, List.nodup_cons]
   refine ⟨fun hm => ?_, h.nd⟩
   obtain ⟨q, hq, e⟩ := List.mem_map.1 hm
   obtain ⟨j, h1, h2⟩ := (h.new q hq).2
   have := Z18 (h2.symm.trans e)
   omega
 · intro q hq
   rcases List.mem_cons.1 hq with rfl | hq
   · exact ⟨fresh_new free k, _, by omega, rfl⟩
   · obtain ⟨h1, j, h2, h3⟩ := h.new q hq
     exact ⟨h1, j, by omega, h3⟩
def Z12 : Db → List Nm
 | .free s => [s]
 | .bnd _ => []
 | .num _ => []
 | .two _ a b => Z12 a ++ Z12 b
 | .one _ a => Z12 a
 | .cond a b c => Z12 a ++ Z12 b ++ Z12 c
 | .lete e b => Z12 e ++ Z12 b
 | .func _ _ e => Z12 e
def putD (name : Nm) (d : Db) : Db → Db
 | .free s => if s = name then d else .free s
 | .bnd i => .bnd i
 | .num n => .num n
 | .two o a b => .two o (putD name d a) (putD name d b)
 | .one o a => .one o (putD name d a)
 | .cond a b c => .cond (putD name d a) (putD name d b) (putD name d c)
 | .lete e b => .lete (putD name d e) (putD name d b)
 | .func A B e => .func A B (putD name d e)
def Z35 (l m : List UInt8) : Bool := match Zy l, Zy m with | some x, some y => decide ((Z0 (plX x)).text = (Z0 (plX y)).text) | _, _ => false
theorem alTx_left {l m : List UInt8} (h : Zy l = none) : Z35 l m = false := by simp [Z35, h]
theorem Z34 {l m : List UInt8} (h : Zy m = none) : Z35 l m = false := by unfold Z35; rw [h]; cases Zy l <;> rfl
theorem alTx_both {l m : List UInt8} {x y : Ex} (h : Zy l = some x) (h2 : Zy m = some y) : Z35 l m = decide ((Z0 (plX x)).text = (Z0 (plX y)).text) := by simp [Z35, h, h2]
theorem V4 {l : List UInt8} {x : Ex} (h : Zy l = some x) : (Z0 x).size ≤ 120 := (Z1b h).2.2.1
theorem alikeTx_c {x : Ex} {l : List UInt8} (h : Zy l = some x) (v : Value) (B : Nat) (w : World) (hv : EV w (fun k => k < B) (plX x) v) (hB : B ≤ w.heap.size) (hT : Tab w) :
 Calls prog 33 #[v] w fun e w' => e = .returned (.string (bs (Z0 (plX x)).text)) ∧ Below w.heap.size w w' := by
 obtain ⟨hw, hb, ho⟩ := Z1p h
 have hP := V6 (frE x) x [] 0 (fun q hq => by cases hq) hw ho (by have := Z0r (V4 h); omega)
 exact Z2y (plX x) v B w hP.2.1 hP.1 (by have h := hP.2.2; show (Z0 (plE (frE x) [] 0 x).1).bytes ≤ _; omega) hv hB hT
theorem Z25 (s y : ByteArray) (hs : s.size ≤ 1048576) (hy : y.size ≤ 1048576) (w : World) (hT : Tab w) :
 Calls prog 12 #[.string s, .string y] w fun e w' => e = .returned (.bool (Z35 s.data.toList y.data.toList)) ∧ Below w.heap.size w w' := by
 have tok1 : True := trivial
 have tok3 : True := trivial
 have tok4 : True := trivial
 cases h1 : Zy s.data.toList with
 | none =>
   have HR := H_ (alTx_left (m := y.data.toList) h1)
   have C := H_ (Kc hs h1)
   clear h1 hT
   go_enter func12, ntmps12
   go_wp2_with (go_at_call 34; go_must (refine (C.out _).mono ?_; rintro e w1 ⟨⟨v, rfl⟩, hb1⟩))
   go_ret
   exact ⟨by rw [HR.out]; rfl, hb1⟩
 | some x =>
   have C := H_ (Kb hs h1)
   cases h2 : Zy y.data.toList with
   | none =>
     have HR := H_ (Z34 (l := s.data.toList) h2)
     have C2 := H_ (Kc hy h2)
     clear h1 h2 hT
     go_enter func12, ntmps12
     go_wp2_with (first | (go_at_call 34; clear tok1; go_must (refine (C.out _).mono ?_; rintro e w1 ⟨⟨v, rfl, hx⟩, hb1⟩)) | (go_at_call 34; go_must (refine (C2.out _).mono ?_; rintro e w2 ⟨⟨v2, rfl⟩, hb2⟩)))
     go_ret
     exact ⟨by rw [HR.out]; rfl, hb1.trans (hb2.mono hb1.size)⟩
   | some z =>
     have C2 := H_ (Kb hy h2)
     obtain ⟨T1, hT1⟩ : ∃ T1, T1 = bs (Z0 (plX x)).text := ⟨_, rfl⟩
     obtain ⟨T2, hT2⟩ : ∃ T2, T2 = bs (Z0 (plX z)).text := ⟨_, rfl⟩
     have HR : Hid (Z35 s.data.toList y.data.toList = decide (T1.toList = T2.toList)) := H_ (by rw [alTx_both h1 h2, hT1, hT2, Za, Za])
     have hl1 := Z0b h1
     have hz1 := V4 h1
     have hl2 := Z0b h2
     have hz2 := V4 h2
     have P1 : Hid (∀ (W : World) (B : Nat) v, Below w.heap.size w W → EV W (fun k => k < B) x v → B ≤ W.heap.size → Calls prog 35 #[v] W fun e w' => (∃ S t n, e = .returned (.tuple #[.iface S t, .int .i64 n]) ∧ n ≤ 100 ∧ EV w' (fun k => k < B) (plX x) (.iface S t)) ∧ Below W.heap.size W w') := H_ (fun W B v hW hv hB => V5 x v B W hv hB hl1 hz1 (hT.below hW))
     have P2 : Hid (∀ (W : World) (B : Nat) v, Below w.heap.size w W → EV W (fun k => k < B) z v → B ≤ W.heap.size → Calls prog 35 #[v] W fun e w' => (∃ S t n, e = .returned (.tuple #[.iface S t, .int .i64 n]) ∧ n ≤ 100 ∧ EV w' (fun k => k < B) (plX z) (.iface S t)) ∧ Below W.heap.size W w') := H_ (fun W B v hW hv hB => V5 z v B W hv hB hl2 hz2 (hT.below hW))
     have X1 : Hid (∀ (W : World) (B : Nat) v, Below w.heap.size w W → EV W (fun k => k < B) (plX x) v → B ≤ W.heap.size → Calls prog 33 #[v] W fun e w' => e = .returned (.string T1) ∧ Below W.heap.size W w') := H_ (fun W B v hW hv hB => by rw [hT1]; exact alikeTx_c h1 v B W hv hB (hT.below hW))
     have X2 : Hid (∀ (W : World) (B : Nat) v, Below w.heap.size w W → EV W (fun k => k < B) (plX z) v → B ≤ W.heap.size → Calls prog 33 #[v] W fun e w' => e = .returned (.string T2) ∧ Below W.heap.size W w') := H_ (fun W B v hW hv hB => by rw [hT2]; exact alikeTx_c h2 v B W hv hB (hT.below hW))
     clear h1 h2 hT hT1 hT2 hl1 hl2 hz1 hz2
     go_enter func12, ntmps12
     go_wp2_with (first | (go_at_call 34; clear tok1; go_must (refine (C.out _).mono ?_; rintro e w1 ⟨⟨v, rfl, hx⟩, hb1⟩)) | (go_at_call 34; go_must (refine (C2.out _).mono ?_; rintro e w2 ⟨⟨v2, rfl, hx2⟩, hb2⟩; have hB2 := H_ (hb1.trans (hb2.mono hb1.size)); have hx1 := H_ ((EV.move (w := w1) (w' := w2) (ok' := fun k => k < w1.heap.size) (fun k hk => hk.2) (fun k hk => hb2.block k hk.2) _ _ hx)))) | (go_at_call 35; clear tok3; go_must (refine (P1.out w2 w1.heap.size _ hB2.out hx1.out hb2.size).mono ?_; rintro e w3 ⟨⟨S3, t3, n3, rfl, hn3, hx3⟩, hb3⟩; have hB3 := H_ (hB2.out.trans (hb3.mono hB2.out.size)); have hx23 := H_ ((EV.move (w := w2) (w' := w3) (ok' := fun k => k < w2.heap.size) (fun k hk => hk.2) (fun k hk => hb3.block k hk.2) _ _ hx2)))) | (go_at_call 35; go_must (refine (P2.out w3 w2.heap.size _ hB3.out hx23.out hb3.size).mono ?_; rintro e w4 ⟨⟨S4, t4, n4, rfl, hn4, hx4⟩, hb4⟩; have hB4 := H_ (hB3.out.trans (hb4.mono hB3.out.size)); have hx34 := H_ ((EV.move (w := w3) (w' := w4) (ok' := fun k => k < w1.heap.size) (fun k hk => hk) (fun k hk => hb4.block k (by have := hb2.size; have := hb3.size; omega)) _ _ hx3)))) | (go_at_call 33; clear tok4; go_must (refine (X1.out w4 w1.heap.size _ hB4.out hx34.out (by have := hb2.size; have := hb3.size; have := hb4.size; omega)).mono ?_; rintro e w5 ⟨rfl, hb5⟩; have hB5 := H_ (hB4.out.trans (hb5.mono hB4.out.size)); have hx45 := H_ ((EV.move (w := w4) (w' := w5) (ok' := fun k => k < w2.heap.size) (fun k hk => hk) (fun k hk => hb5.block k (by have := hb3.size; have := hb4.size; omega)) _ _ hx4)))) | (go_at_call 33; go_must (refine (X2.out w5 w2.heap.size _ hB5.out hx45.out (by have := hb3.size; have := hb4.size; have := hb5.size; omega)).mono ?_; rintro e w6 ⟨rfl, hb6⟩)))
     go_ret
     refine ⟨?_, hB5.out.trans (hb6.mono hB5.out.size)⟩
     rw [HR.out]
     show Ending.returned (.bool (T1.toList == T2.toList)) = _
     by_cases h : T1.toList = T2.toList <;> simp [h]
end Go.Proofs.YtjaaalojcdbcpaaGreatDoor
