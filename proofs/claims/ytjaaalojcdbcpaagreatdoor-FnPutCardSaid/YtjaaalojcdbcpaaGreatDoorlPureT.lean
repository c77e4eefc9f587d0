/- The form that an expression is written as; numerals are written as they are read. Both types of a type with a head. The plain mathematics of chapter 3: environments, types of expressions, the first fault. The type of a text, the plain mathematics. Expressions that are written as what is read as them. -/
import Derived.Test.YtjaaalojcdbcpaaGreatDoorlB3
import Derived.Lib.ItoaNum
import Derived.Test.YtjaaalojcdbcpaaGreatDoorlB1
set_option maxHeartbeats 20000000
set_option linter.unusedVariables false
set_option linter.unusedSimpArgs false
namespace Go.Proofs.YtjaaalojcdbcpaaGreatDoor
open Go.RowKit Go.Proofs.Tryz
set_option maxRecDepth 8000
def Z0 : Ex → Tr
 | .name s => .atom s
 | .num n => .atom (Lib.itoa n)
 | .two o a b => .list [.atom (Z2h o), Z0 a, Z0 b]
 | .one o a => .list [.atom (Z42 o), Z0 a]
 | .cond a b c => .list [.atom kIf, Z0 a, Z0 b, Z0 c]
 | .lete x e b => .list [.atom Yy, .atom x, Z0 e, Z0 b]
 | .func f x A B e => .list [.atom Yt, .atom f, .atom x, A, B, Z0 e]
theorem dd1 (u : Nat) (h : u < 10) : Lib.decDigits u = [UInt8.ofNat (48 + u)] := by rw [Lib.decDigits, dif_pos h]
theorem dd2 (d1 d2 : Nat) (h1 : 1 ≤ d1) (h1' : d1 < 10) (h2 : d2 < 10) : Lib.decDigits (d1 * 10 + d2) = [UInt8.ofNat (48 + d1), UInt8.ofNat (48 + d2)] := by
 rw [Lib.decDigits, dif_neg (by omega), show (d1 * 10 + d2) / 10 = d1 by omega, show (d1 * 10 + d2) % 10 = d2 by omega, dd1 d1 h1']; rfl
theorem dd3 (d1 d2 d3 : Nat) (h1 : 1 ≤ d1) (h1' : d1 < 10) (h2 : d2 < 10) (h3 : d3 < 10) : Lib.decDigits ((d1 * 10 + d2) * 10 + d3) = [UInt8.ofNat (48 + d1), UInt8.ofNat (48 + d2), UInt8.ofNat (48 + d3)] := by
 rw [Lib.decDigits, dif_neg (by omega), show ((d1 * 10 + d2) * 10 + d3) / 10 = d1 * 10 + d2 by omega, show ((d1 * 10 + d2) * 10 + d3) % 10 = d3 by omega, dd2 d1 d2 h1 h1' h2]; rfl
theorem Js {b : UInt8} {d : Nat} (h : Lib.digitVal b = some d) : d < 10 ∧ UInt8.ofNat (48 + d) = b := by
 unfold Lib.digitVal at h
 split at h
 · rename_i hb
   simp only [Option.some.injEq] at h
   refine ⟨by omega, ?_⟩
   rw [← h, show 48 + (b.toNat - 48) = b.toNat by omega]
   exact UInt8.ofNat_toNat
 · cases h
theorem dec_back {l : List UInt8} {m : Nat} (h1 : 1 ≤ l.length) (h3 : l.length ≤ 3) (h0 : l.head? ≠ some 48) (h : Lib.decFrom 0 l = some m) : Lib.decDigits m = l ∧ 1 ≤ m := by
 match l, h1, h3 with
 | [a], _, _ =>
   simp only [Lib.decFrom] at h
   cases ha : Lib.digitVal a with
   | none => simp [ha] at h
   | some d =>
     simp only [ha, Option.some.injEq] at h
     obtain ⟨e1, e2⟩ := Js ha
     have hd : d ≠ 0 := fun e => by subst e; apply h0; rw [← e2]; rfl
     subst h
     rw [show 0 * 10 + d = d by omega, dd1 d e1, e2]
     exact ⟨rfl, by omega⟩
 | [a, b], _, _ =>
   simp only [Lib.decFrom] at h
   cases ha : Lib.digitVal a with
   | none => simp [ha] at h
   | some d =>
     cases hb : Lib.digitVal b with
     | none => simp [ha, hb] at h
     | some f =>
       simp only [ha, hb, Option.some.injEq] at h
       obtain ⟨e1, e2⟩ := Js ha
       obtain ⟨f1, f2⟩ := Js hb
       have hd : d ≠ 0 := fun e => by subst e; apply h0; rw [← e2]; rfl
       subst h
       rw [show (0 * 10 + d) * 10 + f = d * 10 + f by omega, dd2 d f (by omega) e1 f1, e2, f2]
       exact ⟨rfl, by omega⟩
 | [a, b, c], _, _ =>
   simp only [Lib.decFrom] at h
   cases ha : Lib.digitVal a with
   | none => simp [ha] at h
   | some d =>
     cases hb : Lib.digitVal b with
     | none => simp [ha, hb] at h
     | some f =>
       cases hc : Lib.digitVal c with
       | none => simp [ha, hb, hc] at h
       | some g =>
         simp only [ha, hb, hc, Option.some.injEq] at h
         obtain ⟨e1, e2⟩ := Js ha
         obtain ⟨f1, f2⟩ := Js hb
         obtain ⟨g1, g2⟩ := Js hc
         have hd : d ≠ 0 := fun e => by subst e; apply h0; rw [← e2]; rfl
         subst h
         rw [show ((0 * 10 + d) * 10 + f) * 10 + g = (d * 10 + f) * 10 + g by omega, dd3 d f g (by omega) e1 f1 g1, e2, f2, g2]
         exact ⟨rfl, by omega⟩
theorem numOf_itoa {a : List UInt8} {n : Int} (h : Q3 a = some n) : Lib.itoa n = a := by
 unfold Q3 at h
 split at h
 · rename_i ha
   simp only [Option.some.injEq] at h
   subst h; subst ha
   rw [Lib.itoa, if_neg (by omega)]
   exact dd1 0 (by omega)
 · split at h
   · rename_i hd
     simp only [Option.map_eq_some_iff] at h
     obtain ⟨m, hm, rfl⟩ := h
     obtain ⟨e1, e2⟩ := dec_back hd.1 hd.2.1 hd.2.2 hm
     cases a with
     | nil => simp [Zg] at hd
     | cons b r =>
       simp only [Zg, Vb] at e1 ⊢
       by_cases hb : b = 45
       · subst hb
         simp only [if_true] at e1 ⊢
         rw [Lib.itoa, if_pos (by omega), show (-1 * (m : Int)).natAbs = m by omega, e1]
       · rw [if_neg hb] at e1 ⊢
         rw [Lib.itoa, if_neg (by omega), show (1 * (m : Int)).toNat = m by omega, e1]
   · cases h
theorem numOf_range {a : List UInt8} {n : Int} (h : Q3 a = some n) : -1000 < n ∧ n < 1000 := by
 unfold Q3 at h
 split at h
 · simp only [Option.some.injEq] at h; omega
 · split at h
   · rename_i hd
     simp only [Option.map_eq_some_iff] at h
     obtain ⟨m, hm, rfl⟩ := h
     have hb := Vt _ _ _ hm
     have hl : 10 ^ (Zg a).length ≤ 10 ^ 3 := Nat.pow_le_pow_right (by omega) hd.2.1
     have : m < 1000 := by omega
     unfold Vb
     split
     · omega
     · split <;> omega
   · cases h
theorem Z0x {t : Tr} (h : Z1 t ≠ []) : t = .atom (Z1 t) := by
 cases t with
 | atom a => rfl
 | list ts => exact absurd rfl h
theorem nm_ne {a : List UInt8} (h : Yg a = true) : a ≠ [] := fun e => by subst e; cases h
theorem op2N_ne (o : Op2) : Z2h o ≠ [] := by cases o <;> simp [Z2h]
theorem op1N_ne (o : Op1) : Z42 o ≠ [] := by cases o <;> simp [Z42]
mutual
theorem X3 : ∀ (t : Tr) (x : Ex), Zy t = some x → Z0 x = t
 | .atom a, x, h => by
   simp only [Zy, Q8] at h
   cases hn : Q3 a with
   | some n =>
     simp only [hn, Option.some.injEq] at h
     subst h
     simp only [Z0, numOf_itoa hn]
   | none =>
     simp only [hn] at h
     split at h
     · simp only [Option.some.injEq] at h; subst h; rfl
     · cases h
 | .list [], x, h => by simp [Zy, J6] at h
 | .list (h0 :: ps), x, h => by
   simp only [Zy, J6] at h
   split at h
   · rename_i hl
     have hh := Z0x (t := h0) (by rw [hl]; simp [Yy])
     rw [hl] at hh
     subst hh
     match ps, h with
     | [x0, e0, b0], h =>
       simp only [Qb] at h
       split at h
       · rename_i hx
         split at h
         · cases h
         · rename_i e' he
           split at h
           · cases h
           · rename_i b' hb
             simp only [Option.some.injEq] at h
             subst h
             simp only [Z0, X3 e0 e' he, X3 b0 b' hb]
             rw [← Z0x (nm_ne hx)]
       · cases h
     | [], h => cases h
     | [_], h => cases h
     | [_, _], h => cases h
     | _ :: _ :: _ :: _ :: _, h => cases h
   · split at h
     · rename_i hl
       have hh := Z0x (t := h0) (by rw [hl]; simp [Yt])
       rw [hl] at hh
       subst hh
       match ps, h with
       | [f0, x0, A0, B0, e0], h =>
         simp only [Xc] at h
         split at h
         · rename_i hx
           simp only [Bool.and_eq_true] at hx
           split at h
           · cases h
           · rename_i e' he
             simp only [Option.some.injEq] at h
             subst h
             simp only [Z0, X3 e0 e' he]
             rw [← Z0x (nm_ne hx.1.1.1.1), ← Z0x (nm_ne hx.1.1.1.2)]
         · cases h
       | [], h => cases h
       | [_], h => cases h
       | [_, _], h => cases h
       | [_, _, _], h => cases h
       | [_, _, _, _], h => cases h
       | _ :: _ :: _ :: _ :: _ :: _ :: _, h => cases h
     · cases hk : Yn ps with
       | none => simp [hk] at h
       | some es =>
         simp only [hk, Option.bind_some] at h
         have hp := Z80 ps es hk
         match es, h, hp with
         | [], h, hp => cases h
         | [a], h, hp =>
           simp only [Yr, Option.map_eq_some_iff] at h
           obtain ⟨o, ho, rfl⟩ := h
           have hn := op1Of_name ho
           have hh := Z0x (t := h0) (by rw [← hn]; exact op1N_ne o)
           rw [hh, ← hp, ← hn]; rfl
         | [a, b], h, hp =>
           simp only [Yr, Option.map_eq_some_iff] at h
           obtain ⟨o, ho, rfl⟩ := h
           have hn := op2Of_name ho
           have hh := Z0x (t := h0) (by rw [← hn]; exact op2N_ne o)
           rw [hh, ← hp, ← hn]; rfl
         | [a, b, c], h, hp =>
           simp only [Yr] at h
           split at h
           · rename_i hi
             simp only [Option.some.injEq] at h
             subst h
             have hh := Z0x (t := h0) (by rw [hi]; simp [kIf])
             rw [hh, ← hp, hi]; rfl
           · cases h
         | _ :: _ :: _ :: _ :: _, h, hp => cases h
theorem Z80 : ∀ (ts : List Tr) (es : List Ex), Yn ts = some es → es.map Z0 = ts
 | [], es, h => by simp only [Yn, Option.some.injEq] at h; subst h; rfl
 | t :: ts, es, h => by
   simp only [Yn] at h
   split at h
   · cases h
   · rename_i e he
     split at h
     · cases h
     · rename_i es' hs
       simp only [Option.some.injEq] at h
       subst h
       simp only [List.map_cons, X3 t e he, Z80 ts es' hs]
end
def Vm (c : UInt8) : Tr → Option (Tr × Tr)
 | .list [x, a, b] => if Z1 x = [c] then some (a, b) else none
 | _ => none
theorem Z5r {c : UInt8} {x a b : Tr} (h : Z1 x = [c]) : Vm c (.list [x, a, b]) = some (a, b) := by simp [Vm, h]
abbrev Env := List (Nm × Tr)
def lookE : List (Nm × Tr) → Nm → Option Tr
 | [], _ => none
 | (n, t) :: env, s => if n = s then some t else lookE env s
def tI : Tr := .atom [105]
def isNumT : Tr → Bool
 | .atom _ => true
 | .list _ => false
def mkT (c : UInt8) (a b : Tr) : Option Tr := if 1 + a.size + b.size ≤ 16 then some (.list [.atom [c], a, b]) else none
def join2 (o : Op2) (a b : Tr) : Option Tr :=
 match o with
 | .call => match Vm 62 a with | some (x, y) => if x.text = b.text then some y else none | none => none
 | .pair => mkT 42 a b
 | _ => if isNumT a = true ∧ isNumT b = true then some tI else none
def join1 (o : Op1) (a : Tr) : Option Tr :=
 match o with
 | .fst => (Vm 42 a).map (fun p => p.1)
 | .snd => (Vm 42 a).map (fun p => p.2)
def orBad (x : Ex) : Option Tr → Except Ex Tr
 | some t => .ok t
 | none => .error x
def tyR (env : List (Nm × Tr)) : Ex → Except Ex Tr
 | .name s => orBad (.name s) (lookE env s)
 | .num n => .ok tI
 | .two o a b => match tyR env a with | .error f => .error f | .ok ta => match tyR env b with | .error f => .error f | .ok tb => orBad (.two o a b) (join2 o ta tb)
 | .one o a => match tyR env a with | .error f => .error f | .ok ta => orBad (.one o a) (join1 o ta)
 | .cond a b c => match tyR env a with | .error f => .error f | .ok ta => match tyR env b with | .error f => .error f | .ok tb => match tyR env c with | .error f => .error f | .ok tc => orBad (.cond a b c) (if isNumT ta = true ∧ tb.text = tc.text then some tb else none)
 | .lete x e b => match tyR env e with | .error f => .error f | .ok t => tyR ((x, t) :: env) b
 | .func f x A B e => match mkT 62 A B with | none => .error (.func f x A B e) | some T => match tyR ((x, A) :: (f, T) :: env) e with | .error g => .error g | .ok t => orBad (.func f x A B e) (if t.text = B.text then some T else none)
def tyEx : Ex → Prop
 | .name _ => True
 | .num _ => True
 | .two _ a b => tyEx a ∧ tyEx b
 | .one _ a => tyEx a
 | .cond a b c => tyEx a ∧ tyEx b ∧ tyEx c
 | .lete _ e b => tyEx e ∧ tyEx b
 | .func _ _ A B e => X5 A = true ∧ X5 B = true ∧ tyEx e
def envOK (env : List (Nm × Tr)) : Prop := ∀ p ∈ env, X5 p.2 = true
theorem envOK.cons {env : List (Nm × Tr)} {s : Nm} {t : Tr} (h : envOK env) (ht : X5 t = true) : envOK ((s, t) :: env) := fun p hp => by
 rcases List.mem_cons.1 hp with rfl | hp
 · exact ht
 · exact h p hp
theorem Kt {t : Tr} (h : X5 t = true) : Q1 t = true ∧ t.size ≤ 16 := by simpa [X5] using h
theorem Jp {t : Tr} (h : X5 t = true) : t.wf ∧ t.bytes ≤ 80 ∧ t.depth ≤ 16 ∧ t.size ≤ 16 ∧ Q1 t = true := by
 obtain ⟨h1, h2⟩ := Kt h
 obtain ⟨a, b, c⟩ := Vi _ _ (Nat.le_refl _) h1
 exact ⟨c, by omega, by omega, h2, h1⟩
theorem sidesTr_got {c : UInt8} {t a b : Tr} (h : Vm c t = some (a, b)) : ∃ x, t = .list [x, a, b] ∧ Z1 x = [c] := by
 unfold Vm at h
 split at h
 · split at h
   · rename_i hx
     simp only [Option.some.injEq, Prod.mk.injEq] at h
     obtain ⟨rfl, rfl⟩ := h
     exact ⟨_, rfl, hx⟩
   · cases h
 · cases h
theorem Z1h {c : UInt8} {t a b : Tr} (ht : X5 t = true) (h : Vm c t = some (a, b)) : X5 a = true ∧ X5 b = true := by
 obtain ⟨x, rfl, hx⟩ := sidesTr_got h
 obtain ⟨h1, h2⟩ := Kt ht
 rw [Z1p] at h1
 simp only [Bool.and_eq_true] at h1
 simp only [Tr.size, Yd] at h2
 simp only [X5, Bool.and_eq_true, decide_eq_true_eq]
 exact ⟨⟨h1.1.2, by omega⟩, h1.2, by omega⟩
def envAdd : List (Nm × Tr) → List Nm → List (List UInt8) → Option (List (Nm × Tr))
 | env, n :: ns, t :: ts => match Qk t with | none => none | some u => if Yg n = true then envAdd ((n, u) :: env) ns ts else none
 | env, [], [] => some env
 | _, _, _ => none
def envOf (ns : List Nm) (ts : List (List UInt8)) : Option (List (Nm × Tr)) := if ns.length ≤ 8 ∧ ns.length = ts.length then envAdd [] ns ts else none
def lookOf (ns : List Nm) (ts : List (List UInt8)) (s : Nm) : Option (List UInt8) := (envOf ns ts).bind (fun e => (lookE e s).map Tr.text)
def envN (env : List (Nm × Tr)) : List Nm := (env.map (fun p => p.1)).reverse
def envT (env : List (Nm × Tr)) : List (List UInt8) := (env.map (fun p => p.2.text)).reverse
def Z20 (ns : List Nm) (ts : List (List UInt8)) (s : Nm) : Nat → List UInt8
 | 0 => []
 | k + 1 => if ns.getD k [] = s then ts.getD k [] else Z20 ns ts s k
def tyOf (ns : List Nm) (ts : List (List UInt8)) (l : List UInt8) : Option (List UInt8) :=
 match envOf ns ts with
 | none => none
 | some env => match Zp l with
   | none => none
   | some x => match tyR env x with
     | .error _ => none
     | .ok t => some t.text
def typedOf (l : List UInt8) : Bool := (tyOf [] [] l).isSome
theorem Z0m (o : Op2) (p q : Ex) : Zy (Z0 (.two o p q)) = some (.two o p q) ↔ Zy (Z0 p) = some p ∧ Zy (Z0 q) = some q := by
 have h1 : Z2h o ≠ Yy := by cases o <;> decide
 have h2 : Z2h o ≠ Yt := by cases o <;> decide
 simp only [Z0, Zy, J6]
 rw [if_neg (show ¬ Z1 (Tr.atom (Z2h o)) = Yy from h1), if_neg (show ¬ Z1 (Tr.atom (Z2h o)) = Yt from h2)]
 simp only [Yn, Z1]
 cases Zy (Z0 p) <;> cases Zy (Z0 q) <;> cases o <;> simp [Yr, Ks, Z2h]
theorem Z1b (o : Op1) (p : Ex) : Zy (Z0 (.one o p)) = some (.one o p) ↔ Zy (Z0 p) = some p := by
 have h1 : Z42 o ≠ Yy := by cases o <;> decide
 have h2 : Z42 o ≠ Yt := by cases o <;> decide
 simp only [Z0, Zy, J6]
 rw [if_neg (show ¬ Z1 (Tr.atom (Z42 o)) = Yy from h1), if_neg (show ¬ Z1 (Tr.atom (Z42 o)) = Yt from h2)]
 simp only [Yn, Z1]
 cases Zy (Z0 p) <;> cases o <;> simp [Yr, Vx, Z42]
theorem Z0f (p q r : Ex) : Zy (Z0 (.cond p q r)) = some (.cond p q r) ↔ Zy (Z0 p) = some p ∧ Zy (Z0 q) = some q ∧ Zy (Z0 r) = some r := by
 have h1 : kIf ≠ Yy := by decide
 have h2 : kIf ≠ Yt := by decide
 simp only [Z0, Zy, J6]
 rw [if_neg (show ¬ Z1 (Tr.atom kIf) = Yy from h1), if_neg (show ¬ Z1 (Tr.atom kIf) = Yt from h2)]
 simp only [Yn, Z1]
 cases Zy (Z0 p) <;> cases Zy (Z0 q) <;> cases Zy (Z0 r) <;> simp [Yr]
theorem Z0e (s : Nm) (p q : Ex) : Zy (Z0 (.lete s p q)) = some (.lete s p q) ↔ Yg s = true ∧ Zy (Z0 p) = some p ∧ Zy (Z0 q) = some q := by
 simp only [Z0, Zy, J6]
 rw [if_pos (show Z1 (Tr.atom Yy) = Yy from rfl)]
 simp only [Qb, Z1]
 cases Zy (Z0 p) <;> cases Zy (Z0 q) <;> by_cases hz : Yg s = true <;> simp [hz]
theorem Vj (f s : Nm) (A B : Tr) (p : Ex) : Zy (Z0 (.func f s A B p)) = some (.func f s A B p) ↔ (Yg f && Yg s && !(f == s) && X5 A && X5 B) = true ∧ Zy (Z0 p) = some p := by
 have h1 : Yt ≠ Yy := by decide
 simp only [Z0, Zy, J6]
 rw [if_neg (show ¬ Z1 (Tr.atom Yt) = Yy from h1), if_pos (show Z1 (Tr.atom Yt) = Yt from rfl)]
 simp only [Xc]
 show (if (Yg f && Yg s && !(f == s) && X5 A && X5 B) = true then (match Zy (Z0 p) with | none => none | some e' => some (Ex.func f s A B e')) else none) = some (Ex.func f s A B p) ↔ _
 split
 · rename_i hz
   cases Zy (Z0 p) with
   | none => simp
   | some v =>
     simp only [Option.some.injEq, Ex.func.injEq, true_and]
     exact ⟨fun h => ⟨hz, h⟩, fun h => h.2⟩
 · rename_i hz
   exact ⟨(fun h => by cases h), fun h => absurd h.1 hz⟩
def good (x : Ex) : Prop := Zy (Z0 x) = some x
theorem good_nm {s : Nm} (h : good (.name s)) : Yg s = true := by
 unfold good at h
 simp only [Z0, Zy, Q8] at h
 cases hn : Q3 s with
 | some n => simp [hn] at h
 | none =>
   simp only [hn] at h
   split at h
   · assumption
   · cases h
theorem good_num {n : Int} (h : good (.num n)) : Yg (Lib.itoa n) = false ∧ Q3 (Lib.itoa n) = some n := by
 unfold good at h
 simp only [Z0, Zy, Q8] at h
 cases hn : Q3 (Lib.itoa n) with
 | some m =>
   simp only [hn, Option.some.injEq, Ex.num.injEq] at h
   subst h
   exact ⟨Vy hn, rfl⟩
 | none =>
   simp only [hn] at h
   split at h <;> cases h
theorem good_of {t : Tr} {x : Ex} (h : Zy t = some x) : good x := by unfold good; rw [X3 _ _ h]; exact h
end Go.Proofs.YtjaaalojcdbcpaaGreatDoor
