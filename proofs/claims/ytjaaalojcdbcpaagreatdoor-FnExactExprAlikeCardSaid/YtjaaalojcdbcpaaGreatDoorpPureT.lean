/- The form that an expression is written as; numerals are written as they are read. Both types of a type with a head. The plain mathematics of chapter 3: environments, types of expressions, the first fault. The type of a text, the plain mathematics. Expressions that are written as what is read as them. -/
import Derived.Test.YtjaaalojcdbcpaaGreatDoorpB3
import Derived.Lib.ItoaNum
import Derived.Test.YtjaaalojcdbcpaaGreatDoorpB1
set_option maxHeartbeats 20000000
set_option linter.unusedVariables false
set_option linter.unusedSimpArgs false
namespace Go.Proofs.YtjaaalojcdbcpaaGreatDoor
open Go.RowKit Go.Proofs.Tryz
set_option maxRecDepth 8000
def Z0 : Ex → Tr
 | .name s => .atom s
 | .num n => .atom (Lib.itoa n)
 | .two o a b => .list [.atom (Z0t o), Z0 a, Z0 b]
 | .one o a => .list [.atom (Z0u o), Z0 a]
 | .cond a b c => .list [.atom kIf, Z0 a, Z0 b, Z0 c]
 | .lete x e b => .list [.atom Yn, .atom x, Z0 e, Z0 b]
 | .func f x A B e => .list [.atom Yi, .atom f, .atom x, A, B, Z0 e]
theorem dd1 (u : Nat) (h : u < 10) : Lib.decDigits u = [UInt8.ofNat (48 + u)] := by rw [Lib.decDigits, dif_pos h]
theorem dd2 (d1 d2 : Nat) (h1 : 1 ≤ d1) (h1' : d1 < 10) (h2 : d2 < 10) : Lib.decDigits (d1 * 10 + d2) = [UInt8.ofNat (48 + d1), UInt8.ofNat (48 + d2)] := by
 rw [Lib.decDigits, dif_neg (by omega), show (d1 * 10 + d2) / 10 = d1 by omega, show (d1 * 10 + d2) % 10 = d2 by omega, dd1 d1 h1']; rfl
theorem dd3 (d1 d2 d3 : Nat) (h1 : 1 ≤ d1) (h1' : d1 < 10) (h2 : d2 < 10) (h3 : d3 < 10) : Lib.decDigits ((d1 * 10 + d2) * 10 + d3) = [UInt8.ofNat (48 + d1), UInt8.ofNat (48 + d2), UInt8.ofNat (48 + d3)] := by
 rw [Lib.decDigits, dif_neg (by omega), show ((d1 * 10 + d2) * 10 + d3) / 10 = d1 * 10 + d2 by omega, show ((d1 * 10 + d2) * 10 + d3) % 10 = d3 by omega, dd2 d1 d2 h1 h1' h2]; rfl
theorem Qh {b : UInt8} {d : Nat} (h : Lib.digitVal b = some d) : d < 10 ∧ UInt8.ofNat (48 + d) = b := by
 unfold Lib.digitVal at h
 split at h
 · rename_i hb
   simp only [Option.some.injEq] at h
   refine ⟨by omega, ?_⟩
   rw [← h, show 48 + (b.toNat - 48) = b.toNat by omega]
   exact UInt8.ofNat_toNat
 · cases h
theorem dec_back {l : List UInt8} {m : Nat} (h1 : 1 ≤ l.length) (h3 : l.length ≤ 3) (h0 : l.head? ≠ some 48) (h : Lib.decFrom 0 l = some m) : Lib.decDigits m = l ∧ 1 ≤ m := by
 match l, h1, h3 with
 | [a], _, _ =>
   simp only [Lib.decFrom] at h
   cases ha : Lib.digitVal a with
   | none => simp [ha] at h
   | some d =>
     simp only [ha, Option.some.injEq] at h
     obtain ⟨e1, e2⟩ := Qh ha
     have hd : d ≠ 0 := fun e => by subst e; apply h0; rw [← e2]; rfl
     subst h
     rw [show 0 * 10 + d = d by omega, dd1 d e1, e2]
     exact ⟨rfl, by omega⟩
 | [a, b], _, _ =>
   simp only [Lib.decFrom] at h
   cases ha : Lib.digitVal a with
   | none => simp [ha] at h
   | some d =>
     cases hb : Lib.digitVal b with
     | none => simp [ha, hb] at h
     | some f =>
       simp only [ha, hb, Option.some.injEq] at h
       obtain ⟨e1, e2⟩ := Qh ha
       obtain ⟨f1, f2⟩ := Qh hb
       have hd : d ≠ 0 := fun e => by subst e; apply h0; rw [← e2]; rfl
       subst h
       rw [show (0 * 10 + d) * 10 + f = d * 10 + f by omega, dd2 d f (by omega) e1 f1, e2, f2]
       exact ⟨rfl, by omega⟩
 | [a, b, c], _, _ =>
   simp only [Lib.decFrom] at h
   cases ha : Lib.digitVal a with
   | none => simp [ha] at h
   | some d =>
     cases hb : Lib.digitVal b with
     | none => simp [ha, hb] at h
     | some f =>
       cases hc : Lib.digitVal c with
       | none => simp [ha, hb, hc] at h
       | some g =>
         simp only [ha, hb, hc, Option.some.injEq] at h
         obtain ⟨e1, e2⟩ := Qh ha
         obtain ⟨f1, f2⟩ := Qh hb
         obtain ⟨g1, g2⟩ := Qh hc
         have hd : d ≠ 0 := fun e => by subst e; apply h0; rw [← e2]; rfl
         subst h
         rw [show ((0 * 10 + d) * 10 + f) * 10 + g = (d * 10 + f) * 10 + g by omega, dd3 d f g (by omega) e1 f1 g1, e2, f2, g2]
         exact ⟨rfl, by omega⟩
theorem numOf_itoa {a : List UInt8} {n : Int} (h : Xl a = some n) : Lib.itoa n = a := by
 unfold Xl at h
 split at h
 · rename_i ha
   simp only [Option.some.injEq] at h
   subst h; subst ha
   rw [Lib.itoa, if_neg (by omega)]
   exact dd1 0 (by omega)
 · split at h
   · rename_i hd
     simp only [Option.map_eq_some_iff] at h
     obtain ⟨m, hm, rfl⟩ := h
     obtain ⟨e1, e2⟩ := dec_back hd.1 hd.2.1 hd.2.2 hm
     cases a with
     | nil => simp [Ze] at hd
     | cons b r =>
       simp only [Ze, J9] at e1 ⊢
       by_cases hb : b = 45
       · subst hb
         simp only [if_true] at e1 ⊢
         rw [Lib.itoa, if_pos (by omega), show (-1 * (m : Int)).natAbs = m by omega, e1]
       · rw [if_neg hb] at e1 ⊢
         rw [Lib.itoa, if_neg (by omega), show (1 * (m : Int)).toNat = m by omega, e1]
   · cases h
theorem numOf_range {a : List UInt8} {n : Int} (h : Xl a = some n) : -1000 < n ∧ n < 1000 := by
 unfold Xl at h
 split at h
 · simp only [Option.some.injEq] at h; omega
 · split at h
   · rename_i hd
     simp only [Option.map_eq_some_iff] at h
     obtain ⟨m, hm, rfl⟩ := h
     have hb := Ji _ _ _ hm
     have hl : 10 ^ (Ze a).length ≤ 10 ^ 3 := Nat.pow_le_pow_right (by omega) hd.2.1
     have : m < 1000 := by omega
     unfold J9
     split
     · omega
     · split <;> omega
   · cases h
theorem Ka {t : Tr} (h : Z1 t ≠ []) : t = .atom (Z1 t) := by
 cases t with
 | atom a => rfl
 | list ts => exact absurd rfl h
theorem nm_ne {a : List UInt8} (h : Y4 a = true) : a ≠ [] := fun e => by subst e; cases h
theorem op2N_ne (o : Op2) : Z0t o ≠ [] := by cases o <;> simp [Z0t]
theorem op1N_ne (o : Op1) : Z0u o ≠ [] := by cases o <;> simp [Z0u]
mutual
theorem Xf : ∀ (t : Tr) (x : Ex), Zt t = some x → Z0 x = t
 | .atom a, x, h => by
   simp only [Zt, Xt] at h
   cases hn : Xl a with
   | some n =>
     simp only [hn, Option.some.injEq] at h
     subst h
     simp only [Z0, numOf_itoa hn]
   | none =>
     simp only [hn] at h
     split at h
     · simp only [Option.some.injEq] at h; subst h; rfl
     · cases h
 | .list [], x, h => by simp [Zt, Q5] at h
 | .list (h0 :: ps), x, h => by
   simp only [Zt, Q5] at h
   split at h
   · rename_i hl
     have hh := Ka (t := h0) (by rw [hl]; simp [Yn])
     rw [hl] at hh
     subst hh
     match ps, h with
     | [x0, e0, b0], h =>
       simp only [Xk] at h
       split at h
       · rename_i hx
         split at h
         · cases h
         · rename_i e' he
           split at h
           · cases h
           · rename_i b' hb
             simp only [Option.some.injEq] at h
             subst h
             simp only [Z0, Xf e0 e' he, Xf b0 b' hb]
             rw [← Ka (nm_ne hx)]
       · cases h
     | [], h => cases h
     | [_], h => cases h
     | [_, _], h => cases h
     | _ :: _ :: _ :: _ :: _, h => cases h
   · split at h
     · rename_i hl
       have hh := Ka (t := h0) (by rw [hl]; simp [Yi])
       rw [hl] at hh
       subst hh
       match ps, h with
       | [f0, x0, A0, B0, e0], h =>
         simp only [Yr] at h
         split at h
         · rename_i hx
           simp only [Bool.and_eq_true] at hx
           split at h
           · cases h
           · rename_i e' he
             simp only [Option.some.injEq] at h
             subst h
             simp only [Z0, Xf e0 e' he]
             rw [← Ka (nm_ne hx.1.1.1.1), ← Ka (nm_ne hx.1.1.1.2)]
         · cases h
       | [], h => cases h
       | [_], h => cases h
       | [_, _], h => cases h
       | [_, _, _], h => cases h
       | [_, _, _, _], h => cases h
       | _ :: _ :: _ :: _ :: _ :: _ :: _, h => cases h
     · cases hk : Y3 ps with
       | none => simp [hk] at h
       | some es =>
         simp only [hk, Option.bind_some] at h
         have hp := Z2x ps es hk
         match es, h, hp with
         | [], h, hp => cases h
         | [a], h, hp =>
           simp only [Yd, Option.map_eq_some_iff] at h
           obtain ⟨o, ho, rfl⟩ := h
           have hn := op1Of_name ho
           have hh := Ka (t := h0) (by rw [← hn]; exact op1N_ne o)
           rw [hh, ← hp, ← hn]; rfl
         | [a, b], h, hp =>
           simp only [Yd, Option.map_eq_some_iff] at h
           obtain ⟨o, ho, rfl⟩ := h
           have hn := op2Of_name ho
           have hh := Ka (t := h0) (by rw [← hn]; exact op2N_ne o)
           rw [hh, ← hp, ← hn]; rfl
         | [a, b, c], h, hp =>
           simp only [Yd] at h
           split at h
           · rename_i hi
             simp only [Option.some.injEq] at h
             subst h
             have hh := Ka (t := h0) (by rw [hi]; simp [kIf])
             rw [hh, ← hp, hi]; rfl
           · cases h
         | _ :: _ :: _ :: _ :: _, h, hp => cases h
theorem Z2x : ∀ (ts : List Tr) (es : List Ex), Y3 ts = some es → es.map Z0 = ts
 | [], es, h => by simp only [Y3, Option.some.injEq] at h; subst h; rfl
 | t :: ts, es, h => by
   simp only [Y3] at h
   split at h
   · cases h
   · rename_i e he
     split at h
     · cases h
     · rename_i es' hs
       simp only [Option.some.injEq] at h
       subst h
       simp only [List.map_cons, Xf t e he, Z2x ts es' hs]
end
def sidesTr (c : UInt8) : Tr → Option (Tr × Tr)
 | .list [x, a, b] => if Z1 x = [c] then some (a, b) else none
 | _ => none
abbrev Env := List (Nm × Tr)
def lookE : List (Nm × Tr) → Nm → Option Tr
 | [], _ => none
 | (n, t) :: env, s => if n = s then some t else lookE env s
def tI : Tr := .atom [105]
def isNumT : Tr → Bool
 | .atom _ => true
 | .list _ => false
def mkT (c : UInt8) (a b : Tr) : Option Tr := if 1 + a.size + b.size ≤ 16 then some (.list [.atom [c], a, b]) else none
def join2 (o : Op2) (a b : Tr) : Option Tr :=
 match o with
 | .call => match sidesTr 62 a with | some (x, y) => if x.text = b.text then some y else none | none => none
 | .pair => mkT 42 a b
 | _ => if isNumT a = true ∧ isNumT b = true then some tI else none
def join1 (o : Op1) (a : Tr) : Option Tr :=
 match o with
 | .fst => (sidesTr 42 a).map (fun p => p.1)
 | .snd => (sidesTr 42 a).map (fun p => p.2)
def orBad (x : Ex) : Option Tr → Except Ex Tr
 | some t => .ok t
 | none => .error x
def tyR (env : List (Nm × Tr)) : Ex → Except Ex Tr
 | .name s => orBad (.name s) (lookE env s)
 | .num n => .ok tI
 | .two o a b => match tyR env a with | .error f => .error f | .ok ta => match tyR env b with | .error f => .error f | .ok tb => orBad (.two o a b) (join2 o ta tb)
 | .one o a => match tyR env a with | .error f => .error f | .ok ta => orBad (.one o a) (join1 o ta)
 | .cond a b c => match tyR env a with | .error f => .error f | .ok ta => match tyR env b with | .error f => .error f | .ok tb => match tyR env c with | .error f => .error f | .ok tc => orBad (.cond a b c) (if isNumT ta = true ∧ tb.text = tc.text then some tb else none)
 | .lete x e b => match tyR env e with | .error f => .error f | .ok t => tyR ((x, t) :: env) b
 | .func f x A B e => match mkT 62 A B with | none => .error (.func f x A B e) | some T => match tyR ((x, A) :: (f, T) :: env) e with | .error g => .error g | .ok t => orBad (.func f x A B e) (if t.text = B.text then some T else none)
def tyEx : Ex → Prop
 | .name _ => True
 | .num _ => True
 | .two _ a b => tyEx a ∧ tyEx b
 | .one _ a => tyEx a
 | .cond a b c => tyEx a ∧ tyEx b ∧ tyEx c
 | .lete _ e b => tyEx e ∧ tyEx b
 | .func _ _ A B e => Xr A = true ∧ Xr B = true ∧ tyEx e
def envOK (env : List (Nm × Tr)) : Prop := ∀ p ∈ env, Xr p.2 = true
theorem envOK.cons {env : List (Nm × Tr)} {s : Nm} {t : Tr} (h : envOK env) (ht : Xr t = true) : envOK ((s, t) :: env) := fun p hp => by
 rcases List.mem_cons.1 hp with rfl | hp
 · exact ht
 · exact h p hp
theorem isTyL_got {t : Tr} (h : Xr t = true) : Xs t = true ∧ t.size ≤ 16 := by simpa [Xr] using h
theorem Z1t {t : Tr} (h : Xr t = true) : t.wf ∧ t.bytes ≤ 80 ∧ t.depth ≤ 16 ∧ t.size ≤ 16 ∧ Xs t = true := by
 obtain ⟨h1, h2⟩ := isTyL_got h
 obtain ⟨a, b, c⟩ := Ku _ _ (Nat.le_refl _) h1
 exact ⟨c, by omega, by omega, h2, h1⟩
def envAdd : List (Nm × Tr) → List Nm → List (List UInt8) → Option (List (Nm × Tr))
 | env, n :: ns, t :: ts => match Z1a t with | none => none | some u => if Y4 n = true then envAdd ((n, u) :: env) ns ts else none
 | env, [], [] => some env
 | _, _, _ => none
def envOf (ns : List Nm) (ts : List (List UInt8)) : Option (List (Nm × Tr)) := if ns.length ≤ 8 ∧ ns.length = ts.length then envAdd [] ns ts else none
def lookOf (ns : List Nm) (ts : List (List UInt8)) (s : Nm) : Option (List UInt8) := (envOf ns ts).bind (fun e => (lookE e s).map Tr.text)
def envN (env : List (Nm × Tr)) : List Nm := (env.map (fun p => p.1)).reverse
def envT (env : List (Nm × Tr)) : List (List UInt8) := (env.map (fun p => p.2.text)).reverse
def lookK (ns : List Nm) (ts : List (List UInt8)) (s : Nm) : Nat → List UInt8
 | 0 => []
 | k + 1 => if ns.getD k [] = s then ts.getD k [] else lookK ns ts s k
def tyOf (ns : List Nm) (ts : List (List UInt8)) (l : List UInt8) : Option (List UInt8) :=
 match envOf ns ts with
 | none => none
 | some env => match Zy l with
   | none => none
   | some x => match tyR env x with
     | .error _ => none
     | .ok t => some t.text
def typedOf (l : List UInt8) : Bool := (tyOf [] [] l).isSome
theorem Z10 (o : Op2) (p q : Ex) : Zt (Z0 (.two o p q)) = some (.two o p q) ↔ Zt (Z0 p) = some p ∧ Zt (Z0 q) = some q := by
 have h1 : Z0t o ≠ Yn := by cases o <;> decide
 have h2 : Z0t o ≠ Yi := by cases o <;> decide
 simp only [Z0, Zt, Q5]
 rw [if_neg (show ¬ Z1 (Tr.atom (Z0t o)) = Yn from h1), if_neg (show ¬ Z1 (Tr.atom (Z0t o)) = Yi from h2)]
 simp only [Y3, Z1]
 cases Zt (Z0 p) <;> cases Zt (Z0 q) <;> cases o <;> simp [Yd, Qy, Z0t]
theorem Z11 (o : Op1) (p : Ex) : Zt (Z0 (.one o p)) = some (.one o p) ↔ Zt (Z0 p) = some p := by
 have h1 : Z0u o ≠ Yn := by cases o <;> decide
 have h2 : Z0u o ≠ Yi := by cases o <;> decide
 simp only [Z0, Zt, Q5]
 rw [if_neg (show ¬ Z1 (Tr.atom (Z0u o)) = Yn from h1), if_neg (show ¬ Z1 (Tr.atom (Z0u o)) = Yi from h2)]
 simp only [Y3, Z1]
 cases Zt (Z0 p) <;> cases o <;> simp [Yd, Jm, Z0u]
theorem Vy (p q r : Ex) : Zt (Z0 (.cond p q r)) = some (.cond p q r) ↔ Zt (Z0 p) = some p ∧ Zt (Z0 q) = some q ∧ Zt (Z0 r) = some r := by
 have h1 : kIf ≠ Yn := by decide
 have h2 : kIf ≠ Yi := by decide
 simp only [Z0, Zt, Q5]
 rw [if_neg (show ¬ Z1 (Tr.atom kIf) = Yn from h1), if_neg (show ¬ Z1 (Tr.atom kIf) = Yi from h2)]
 simp only [Y3, Z1]
 cases Zt (Z0 p) <;> cases Zt (Z0 q) <;> cases Zt (Z0 r) <;> simp [Yd]
theorem Vw (s : Nm) (p q : Ex) : Zt (Z0 (.lete s p q)) = some (.lete s p q) ↔ Y4 s = true ∧ Zt (Z0 p) = some p ∧ Zt (Z0 q) = some q := by
 simp only [Z0, Zt, Q5]
 rw [if_pos (show Z1 (Tr.atom Yn) = Yn from rfl)]
 simp only [Xk, Z1]
 cases Zt (Z0 p) <;> cases Zt (Z0 q) <;> by_cases hz : Y4 s = true <;> simp [hz]
theorem Vx (f s : Nm) (A B : Tr) (p : Ex) : Zt (Z0 (.func f s A B p)) = some (.func f s A B p) ↔ (Y4 f && Y4 s && !(f == s) && Xr A && Xr B) = true ∧ Zt (Z0 p) = some p := by
 have h1 : Yi ≠ Yn := by decide
 simp only [Z0, Zt, Q5]
 rw [if_neg (show ¬ Z1 (Tr.atom Yi) = Yn from h1), if_pos (show Z1 (Tr.atom Yi) = Yi from rfl)]
 simp only [Yr]
 show (if (Y4 f && Y4 s && !(f == s) && Xr A && Xr B) = true then (match Zt (Z0 p) with | none => none | some e' => some (Ex.func f s A B e')) else none) = some (Ex.func f s A B p) ↔ _
 split
 · rename_i hz
   cases Zt (Z0 p) with
   | none => simp
   | some v =>
     simp only [Option.some.injEq, Ex.func.injEq, true_and]
     exact ⟨fun h => ⟨hz, h⟩, fun h => h.2⟩
 · rename_i hz
   exact ⟨(fun h => by cases h), fun h => absurd h.1 hz⟩
def good (x : Ex) : Prop := Zt (Z0 x) = some x
theorem good_nm {s : Nm} (h : good (.name s)) : Y4 s = true := by
 unfold good at h
 simp only [Z0, Zt, Xt] at h
 cases hn : Xl s with
 | some n => simp [hn] at h
 | none =>
   simp only [hn] at h
   split at h
   · assumption
   · cases h
theorem good_num {n : Int} (h : good (.num n)) : Y4 (Lib.itoa n) = false ∧ Xl (Lib.itoa n) = some n := by
 unfold good at h
 simp only [Z0, Zt, Xt] at h
 cases hn : Xl (Lib.itoa n) with
 | some m =>
   simp only [hn, Option.some.injEq, Ex.num.injEq] at h
   subst h
   exact ⟨K5 hn, rfl⟩
 | none =>
   simp only [hn] at h
   split at h <;> cases h
theorem good_of {t : Tr} {x : Ex} (h : Zt t = some x) : good x := by unfold good; rw [Xf _ _ h]; exact h
end Go.Proofs.YtjaaalojcdbcpaaGreatDoor
