/- The form that an expression is written as; numerals are written as they are read. Both types of a type with a head. The plain mathematics of chapter 3: environments, types of expressions, the first fault. The type of a text, the plain mathematics. Expressions that are written as what is read as them. -/
import Derived.Test.YtfknoigbkleanaaGreatDoorxB3
import Derived.Lib.ItoaNum
import Derived.Test.YtfknoigbkleanaaGreatDoorxB1
namespace Go.Proofs.YtfknoigbkleanaaGreatDoor
open Go.RowKit Go.Proofs.Tryz
set_option maxRecDepth 8000
set_option maxHeartbeats 20000000
set_option linter.unusedVariables false
set_option linter.unusedSimpArgs false
def Z3 : Ex → Tr
 | .name s => .atom s
 | .num n => .atom (Lib.itoa n)
 | .two o a b => .list [.atom (Z1y o), Z3 a, Z3 b]
 | .one o a => .list [.atom (Z3l o), Z3 a]
 | .cond a b c => .list [.atom kIf, Z3 a, Z3 b, Z3 c]
 | .lete x e b => .list [.atom Qq, .atom x, Z3 e, Z3 b]
 | .func f x A B e => .list [.atom Qd, .atom f, .atom x, A, B, Z3 e]
theorem dd1 (u : Nat) (h : u < 10) : Lib.decDigits u = [UInt8.ofNat (48 + u)] := by rw [Lib.decDigits, dif_pos h]
theorem dd2 (d1 d2 : Nat) (h1 : 1 ≤ d1) (h1' : d1 < 10) (h2 : d2 < 10) : Lib.decDigits (d1 * 10 + d2) = [UInt8.ofNat (48 + d1), UInt8.ofNat (48 + d2)] := by
 rw [Lib.decDigits, dif_neg (by omega), show (d1 * 10 + d2) / 10 = d1 by omega, show (d1 * 10 + d2) % 10 = d2 by omega, dd1 d1 h1']; rfl
theorem dd3 (d1 d2 d3 : Nat) (h1 : 1 ≤ d1) (h1' : d1 < 10) (h2 : d2 < 10) (h3 : d3 < 10) : Lib.decDigits ((d1 * 10 + d2) * 10 + d3) = [UInt8.ofNat (48 + d1), UInt8.ofNat (48 + d2), UInt8.ofNat (48 + d3)] := by
 rw [Lib.decDigits, dif_neg (by omega), show ((d1 * 10 + d2) * 10 + d3) / 10 = d1 * 10 + d2 by omega, show ((d1 * 10 + d2) * 10 + d3) % 10 = d3 by omega, dd2 d1 d2 h1 h1' h2]; rfl
theorem Jq {b : UInt8} {d : Nat} (h : Lib.digitVal b = some d) : d < 10 ∧ UInt8.ofNat (48 + d) = b := by
 unfold Lib.digitVal at h
 split at h
 · rename_i hb
   simp only [Option.some.injEq] at h
   refine ⟨by omega, ?_⟩
   rw [← h, show 48 + (b.toNat - 48) = b.toNat by omega]
   exact UInt8.ofNat_toNat
 · cases h
theorem dec_back {l : List UInt8} {m : Nat} (h1 : 1 ≤ l.length) (h3 : l.length ≤ 3) (h0 : l.head? ≠ some 48) (h : Lib.decFrom 0 l = some m) : Lib.decDigits m = l ∧ 1 ≤ m := by
 match l, h1, h3 with
 | [a], _, _ =>
   simp only [Lib.decFrom] at h
   cases ha : Lib.digitVal a with
   | none => simp [ha] at h
   | some d =>
     simp only [ha, Option.some.injEq] at h
     obtain ⟨e1, e2⟩ := Jq ha
     have hd : d ≠ 0 := fun e => by subst e; apply h0; rw [← e2]; rfl
     subst h
     rw [show 0 * 10 + d = d by omega, dd1 d e1, e2]
     exact ⟨rfl, by omega⟩
 | [a, b], _, _ =>
   simp only [Lib.decFrom] at h
   cases ha : Lib.digitVal a with
   | none => simp [ha] at h
   | some d =>
     cases hb : Lib.digitVal b with
     | none => simp [ha, hb] at h
     | some f =>
       simp only [ha, hb, Option.some.injEq] at h
       obtain ⟨e1, e2⟩ := Jq ha
       obtain ⟨f1, f2⟩ := Jq hb
       have hd : d ≠ 0 := fun e => by subst e; apply h0; rw [← e2]; rfl
       subst h
       rw [show (0 * 10 + d) * 10 + f = d * 10 + f by omega, dd2 d f (by omega) e1 f1, e2, f2]
       exact ⟨rfl, by omega⟩
 | [a, b, c], _, _ =>
   simp only [Lib.decFrom] at h
   cases ha : Lib.digitVal a with
   | none => simp [ha] at h
   | some d =>
     cases hb : Lib.digitVal b with
     | none => simp [ha, hb] at h
     | some f =>
       cases hc : Lib.digitVal c with
       | none => simp [ha, hb, hc] at h
       | some g =>
         simp only [ha, hb, hc, Option.some.injEq] at h
         obtain ⟨e1, e2⟩ := Jq ha
         obtain ⟨f1, f2⟩ := Jq hb
         obtain ⟨g1, g2⟩ := Jq hc
         have hd : d ≠ 0 := fun e => by subst e; apply h0; rw [← e2]; rfl
         subst h
         rw [show ((0 * 10 + d) * 10 + f) * 10 + g = (d * 10 + f) * 10 + g by omega, dd3 d f g (by omega) e1 f1 g1, e2, f2, g2]
         exact ⟨rfl, by omega⟩
theorem numOf_itoa {a : List UInt8} {n : Int} (h : Qb a = some n) : Lib.itoa n = a := by
 unfold Qb at h
 split at h
 · rename_i ha
   simp only [Option.some.injEq] at h
   subst h; subst ha
   rw [Lib.itoa, if_neg (by omega)]
   exact dd1 0 (by omega)
 · split at h
   · rename_i hd
     simp only [Option.map_eq_some_iff] at h
     obtain ⟨m, hm, rfl⟩ := h
     obtain ⟨e1, e2⟩ := dec_back hd.1 hd.2.1 hd.2.2 hm
     cases a with
     | nil => simp [Zi] at hd
     | cons b r =>
       simp only [Zi, Kx] at e1 ⊢
       by_cases hb : b = 45
       · subst hb
         simp only [if_true] at e1 ⊢
         rw [Lib.itoa, if_pos (by omega), show (-1 * (m : Int)).natAbs = m by omega, e1]
       · rw [if_neg hb] at e1 ⊢
         rw [Lib.itoa, if_neg (by omega), show (1 * (m : Int)).toNat = m by omega, e1]
   · cases h
theorem numOf_range {a : List UInt8} {n : Int} (h : Qb a = some n) : -1000 < n ∧ n < 1000 := by
 unfold Qb at h
 split at h
 · simp only [Option.some.injEq] at h; omega
 · split at h
   · rename_i hd
     simp only [Option.map_eq_some_iff] at h
     obtain ⟨m, hm, rfl⟩ := h
     have hb := V9 _ _ _ hm
     have hl : 10 ^ (Zi a).length ≤ 10 ^ 3 := Nat.pow_le_pow_right (by omega) hd.2.1
     have : m < 1000 := by omega
     unfold Kx
     split
     · omega
     · split <;> omega
   · cases h
theorem Z0f {t : Tr} (h : Z0 t ≠ []) : t = .atom (Z0 t) := by
 cases t with
 | atom a => rfl
 | list ts => exact absurd rfl h
theorem nm_ne {a : List UInt8} (h : Yi a = true) : a ≠ [] := fun e => by subst e; cases h
theorem op2N_ne (o : Op2) : Z1y o ≠ [] := by cases o <;> simp [Z1y]
theorem op1N_ne (o : Op1) : Z3l o ≠ [] := by cases o <;> simp [Z3l]
mutual
theorem Jw : ∀ (t : Tr) (x : Ex), Ye t = some x → Z3 x = t
 | .atom a, x, h => by
   simp only [Ye, Qh] at h
   cases hn : Qb a with
   | some n =>
     simp only [hn, Option.some.injEq] at h
     subst h
     simp only [Z3, numOf_itoa hn]
   | none =>
     simp only [hn] at h
     split at h
     · simp only [Option.some.injEq] at h; subst h; rfl
     · cases h
 | .list [], x, h => by simp [Ye, Qo] at h
 | .list (h0 :: ps), x, h => by
   simp only [Ye, Qo] at h
   split at h
   · rename_i hl
     have hh := Z0f (t := h0) (by rw [hl]; simp [Qq])
     rw [hl] at hh
     subst hh
     match ps, h with
     | [x0, e0, b0], h =>
       simp only [Q4] at h
       split at h
       · rename_i hx
         split at h
         · cases h
         · rename_i e' he
           split at h
           · cases h
           · rename_i b' hb
             simp only [Option.some.injEq] at h
             subst h
             simp only [Z3, Jw e0 e' he, Jw b0 b' hb]
             rw [← Z0f (nm_ne hx)]
       · cases h
     | [], h => cases h
     | [_], h => cases h
     | [_, _], h => cases h
     | _ :: _ :: _ :: _ :: _, h => cases h
   · split at h
     · rename_i hl
       have hh := Z0f (t := h0) (by rw [hl]; simp [Qd])
       rw [hl] at hh
       subst hh
       match ps, h with
       | [f0, x0, A0, B0, e0], h =>
         simp only [X9] at h
         split at h
         · rename_i hx
           simp only [Bool.and_eq_true] at hx
           split at h
           · cases h
           · rename_i e' he
             simp only [Option.some.injEq] at h
             subst h
             simp only [Z3, Jw e0 e' he]
             rw [← Z0f (nm_ne hx.1.1.1.1), ← Z0f (nm_ne hx.1.1.1.2)]
         · cases h
       | [], h => cases h
       | [_], h => cases h
       | [_, _], h => cases h
       | [_, _, _], h => cases h
       | [_, _, _, _], h => cases h
       | _ :: _ :: _ :: _ :: _ :: _ :: _, h => cases h
     · cases hk : Yg ps with
       | none => simp [hk] at h
       | some es =>
         simp only [hk, Option.bind_some] at h
         have hp := Z7h ps es hk
         match es, h, hp with
         | [], h, hp => cases h
         | [a], h, hp =>
           simp only [Yj, Option.map_eq_some_iff] at h
           obtain ⟨o, ho, rfl⟩ := h
           have hn := op1Of_name ho
           have hh := Z0f (t := h0) (by rw [← hn]; exact op1N_ne o)
           rw [hh, ← hp, ← hn]; rfl
         | [a, b], h, hp =>
           simp only [Yj, Option.map_eq_some_iff] at h
           obtain ⟨o, ho, rfl⟩ := h
           have hn := op2Of_name ho
           have hh := Z0f (t := h0) (by rw [← hn]; exact op2N_ne o)
           rw [hh, ← hp, ← hn]; rfl
         | [a, b, c], h, hp =>
           simp only [Yj] at h
           split at h
           · rename_i hi
             simp only [Option.some.injEq] at h
             subst h
             have hh := Z0f (t := h0) (by rw [hi]; simp [kIf])
             rw [hh, ← hp, hi]; rfl
           · cases h
         | _ :: _ :: _ :: _ :: _, h, hp => cases h
theorem Z7h : ∀ (ts : List Tr) (es : List Ex), Yg ts = some es → es.map Z3 = ts
 | [], es, h => by simp only [Yg, Option.some.injEq] at h; subst h; rfl
 | t :: ts, es, h => by
   simp only [Yg] at h
   split at h
   · cases h
   · rename_i e he
     split at h
     · cases h
     · rename_i es' hs
       simp only [Option.some.injEq] at h
       subst h
       simp only [List.map_cons, Jw t e he, Z7h ts es' hs]
end
def Yk (c : UInt8) : Tr → Option (Tr × Tr)
 | .list [x, a, b] => if Z0 x = [c] then some (a, b) else none
 | _ => none
theorem sidesTr_atom (c : UInt8) (a : List UInt8) : Yk c (.atom a) = none := rfl
theorem Vb {c : UInt8} {x a b : Tr} (h : Z0 x = [c]) : Yk c (.list [x, a, b]) = some (a, b) := by simp [Yk, h]
theorem Z6r {c : UInt8} {x a b : Tr} (h : ¬ Z0 x = [c]) : Yk c (.list [x, a, b]) = none := by simp [Yk, h]
abbrev Env := List (Nm × Tr)
def Xi : List (Nm × Tr) → Nm → Option Tr
 | [], _ => none
 | (n, t) :: env, s => if n = s then some t else Xi env s
def tI : Tr := .atom [105]
def Ya : Tr → Bool
 | .atom _ => true
 | .list _ => false
def mkT (c : UInt8) (a b : Tr) : Option Tr := if 1 + a.size + b.size ≤ 16 then some (.list [.atom [c], a, b]) else none
def Yv (o : Op2) (a b : Tr) : Option Tr :=
 match o with
 | .call => match Yk 62 a with | some (x, y) => if x.text = b.text then some y else none | none => none
 | .pair => mkT 42 a b
 | _ => if Ya a = true ∧ Ya b = true then some tI else none
def J4 (o : Op1) (a : Tr) : Option Tr :=
 match o with
 | .fst => (Yk 42 a).map (fun p => p.1)
 | .snd => (Yk 42 a).map (fun p => p.2)
def Kw (x : Ex) : Option Tr → Except Ex Tr
 | some t => .ok t
 | none => .error x
def tyR (env : List (Nm × Tr)) : Ex → Except Ex Tr
 | .name s => Kw (.name s) (Xi env s)
 | .num n => .ok tI
 | .two o a b => match tyR env a with | .error f => .error f | .ok ta => match tyR env b with | .error f => .error f | .ok tb => Kw (.two o a b) (Yv o ta tb)
 | .one o a => match tyR env a with | .error f => .error f | .ok ta => Kw (.one o a) (J4 o ta)
 | .cond a b c => match tyR env a with | .error f => .error f | .ok ta => match tyR env b with | .error f => .error f | .ok tb => match tyR env c with | .error f => .error f | .ok tc => Kw (.cond a b c) (if Ya ta = true ∧ tb.text = tc.text then some tb else none)
 | .lete x e b => match tyR env e with | .error f => .error f | .ok t => tyR ((x, t) :: env) b
 | .func f x A B e => match mkT 62 A B with | none => .error (.func f x A B e) | some T => match tyR ((x, A) :: (f, T) :: env) e with | .error g => .error g | .ok t => Kw (.func f x A B e) (if t.text = B.text then some T else none)
def Ko : Ex → Prop
 | .name _ => True
 | .num _ => True
 | .two _ a b => Ko a ∧ Ko b
 | .one _ a => Ko a
 | .cond a b c => Ko a ∧ Ko b ∧ Ko c
 | .lete _ e b => Ko e ∧ Ko b
 | .func _ _ A B e => Zs A = true ∧ Zs B = true ∧ Ko e
def J6 (env : List (Nm × Tr)) : Prop := ∀ p ∈ env, Zs p.2 = true
theorem J6.cons {env : List (Nm × Tr)} {s : Nm} {t : Tr} (h : J6 env) (ht : Zs t = true) : J6 ((s, t) :: env) := fun p hp => by
 rcases List.mem_cons.1 hp with rfl | hp
 · exact ht
 · exact h p hp
theorem envOK_nil : J6 [] := fun p hp => by cases hp
theorem lookE_ok {env : List (Nm × Tr)} (h : J6 env) {s : Nm} {t : Tr} (hl : Xi env s = some t) : Zs t = true := by
 induction env with
 | nil => cases hl
 | cons p env ih =>
   obtain ⟨n, u⟩ := p
   simp only [Xi] at hl
   split at hl
   · simp only [Option.some.injEq] at hl; subst hl; exact h (n, u) (by simp)
   · exact ih (fun q hq => h q (by simp [hq])) hl
theorem Yh {t : Tr} (h : Zs t = true) : Xe t = true ∧ t.size ≤ 16 := by simpa [Zs] using h
theorem Zf {t : Tr} (h : Zs t = true) : t.wf ∧ t.bytes ≤ 80 ∧ t.depth ≤ 16 ∧ t.size ≤ 16 ∧ Xe t = true := by
 obtain ⟨h1, h2⟩ := Yh h
 obtain ⟨a, b, c⟩ := Jo _ _ (Nat.le_refl _) h1
 exact ⟨c, by omega, by omega, h2, h1⟩
theorem tI_ok : Zs tI = true := by decide
theorem mkT_ok {c : UInt8} (hc : c = 62 ∨ c = 42) {a b t : Tr} (ha : Zs a = true) (hb : Zs b = true) (h : mkT c a b = some t) : Zs t = true := by
 unfold mkT at h
 split at h
 · rename_i hs
   simp only [Option.some.injEq] at h
   subst h
   have hsz : (Tr.list [.atom [c], a, b]).size = 1 + (a.size + (b.size + 0)) := by simp only [Tr.size, Ys]
   have hty := made_ty hc (Yh ha).1 (Yh hb).1
   unfold Zs
   rw [hty, hsz, Bool.true_and, decide_eq_true_eq]
   omega
 · cases h
theorem sidesTr_got {c : UInt8} {t a b : Tr} (h : Yk c t = some (a, b)) : ∃ x, t = .list [x, a, b] ∧ Z0 x = [c] := by
 unfold Yk at h
 split at h
 · split at h
   · rename_i hx
     simp only [Option.some.injEq, Prod.mk.injEq] at h
     obtain ⟨rfl, rfl⟩ := h
     exact ⟨_, rfl, hx⟩
   · cases h
 · cases h
theorem Jl {c : UInt8} {t a b : Tr} (ht : Zs t = true) (h : Yk c t = some (a, b)) : Zs a = true ∧ Zs b = true := by
 obtain ⟨x, rfl, hx⟩ := sidesTr_got h
 obtain ⟨h1, h2⟩ := Yh ht
 rw [Z01] at h1
 simp only [Bool.and_eq_true] at h1
 simp only [Tr.size, Ys] at h2
 simp only [Zs, Bool.and_eq_true, decide_eq_true_eq]
 exact ⟨⟨h1.1.2, by omega⟩, h1.2, by omega⟩
theorem join2_ok {o : Op2} {a b t : Tr} (ha : Zs a = true) (hb : Zs b = true) (h : Yv o a b = some t) : Zs t = true := by
 cases o <;> simp only [Yv] at h
 · split at h
   · simp only [Option.some.injEq] at h; subst h; exact tI_ok
   · cases h
 · split at h
   · simp only [Option.some.injEq] at h; subst h; exact tI_ok
   · cases h
 · split at h
   · simp only [Option.some.injEq] at h; subst h; exact tI_ok
   · cases h
 · split at h
   · rename_i x y hs
     split at h
     · simp only [Option.some.injEq] at h; subst h; exact (Jl ha hs).2
     · cases h
   · cases h
 · exact mkT_ok (.inr rfl) ha hb h
theorem join1_ok {o : Op1} {a t : Tr} (ha : Zs a = true) (h : J4 o a = some t) : Zs t = true := by
 cases o <;> simp only [J4, Option.map_eq_some_iff] at h
 · obtain ⟨⟨x, y⟩, hs, rfl⟩ := h; exact (Jl ha hs).1
 · obtain ⟨⟨x, y⟩, hs, rfl⟩ := h; exact (Jl ha hs).2
theorem Z1x {x : Ex} {o : Option Tr} {t : Tr} : Kw x o = .ok t ↔ o = some t := by cases o <;> simp [Kw]
theorem Qa : ∀ (x : Ex) (env : List (Nm × Tr)) (t : Tr), J6 env → Ko x → tyR env x = .ok t → Zs t = true
 | .name s, env, t, he, hx, h => by simp only [tyR, Z1x] at h; exact lookE_ok he h
 | .num n, env, t, he, hx, h => by simp only [tyR, Except.ok.injEq] at h; subst h; exact tI_ok
 | .two o a b, env, t, he, hx, h => by
   simp only [tyR] at h
   split at h
   · cases h
   · rename_i ta h1
     split at h
     · cases h
     · rename_i tb h2
       rw [Z1x] at h
       exact join2_ok (Qa a env ta he hx.1 h1) (Qa b env tb he hx.2 h2) h
 | .one o a, env, t, he, hx, h => by
   simp only [tyR] at h
   split at h
   · cases h
   · rename_i ta h1
     rw [Z1x] at h
     exact join1_ok (Qa a env ta he hx h1) h
 | .cond a b c, env, t, he, hx, h => by
   simp only [tyR] at h
   split at h
   · cases h
   · split at h
     · cases h
     · rename_i tb h2
       split at h
       · cases h
       · rw [Z1x] at h
         split at h
         · simp only [Option.some.injEq] at h; subst h; exact Qa b env _ he hx.2.1 h2
         · cases h
 | .lete x e b, env, t, he, hx, h => by
   simp only [tyR] at h
   split at h
   · cases h
   · rename_i te h1
     exact Qa b _ t (he.cons (Qa e env te he hx.1 h1)) hx.2 h
 | .func f x A B e, env, t, he, hx, h => by
   simp only [tyR] at h
   split at h
   · cases h
   · rename_i T h1
     split at h
     · cases h
     · rw [Z1x] at h
       split at h
       · simp only [Option.some.injEq] at h; subst h; exact mkT_ok (.inl rfl) hx.1 hx.2.1 h1
       · cases h
mutual
theorem Vx : ∀ (t : Tr) (x : Ex), Ye t = some x → Ko x
 | .atom a, x, h => by
   simp only [Ye, Qh] at h
   split at h
   · simp only [Option.some.injEq] at h; subst h; trivial
   · split at h
     · simp only [Option.some.injEq] at h; subst h; trivial
     · cases h
 | .list [], x, h => by simp [Ye, Qo] at h
 | .list (h0 :: ps), x, h => by
   simp only [Ye, Qo] at h
   split at h
   · match ps, h with
     | [s, e, b], h =>
       simp only [Q4] at h
       split at h
       · split at h
         · cases h
         · rename_i e' he
           split at h
           · cases h
           · rename_i b' hb
             simp only [Option.some.injEq] at h; subst h
             exact ⟨Vx e e' he, Vx b b' hb⟩
       · cases h
   · split at h
     · match ps, h with
       | [f, s, A, B, e], h =>
         simp only [X9] at h
         split at h
         · rename_i hz
           split at h
           · cases h
           · rename_i e' he
             simp only [Option.some.injEq] at h; subst h
             simp only [Bool.and_eq_true] at hz
             exact ⟨hz.1.2, hz.2, Vx e e' he⟩
         · cases h
     · simp only [Option.bind_eq_some_iff] at h
       obtain ⟨es, h1, h2⟩ := h
       have hk := Z5l ps es h1
       match es, h2 with
       | [a], h2 =>
         simp only [Yj, Option.map_eq_some_iff] at h2
         obtain ⟨o, ho, rfl⟩ := h2
         exact hk a (by simp)
       | [a, b], h2 =>
         simp only [Yj, Option.map_eq_some_iff] at h2
         obtain ⟨o, ho, rfl⟩ := h2
         exact ⟨hk a (by simp), hk b (by simp)⟩
       | [a, b, c], h2 =>
         simp only [Yj] at h2
         split at h2
         · simp only [Option.some.injEq] at h2; subst h2
           exact ⟨hk a (by simp), hk b (by simp), hk c (by simp)⟩
         · cases h2
theorem Z5l : ∀ (ts : List Tr) (es : List Ex), Yg ts = some es → ∀ e ∈ es, Ko e
 | [], es, h, e, he => by simp only [Yg, Option.some.injEq] at h; subst h; cases he
 | t :: ts, es, h, e, he => by
   simp only [Yg] at h
   split at h
   · cases h
   · rename_i e' h1
     split at h
     · cases h
     · rename_i es' h2
       simp only [Option.some.injEq] at h
       subst h
       rcases List.mem_cons.1 he with rfl | he
       · exact Vx t _ h1
       · exact Z5l ts es' h2 e he
end
theorem Z1s {l : List UInt8} {x : Ex} (h : Yf l = some x) : Ko x := by
 cases hp : Zt l with
 | none => rw [Kl hp] at h; cases h
 | some t =>
   rw [J9 hp] at h
   split at h
   · exact Vx t x h
   · cases h
theorem text_inj {a b : Tr} (ha : a.wf) (hb : b.wf) (h : a.text = b.text) : a = b := by
 have e1 := Vr (a.depth + b.depth + 1) a ha (by omega) [] (fun _ _ c r' e => by cases e)
 have e2 := Vr (a.depth + b.depth + 1) b hb (by omega) [] (fun _ _ c r' e => by cases e)
 rw [← h, e1] at e2
 simpa using e2
theorem Qi {t : Tr} (h : t.wf) : t.text ≠ [] := by
 have h1 := Q5 t h
 have h2 := Zv t h
 intro e
 rw [e] at h2
 simp only [List.length_nil] at h2
 omega
theorem J8 {t : Tr} (h : Zs t = true) : Y0 t.text = some t := by
 obtain ⟨h1, h2, h3, h4, h5⟩ := Zf h
 rw [Kk (V0 h1 (by omega) (by omega)), h5]
 simp [h4]
def Qg : List (Nm × Tr) → List Nm → List (List UInt8) → Option (List (Nm × Tr))
 | env, n :: ns, t :: ts => match Y0 t with | none => none | some u => if Yi n = true then Qg ((n, u) :: env) ns ts else none
 | env, [], [] => some env
 | _, _, _ => none
def Qf (ns : List Nm) (ts : List (List UInt8)) : Option (List (Nm × Tr)) := if ns.length ≤ 8 ∧ ns.length = ts.length then Qg [] ns ts else none
theorem Z29 : ∀ (ns : List Nm) (ts : List (List UInt8)) (env : List (Nm × Tr)) (n : Nm) (t : List UInt8), ns.length = ts.length →
 Qg env (ns ++ [n]) (ts ++ [t]) = (Qg env ns ts).bind (fun e => match Y0 t with | none => none | some u => if Yi n = true then some ((n, u) :: e) else none)
 | [], [], env, n, t, _ => by
   simp only [List.nil_append, Qg, Option.bind_some]
 | m :: ns, s :: ts, env, n, t, h => by
   simp only [List.cons_append, Qg]
   cases Y0 s with
   | none => simp
   | some u =>
     by_cases hm : Yi m = true
     · simp only [hm, if_true]
       exact Z29 ns ts _ n t (by simpa using h)
     · simp [hm]
 | [], _ :: _, env, n, t, h => by simp at h
 | _ :: _, [], env, n, t, h => by simp at h
theorem envAdd_ok : ∀ (ns : List Nm) (ts : List (List UInt8)) (env e : List (Nm × Tr)), J6 env → Qg env ns ts = some e → J6 e
 | [], [], env, e, he, h => by simp only [Qg, Option.some.injEq] at h; subst h; exact he
 | [], _ :: _, env, e, he, h => by simp [Qg] at h
 | _ :: _, [], env, e, he, h => by simp [Qg] at h
 | n :: ns, t :: ts, env, e, he, h => by
   simp only [Qg] at h
   split at h
   · cases h
   · rename_i u hu
     split at h
     · exact envAdd_ok ns ts _ e (he.cons (by obtain ⟨_, _, _, _, q1, q2⟩ := Qy hu; simp [Zs, q1, q2])) h
     · cases h
theorem Z4f {ns : List Nm} {ts : List (List UInt8)} {e : List (Nm × Tr)} (h : Qf ns ts = some e) : J6 e := by
 unfold Qf at h
 split at h
 · exact envAdd_ok ns ts [] e envOK_nil h
 · cases h
def lookOf (ns : List Nm) (ts : List (List UInt8)) (s : Nm) : Option (List UInt8) := (Qf ns ts).bind (fun e => (Xi e s).map Tr.text)
def Z04 (env : List (Nm × Tr)) : List Nm := (env.map (fun p => p.1)).reverse
def Z09 (env : List (Nm × Tr)) : List (List UInt8) := (env.map (fun p => p.2.text)).reverse
theorem Vw (n : Nm) (t : Tr) (env : List (Nm × Tr)) : Z04 ((n, t) :: env) = Z04 env ++ [n] := by simp [Z04]
theorem Z0z (n : Nm) (t : Tr) (env : List (Nm × Tr)) : Z09 ((n, t) :: env) = Z09 env ++ [t.text] := by simp [Z09]
theorem Z03 (env : List (Nm × Tr)) : (Z04 env).length = env.length := by simp [Z04]
theorem Z4e (env : List (Nm × Tr)) : (Z09 env).length = env.length := by simp [Z09]
theorem Z4g : ∀ (ns : List Nm) (ts : List (List UInt8)) (env e : List (Nm × Tr)), Qg env ns ts = some e → Z04 e = Z04 env ++ ns ∧ Z09 e = Z09 env ++ ts
 | [], [], env, e, h => by simp only [Qg, Option.some.injEq] at h; subst h; simp
 | [], _ :: _, env, e, h => by simp [Qg] at h
 | _ :: _, [], env, e, h => by simp [Qg] at h
 | n :: ns, t :: ts, env, e, h => by
   simp only [Qg] at h
   split at h
   · cases h
   · rename_i u hu
     split at h
     · obtain ⟨h1, h2⟩ := Z4g ns ts _ e h
       have ht := (Qy hu).2.2.2.1
       rw [h1, h2, Vw, Z0z, ← ht]
       simp
     · cases h
theorem Z5q {ns : List Nm} {ts : List (List UInt8)} {e : List (Nm × Tr)} (h : Qf ns ts = some e) : ns = Z04 e ∧ ts = Z09 e ∧ ns.length = ts.length ∧ ns.length ≤ 8 := by
 unfold Qf at h
 split at h
 · rename_i hl
   obtain ⟨h1, h2⟩ := Z4g ns ts [] e h
   exact ⟨by simpa [Z04] using h1.symm, by simpa [Z09] using h2.symm, hl.2, hl.1⟩
 · cases h
theorem Z3c : ∀ (ns : List Nm) (ts : List (List UInt8)) (env : List (Nm × Tr)), ns.length = ts.length → (Qg env ns ts).isSome = (ns.all Yi && ts.all (fun t => (Y0 t).isSome))
 | [], [], env, _ => by simp [Qg]
 | [], _ :: _, env, h => by simp at h
 | _ :: _, [], env, h => by simp at h
 | n :: ns, t :: ts, env, h => by
   simp only [Qg, List.all_cons]
   cases Y0 t with
   | none => simp
   | some u =>
     by_cases hn : Yi n = true
     · simp only [hn, if_true, Option.isSome_some, Bool.true_and]
       exact Z3c ns ts _ (by simpa using h)
     · simp [hn]
theorem Vn (ns : List Nm) (ts : List (List UInt8)) : (Qf ns ts).isSome = (ns.all Yi && ts.all (fun t => (Y0 t).isSome) && decide (ns.length = ts.length) && decide (ns.length ≤ 8)) := by
 unfold Qf
 by_cases h : ns.length ≤ 8 ∧ ns.length = ts.length
 · rw [if_pos h, Z3c _ _ _ h.2, decide_eq_true h.2, decide_eq_true h.1]; simp
 · rw [if_neg h]
   by_cases h1 : ns.length = ts.length
   · have : ¬ ns.length ≤ 8 := fun q => h ⟨q, h1⟩
     simp [this]
   · simp [h1]
def Ve (ns : List Nm) (ts : List (List UInt8)) (s : Nm) : Nat → List UInt8
 | 0 => []
 | k + 1 => if ns.getD k [] = s then ts.getD k [] else Ve ns ts s k
theorem lookK_app (ns : List Nm) (ts : List (List UInt8)) (s n : Nm) (t : List UInt8) (h : ns.length = ts.length) : ∀ k, k ≤ ns.length → Ve (ns ++ [n]) (ts ++ [t]) s k = Ve ns ts s k
 | 0, _ => rfl
 | k + 1, hk => by
   simp only [Ve]
   rw [lookK_app ns ts s n t h k (by omega)]
   rw [List.getD_eq_getElem?_getD, List.getD_eq_getElem?_getD, List.getD_eq_getElem?_getD, List.getD_eq_getElem?_getD, List.getElem?_append_left (by omega), List.getElem?_append_left (by omega)]
theorem lookK_env (s : Nm) : ∀ env : List (Nm × Tr), Ve (Z04 env) (Z09 env) s env.length = ((Xi env s).map Tr.text).getD []
 | [] => rfl
 | (n, t) :: env => by
   have h1 := Z03 env
   have h2 := Z4e env
   rw [Vw, Z0z, List.length_cons]
   simp only [Ve]
   rw [lookK_app _ _ _ _ _ (by omega) _ (by omega), lookK_env s env]
   rw [List.getD_eq_getElem?_getD, List.getD_eq_getElem?_getD, List.getElem?_append_right (by omega), List.getElem?_append_right (by omega), h1, h2]
   simp only [Nat.sub_self, List.getElem?_cons_zero, Option.getD_some, Xi]
   by_cases h : n = s
   · simp [h]
   · simp [h]
def Vg (ns : List Nm) (ts : List (List UInt8)) (l : List UInt8) : Option (List UInt8) :=
 match Qf ns ts with
 | none => none
 | some env => match Yf l with
   | none => none
   | some x => match tyR env x with
     | .error _ => none
     | .ok t => some t.text
theorem tyOf_env {ns : List Nm} {ts : List (List UInt8)} {l : List UInt8} (h : Qf ns ts = none) : Vg ns ts l = none := by simp [Vg, h]
theorem tyOf_ex {ns : List Nm} {ts : List (List UInt8)} {l : List UInt8} (h : Yf l = none) : Vg ns ts l = none := by
 simp only [Vg, h]; split <;> rfl
theorem tyOf_bad {ns : List Nm} {ts : List (List UInt8)} {l : List UInt8} {env : List (Nm × Tr)} {x f : Ex} (h : Qf ns ts = some env) (hx : Yf l = some x) (hf : tyR env x = .error f) : Vg ns ts l = none := by simp [Vg, h, hx, hf]
theorem Z2j {ns : List Nm} {ts : List (List UInt8)} {l : List UInt8} {env : List (Nm × Tr)} {x : Ex} {t : Tr} (h : Qf ns ts = some env) (hx : Yf l = some x) (hf : tyR env x = .ok t) : Vg ns ts l = some t.text := by simp [Vg, h, hx, hf]
def typedOf (l : List UInt8) : Bool := (Vg [] [] l).isSome
theorem Z27 (o : Op2) (p q : Ex) : Ye (Z3 (.two o p q)) = some (.two o p q) ↔ Ye (Z3 p) = some p ∧ Ye (Z3 q) = some q := by
 have h1 : Z1y o ≠ Qq := by cases o <;> decide
 have h2 : Z1y o ≠ Qd := by cases o <;> decide
 simp only [Z3, Ye, Qo]
 rw [if_neg (show ¬ Z0 (Tr.atom (Z1y o)) = Qq from h1), if_neg (show ¬ Z0 (Tr.atom (Z1y o)) = Qd from h2)]
 simp only [Yg, Z0]
 cases Ye (Z3 p) <;> cases Ye (Z3 q) <;> cases o <;> simp [Yj, Jx, Z1y]
theorem Z4a (o : Op1) (p : Ex) : Ye (Z3 (.one o p)) = some (.one o p) ↔ Ye (Z3 p) = some p := by
 have h1 : Z3l o ≠ Qq := by cases o <;> decide
 have h2 : Z3l o ≠ Qd := by cases o <;> decide
 simp only [Z3, Ye, Qo]
 rw [if_neg (show ¬ Z0 (Tr.atom (Z3l o)) = Qq from h1), if_neg (show ¬ Z0 (Tr.atom (Z3l o)) = Qd from h2)]
 simp only [Yg, Z0]
 cases Ye (Z3 p) <;> cases o <;> simp [Yj, Kq, Z3l]
theorem Z2o (p q r : Ex) : Ye (Z3 (.cond p q r)) = some (.cond p q r) ↔ Ye (Z3 p) = some p ∧ Ye (Z3 q) = some q ∧ Ye (Z3 r) = some r := by
 have h1 : kIf ≠ Qq := by decide
 have h2 : kIf ≠ Qd := by decide
 simp only [Z3, Ye, Qo]
 rw [if_neg (show ¬ Z0 (Tr.atom kIf) = Qq from h1), if_neg (show ¬ Z0 (Tr.atom kIf) = Qd from h2)]
 simp only [Yg, Z0]
 cases Ye (Z3 p) <;> cases Ye (Z3 q) <;> cases Ye (Z3 r) <;> simp [Yj]
theorem Z2n (s : Nm) (p q : Ex) : Ye (Z3 (.lete s p q)) = some (.lete s p q) ↔ Yi s = true ∧ Ye (Z3 p) = some p ∧ Ye (Z3 q) = some q := by
 simp only [Z3, Ye, Qo]
 rw [if_pos (show Z0 (Tr.atom Qq) = Qq from rfl)]
 simp only [Q4, Z0]
 cases Ye (Z3 p) <;> cases Ye (Z3 q) <;> by_cases hz : Yi s = true <;> simp [hz]
theorem Z0x (f s : Nm) (A B : Tr) (p : Ex) : Ye (Z3 (.func f s A B p)) = some (.func f s A B p) ↔ (Yi f && Yi s && !(f == s) && Zs A && Zs B) = true ∧ Ye (Z3 p) = some p := by
 have h1 : Qd ≠ Qq := by decide
 simp only [Z3, Ye, Qo]
 rw [if_neg (show ¬ Z0 (Tr.atom Qd) = Qq from h1), if_pos (show Z0 (Tr.atom Qd) = Qd from rfl)]
 simp only [X9]
 show (if (Yi f && Yi s && !(f == s) && Zs A && Zs B) = true then (match Ye (Z3 p) with | none => none | some e' => some (Ex.func f s A B e')) else none) = some (Ex.func f s A B p) ↔ _
 split
 · rename_i hz
   cases Ye (Z3 p) with
   | none => simp
   | some v =>
     simp only [Option.some.injEq, Ex.func.injEq, true_and]
     exact ⟨fun h => ⟨hz, h⟩, fun h => h.2⟩
 · rename_i hz
   exact ⟨(fun h => by cases h), fun h => absurd h.1 hz⟩
def Z3r (x : Ex) : Prop := Ye (Z3 x) = some x
theorem good_nm {s : Nm} (h : Z3r (.name s)) : Yi s = true := by
 unfold Z3r at h
 simp only [Z3, Ye, Qh] at h
 cases hn : Qb s with
 | some n => simp [hn] at h
 | none =>
   simp only [hn] at h
   split at h
   · assumption
   · cases h
theorem good_num {n : Int} (h : Z3r (.num n)) : Yi (Lib.itoa n) = false ∧ Qb (Lib.itoa n) = some n := by
 unfold Z3r at h
 simp only [Z3, Ye, Qh] at h
 cases hn : Qb (Lib.itoa n) with
 | some m =>
   simp only [hn, Option.some.injEq, Ex.num.injEq] at h
   subst h
   exact ⟨Z1z hn, rfl⟩
 | none =>
   simp only [hn] at h
   split at h <;> cases h
theorem good_of {t : Tr} {x : Ex} (h : Ye t = some x) : Z3r x := by unfold Z3r; rw [Jw _ _ h]; exact h
end Go.Proofs.YtfknoigbkleanaaGreatDoor
