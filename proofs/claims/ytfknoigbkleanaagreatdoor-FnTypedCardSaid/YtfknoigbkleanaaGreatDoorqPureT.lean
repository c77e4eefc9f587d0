/- The form that an expression is written as; numerals are written as they are read. Both types of a type with a head. The plain mathematics of chapter 3: environments, types of expressions, the first fault. The type of a text, the plain mathematics. Expressions that are written as what is read as them. -/
import Derived.Test.YtfknoigbkleanaaGreatDoorqB3
import Derived.Lib.ItoaNum
import Derived.Test.YtfknoigbkleanaaGreatDoorqB1
namespace Go.Proofs.YtfknoigbkleanaaGreatDoor
open Go.RowKit Go.Proofs.Tryz
set_option maxRecDepth 8000
set_option maxHeartbeats 20000000
set_option linter.unusedVariables false
set_option linter.unusedSimpArgs false
def Z2 : Ex → Tr
 | .name s => .atom s
 | .num n => .atom (Lib.itoa n)
 | .two o a b => .list [.atom (Z3c o), Z2 a, Z2 b]
 | .one o a => .list [.atom (Z4l o), Z2 a]
 | .cond a b c => .list [.atom kIf, Z2 a, Z2 b, Z2 c]
 | .lete x e b => .list [.atom Q3, .atom x, Z2 e, Z2 b]
 | .func f x A B e => .list [.atom Q1, .atom f, .atom x, A, B, Z2 e]
theorem dd1 (u : Nat) (h : u < 10) : Lib.decDigits u = [UInt8.ofNat (48 + u)] := by rw [Lib.decDigits, dif_pos h]
theorem dd2 (d1 d2 : Nat) (h1 : 1 ≤ d1) (h1' : d1 < 10) (h2 : d2 < 10) : Lib.decDigits (d1 * 10 + d2) = [UInt8.ofNat (48 + d1), UInt8.ofNat (48 + d2)] := by
 rw [Lib.decDigits, dif_neg (by omega), show (d1 * 10 + d2) / 10 = d1 by omega, show (d1 * 10 + d2) % 10 = d2 by omega, dd1 d1 h1']; rfl
theorem dd3 (d1 d2 d3 : Nat) (h1 : 1 ≤ d1) (h1' : d1 < 10) (h2 : d2 < 10) (h3 : d3 < 10) : Lib.decDigits ((d1 * 10 + d2) * 10 + d3) = [UInt8.ofNat (48 + d1), UInt8.ofNat (48 + d2), UInt8.ofNat (48 + d3)] := by
 rw [Lib.decDigits, dif_neg (by omega), show ((d1 * 10 + d2) * 10 + d3) / 10 = d1 * 10 + d2 by omega, show ((d1 * 10 + d2) * 10 + d3) % 10 = d3 by omega, dd2 d1 d2 h1 h1' h2]; rfl
theorem K8 {b : UInt8} {d : Nat} (h : Lib.digitVal b = some d) : d < 10 ∧ UInt8.ofNat (48 + d) = b := by
 unfold Lib.digitVal at h
 split at h
 · rename_i hb
   simp only [Option.some.injEq] at h
   refine ⟨by omega, ?_⟩
   rw [← h, show 48 + (b.toNat - 48) = b.toNat by omega]
   exact UInt8.ofNat_toNat
 · cases h
theorem dec_back {l : List UInt8} {m : Nat} (h1 : 1 ≤ l.length) (h3 : l.length ≤ 3) (h0 : l.head? ≠ some 48) (h : Lib.decFrom 0 l = some m) : Lib.decDigits m = l ∧ 1 ≤ m := by
 match l, h1, h3 with
 | [a], _, _ =>
   simp only [Lib.decFrom] at h
   cases ha : Lib.digitVal a with
   | none => simp [ha] at h
   | some d =>
     simp only [ha, Option.some.injEq] at h
     obtain ⟨e1, e2⟩ := K8 ha
     have hd : d ≠ 0 := fun e => by subst e; apply h0; rw [← e2]; rfl
     subst h
     rw [show 0 * 10 + d = d by omega, dd1 d e1, e2]
     exact ⟨rfl, by omega⟩
 | [a, b], _, _ =>
   simp only [Lib.decFrom] at h
   cases ha : Lib.digitVal a with
   | none => simp [ha] at h
   | some d =>
     cases hb : Lib.digitVal b with
     | none => simp [ha, hb] at h
     | some f =>
       simp only [ha, hb, Option.some.injEq] at h
       obtain ⟨e1, e2⟩ := K8 ha
       obtain ⟨f1, f2⟩ := K8 hb
       have hd : d ≠ 0 := fun e => by subst e; apply h0; rw [← e2]; rfl
       subst h
       rw [show (0 * 10 + d) * 10 + f = d * 10 + f by omega, dd2 d f (by omega) e1 f1, e2, f2]
       exact ⟨rfl, by omega⟩
 | [a, b, c], _, _ =>
   simp only [Lib.decFrom] at h
   cases ha : Lib.digitVal a with
   | none => simp [ha] at h
   | some d =>
     cases hb : Lib.digitVal b with
     | none => simp [ha, hb] at h
     | some f =>
       cases hc : Lib.digitVal c with
       | none => simp [ha, hb, hc] at h
       | some g =>
         simp only [ha, hb, hc, Option.some.injEq] at h
         obtain ⟨e1, e2⟩ := K8 ha
         obtain ⟨f1, f2⟩ := K8 hb
         obtain ⟨g1, g2⟩ := K8 hc
         have hd : d ≠ 0 := fun e => by subst e; apply h0; rw [← e2]; rfl
         subst h
         rw [show ((0 * 10 + d) * 10 + f) * 10 + g = (d * 10 + f) * 10 + g by omega, dd3 d f g (by omega) e1 f1 g1, e2, f2, g2]
         exact ⟨rfl, by omega⟩
theorem numOf_itoa {a : List UInt8} {n : Int} (h : Qo a = some n) : Lib.itoa n = a := by
 unfold Qo at h
 split at h
 · rename_i ha
   simp only [Option.some.injEq] at h
   subst h; subst ha
   rw [Lib.itoa, if_neg (by omega)]
   exact dd1 0 (by omega)
 · split at h
   · rename_i hd
     simp only [Option.map_eq_some_iff] at h
     obtain ⟨m, hm, rfl⟩ := h
     obtain ⟨e1, e2⟩ := dec_back hd.1 hd.2.1 hd.2.2 hm
     cases a with
     | nil => simp [Zj] at hd
     | cons b r =>
       simp only [Zj, Vq] at e1 ⊢
       by_cases hb : b = 45
       · subst hb
         simp only [if_true] at e1 ⊢
         rw [Lib.itoa, if_pos (by omega), show (-1 * (m : Int)).natAbs = m by omega, e1]
       · rw [if_neg hb] at e1 ⊢
         rw [Lib.itoa, if_neg (by omega), show (1 * (m : Int)).toNat = m by omega, e1]
   · cases h
theorem numOf_range {a : List UInt8} {n : Int} (h : Qo a = some n) : -1000 < n ∧ n < 1000 := by
 unfold Qo at h
 split at h
 · simp only [Option.some.injEq] at h; omega
 · split at h
   · rename_i hd
     simp only [Option.map_eq_some_iff] at h
     obtain ⟨m, hm, rfl⟩ := h
     have hb := Z06 _ _ _ hm
     have hl : 10 ^ (Zj a).length ≤ 10 ^ 3 := Nat.pow_le_pow_right (by omega) hd.2.1
     have : m < 1000 := by omega
     unfold Vq
     split
     · omega
     · split <;> omega
   · cases h
theorem Z07 {t : Tr} (h : Z0 t ≠ []) : t = .atom (Z0 t) := by
 cases t with
 | atom a => rfl
 | list ts => exact absurd rfl h
theorem nm_ne {a : List UInt8} (h : Yr a = true) : a ≠ [] := fun e => by subst e; cases h
theorem op2N_ne (o : Op2) : Z3c o ≠ [] := by cases o <;> simp [Z3c]
theorem op1N_ne (o : Op1) : Z4l o ≠ [] := by cases o <;> simp [Z4l]
mutual
theorem Jd : ∀ (t : Tr) (x : Ex), Y9 t = some x → Z2 x = t
 | .atom a, x, h => by
   simp only [Y9, Qm] at h
   cases hn : Qo a with
   | some n =>
     simp only [hn, Option.some.injEq] at h
     subst h
     simp only [Z2, numOf_itoa hn]
   | none =>
     simp only [hn] at h
     split at h
     · simp only [Option.some.injEq] at h; subst h; rfl
     · cases h
 | .list [], x, h => by simp [Y9, Qu] at h
 | .list (h0 :: ps), x, h => by
   simp only [Y9, Qu] at h
   split at h
   · rename_i hl
     have hh := Z07 (t := h0) (by rw [hl]; simp [Q3])
     rw [hl] at hh
     subst hh
     match ps, h with
     | [x0, e0, b0], h =>
       simp only [Q6] at h
       split at h
       · rename_i hx
         split at h
         · cases h
         · rename_i e' he
           split at h
           · cases h
           · rename_i b' hb
             simp only [Option.some.injEq] at h
             subst h
             simp only [Z2, Jd e0 e' he, Jd b0 b' hb]
             rw [← Z07 (nm_ne hx)]
       · cases h
     | [], h => cases h
     | [_], h => cases h
     | [_, _], h => cases h
     | _ :: _ :: _ :: _ :: _, h => cases h
   · split at h
     · rename_i hl
       have hh := Z07 (t := h0) (by rw [hl]; simp [Q1])
       rw [hl] at hh
       subst hh
       match ps, h with
       | [f0, x0, A0, B0, e0], h =>
         simp only [Xf] at h
         split at h
         · rename_i hx
           simp only [Bool.and_eq_true] at hx
           split at h
           · cases h
           · rename_i e' he
             simp only [Option.some.injEq] at h
             subst h
             simp only [Z2, Jd e0 e' he]
             rw [← Z07 (nm_ne hx.1.1.1.1), ← Z07 (nm_ne hx.1.1.1.2)]
         · cases h
       | [], h => cases h
       | [_], h => cases h
       | [_, _], h => cases h
       | [_, _, _], h => cases h
       | [_, _, _, _], h => cases h
       | _ :: _ :: _ :: _ :: _ :: _ :: _, h => cases h
     · cases hk : Yl ps with
       | none => simp [hk] at h
       | some es =>
         simp only [hk, Option.bind_some] at h
         have hp := Z9f ps es hk
         match es, h, hp with
         | [], h, hp => cases h
         | [a], h, hp =>
           simp only [Yc, Option.map_eq_some_iff] at h
           obtain ⟨o, ho, rfl⟩ := h
           have hn := op1Of_name ho
           have hh := Z07 (t := h0) (by rw [← hn]; exact op1N_ne o)
           rw [hh, ← hp, ← hn]; rfl
         | [a, b], h, hp =>
           simp only [Yc, Option.map_eq_some_iff] at h
           obtain ⟨o, ho, rfl⟩ := h
           have hn := op2Of_name ho
           have hh := Z07 (t := h0) (by rw [← hn]; exact op2N_ne o)
           rw [hh, ← hp, ← hn]; rfl
         | [a, b, c], h, hp =>
           simp only [Yc] at h
           split at h
           · rename_i hi
             simp only [Option.some.injEq] at h
             subst h
             have hh := Z07 (t := h0) (by rw [hi]; simp [kIf])
             rw [hh, ← hp, hi]; rfl
           · cases h
         | _ :: _ :: _ :: _ :: _, h, hp => cases h
theorem Z9f : ∀ (ts : List Tr) (es : List Ex), Yl ts = some es → es.map Z2 = ts
 | [], es, h => by simp only [Yl, Option.some.injEq] at h; subst h; rfl
 | t :: ts, es, h => by
   simp only [Yl] at h
   split at h
   · cases h
   · rename_i e he
     split at h
     · cases h
     · rename_i es' hs
       simp only [Option.some.injEq] at h
       subst h
       simp only [List.map_cons, Jd t e he, Z9f ts es' hs]
end
def Ya (c : UInt8) : Tr → Option (Tr × Tr)
 | .list [x, a, b] => if Z0 x = [c] then some (a, b) else none
 | _ => none
theorem Z5s (c : UInt8) (a : List UInt8) : Ya c (.atom a) = none := rfl
theorem Qq {c : UInt8} {x a b : Tr} (h : Z0 x = [c]) : Ya c (.list [x, a, b]) = some (a, b) := by simp [Ya, h]
theorem Z2l {c : UInt8} {x a b : Tr} (h : ¬ Z0 x = [c]) : Ya c (.list [x, a, b]) = none := by simp [Ya, h]
abbrev Env := List (Nm × Tr)
def Yv : List (Nm × Tr) → Nm → Option Tr
 | [], _ => none
 | (n, t) :: env, s => if n = s then some t else Yv env s
def tI : Tr := .atom [105]
def Yh : Tr → Bool
 | .atom _ => true
 | .list _ => false
def mkT (c : UInt8) (a b : Tr) : Option Tr := if 1 + a.size + b.size ≤ 16 then some (.list [.atom [c], a, b]) else none
def X9 (o : Op2) (a b : Tr) : Option Tr :=
 match o with
 | .call => match Ya 62 a with | some (x, y) => if x.text = b.text then some y else none | none => none
 | .pair => mkT 42 a b
 | _ => if Yh a = true ∧ Yh b = true then some tI else none
def J7 (o : Op1) (a : Tr) : Option Tr :=
 match o with
 | .fst => (Ya 42 a).map (fun p => p.1)
 | .snd => (Ya 42 a).map (fun p => p.2)
def Jw (x : Ex) : Option Tr → Except Ex Tr
 | some t => .ok t
 | none => .error x
def tyR (env : List (Nm × Tr)) : Ex → Except Ex Tr
 | .name s => Jw (.name s) (Yv env s)
 | .num n => .ok tI
 | .two o a b => match tyR env a with | .error f => .error f | .ok ta => match tyR env b with | .error f => .error f | .ok tb => Jw (.two o a b) (X9 o ta tb)
 | .one o a => match tyR env a with | .error f => .error f | .ok ta => Jw (.one o a) (J7 o ta)
 | .cond a b c => match tyR env a with | .error f => .error f | .ok ta => match tyR env b with | .error f => .error f | .ok tb => match tyR env c with | .error f => .error f | .ok tc => Jw (.cond a b c) (if Yh ta = true ∧ tb.text = tc.text then some tb else none)
 | .lete x e b => match tyR env e with | .error f => .error f | .ok t => tyR ((x, t) :: env) b
 | .func f x A B e => match mkT 62 A B with | none => .error (.func f x A B e) | some T => match tyR ((x, A) :: (f, T) :: env) e with | .error g => .error g | .ok t => Jw (.func f x A B e) (if t.text = B.text then some T else none)
def Kn : Ex → Prop
 | .name _ => True
 | .num _ => True
 | .two _ a b => Kn a ∧ Kn b
 | .one _ a => Kn a
 | .cond a b c => Kn a ∧ Kn b ∧ Kn c
 | .lete _ e b => Kn e ∧ Kn b
 | .func _ _ A B e => Zp A = true ∧ Zp B = true ∧ Kn e
def Qe (env : List (Nm × Tr)) : Prop := ∀ p ∈ env, Zp p.2 = true
theorem Qe.cons {env : List (Nm × Tr)} {s : Nm} {t : Tr} (h : Qe env) (ht : Zp t = true) : Qe ((s, t) :: env) := fun p hp => by
 rcases List.mem_cons.1 hp with rfl | hp
 · exact ht
 · exact h p hp
theorem Z4f : Qe [] := fun p hp => by cases hp
theorem lookE_ok {env : List (Nm × Tr)} (h : Qe env) {s : Nm} {t : Tr} (hl : Yv env s = some t) : Zp t = true := by
 induction env with
 | nil => cases hl
 | cons p env ih =>
   obtain ⟨n, u⟩ := p
   simp only [Yv] at hl
   split at hl
   · simp only [Option.some.injEq] at hl; subst hl; exact h (n, u) (by simp)
   · exact ih (fun q hq => h q (by simp [hq])) hl
theorem Zy {t : Tr} (h : Zp t = true) : Xk t = true ∧ t.size ≤ 16 := by simpa [Zp] using h
theorem Zf {t : Tr} (h : Zp t = true) : t.wf ∧ t.bytes ≤ 80 ∧ t.depth ≤ 16 ∧ t.size ≤ 16 ∧ Xk t = true := by
 obtain ⟨h1, h2⟩ := Zy h
 obtain ⟨a, b, c⟩ := K5 _ _ (Nat.le_refl _) h1
 exact ⟨c, by omega, by omega, h2, h1⟩
theorem tI_ok : Zp tI = true := by decide
theorem Z8q {c : UInt8} (hc : c = 62 ∨ c = 42) {a b t : Tr} (ha : Zp a = true) (hb : Zp b = true) (h : mkT c a b = some t) : Zp t = true := by
 unfold mkT at h
 split at h
 · rename_i hs
   simp only [Option.some.injEq] at h
   subst h
   have hsz : (Tr.list [.atom [c], a, b]).size = 1 + (a.size + (b.size + 0)) := by simp only [Tr.size, Yo]
   have hty := made_ty hc (Zy ha).1 (Zy hb).1
   unfold Zp
   rw [hty, hsz, Bool.true_and, decide_eq_true_eq]
   omega
 · cases h
theorem sidesTr_got {c : UInt8} {t a b : Tr} (h : Ya c t = some (a, b)) : ∃ x, t = .list [x, a, b] ∧ Z0 x = [c] := by
 unfold Ya at h
 split at h
 · split at h
   · rename_i hx
     simp only [Option.some.injEq, Prod.mk.injEq] at h
     obtain ⟨rfl, rfl⟩ := h
     exact ⟨_, rfl, hx⟩
   · cases h
 · cases h
theorem Xv {c : UInt8} {t a b : Tr} (ht : Zp t = true) (h : Ya c t = some (a, b)) : Zp a = true ∧ Zp b = true := by
 obtain ⟨x, rfl, hx⟩ := sidesTr_got h
 obtain ⟨h1, h2⟩ := Zy ht
 rw [Z19] at h1
 simp only [Bool.and_eq_true] at h1
 simp only [Tr.size, Yo] at h2
 simp only [Zp, Bool.and_eq_true, decide_eq_true_eq]
 exact ⟨⟨h1.1.2, by omega⟩, h1.2, by omega⟩
theorem join2_ok {o : Op2} {a b t : Tr} (ha : Zp a = true) (hb : Zp b = true) (h : X9 o a b = some t) : Zp t = true := by
 cases o <;> simp only [X9] at h
 · split at h
   · simp only [Option.some.injEq] at h; subst h; exact tI_ok
   · cases h
 · split at h
   · simp only [Option.some.injEq] at h; subst h; exact tI_ok
   · cases h
 · split at h
   · simp only [Option.some.injEq] at h; subst h; exact tI_ok
   · cases h
 · split at h
   · rename_i x y hs
     split at h
     · simp only [Option.some.injEq] at h; subst h; exact (Xv ha hs).2
     · cases h
   · cases h
 · exact Z8q (.inr rfl) ha hb h
theorem join1_ok {o : Op1} {a t : Tr} (ha : Zp a = true) (h : J7 o a = some t) : Zp t = true := by
 cases o <;> simp only [J7, Option.map_eq_some_iff] at h
 · obtain ⟨⟨x, y⟩, hs, rfl⟩ := h; exact (Xv ha hs).1
 · obtain ⟨⟨x, y⟩, hs, rfl⟩ := h; exact (Xv ha hs).2
theorem Z27 {x : Ex} {o : Option Tr} {t : Tr} : Jw x o = .ok t ↔ o = some t := by cases o <;> simp [Jw]
theorem Qj : ∀ (x : Ex) (env : List (Nm × Tr)) (t : Tr), Qe env → Kn x → tyR env x = .ok t → Zp t = true
 | .name s, env, t, he, hx, h => by simp only [tyR, Z27] at h; exact lookE_ok he h
 | .num n, env, t, he, hx, h => by simp only [tyR, Except.ok.injEq] at h; subst h; exact tI_ok
 | .two o a b, env, t, he, hx, h => by
   simp only [tyR] at h
   split at h
   · cases h
   · rename_i ta h1
     split at h
     · cases h
     · rename_i tb h2
       rw [Z27] at h
       exact join2_ok (Qj a env ta he hx.1 h1) (Qj b env tb he hx.2 h2) h
 | .one o a, env, t, he, hx, h => by
   simp only [tyR] at h
   split at h
   · cases h
   · rename_i ta h1
     rw [Z27] at h
     exact join1_ok (Qj a env ta he hx h1) h
 | .cond a b c, env, t, he, hx, h => by
   simp only [tyR] at h
   split at h
   · cases h
   · split at h
     · cases h
     · rename_i tb h2
       split at h
       · cases h
       · rw [Z27] at h
         split at h
         · simp only [Option.some.injEq] at h; subst h; exact Qj b env _ he hx.2.1 h2
         · cases h
 | .lete x e b, env, t, he, hx, h => by
   simp only [tyR] at h
   split at h
   · cases h
   · rename_i te h1
     exact Qj b _ t (he.cons (Qj e env te he hx.1 h1)) hx.2 h
 | .func f x A B e, env, t, he, hx, h => by
   simp only [tyR] at h
   split at h
   · cases h
   · rename_i T h1
     split at h
     · cases h
     · rw [Z27] at h
       split at h
       · simp only [Option.some.injEq] at h; subst h; exact Z8q (.inl rfl) hx.1 hx.2.1 h1
       · cases h
theorem Vs {env : List (Nm × Tr)} {n s : Nm} {t : Tr} (h : s ≠ n) : Yv ((n, t) :: env) s = Yv env s := by simp only [Yv]; rw [if_neg (fun e => h e.symm)]
theorem mem_rm {bl l : List Nm} {s : Nm} (h : s ∈ rm bl l) : s ∈ l ∧ s ∉ bl := by simpa [rm] using h
theorem Km : ∀ (x : Ex) (env : List (Nm × Tr)) (t : Tr), tyR env x = .ok t → ∀ s ∈ Ze x, Yv env s ≠ none
 | .name s, env, t, h, n, hn => by
   simp only [tyR, Z27] at h
   simp only [Ze, List.mem_singleton] at hn
   subst hn; rw [h]; simp
 | .num n, env, t, h, s, hs => by simp [Ze] at hs
 | .two o a b, env, t, h, s, hs => by
   simp only [tyR] at h
   split at h
   · cases h
   · rename_i ta h1
     split at h
     · cases h
     · rename_i tb h2
       simp only [Ze, List.mem_append] at hs
       rcases hs with hs | hs
       · exact Km a env ta h1 s hs
       · exact Km b env tb h2 s hs
 | .one o a, env, t, h, s, hs => by
   simp only [tyR] at h
   split at h
   · cases h
   · rename_i ta h1
     exact Km a env ta h1 s hs
 | .cond a b c, env, t, h, s, hs => by
   simp only [tyR] at h
   split at h
   · cases h
   · rename_i ta h1
     split at h
     · cases h
     · rename_i tb h2
       split at h
       · cases h
       · rename_i tc h3
         simp only [Ze, List.mem_append] at hs
         rcases hs with (hs | hs) | hs
         · exact Km a env ta h1 s hs
         · exact Km b env tb h2 s hs
         · exact Km c env tc h3 s hs
 | .lete x e b, env, t, h, s, hs => by
   simp only [tyR] at h
   split at h
   · cases h
   · rename_i te h1
     simp only [Ze, List.mem_append] at hs
     rcases hs with hs | hs
     · exact Km e env te h1 s hs
     · obtain ⟨q1, q2⟩ := mem_rm hs
       have := Km b _ t h s q1
       rwa [Vs (by simpa using q2)] at this
 | .func f x A B e, env, t, h, s, hs => by
   simp only [tyR] at h
   split at h
   · cases h
   · rename_i T h1
     split at h
     · cases h
     · rename_i te h2
       obtain ⟨q1, q2⟩ := mem_rm hs
       simp only [List.mem_cons, List.not_mem_nil, or_false, not_or] at q2
       have := Km e _ te h2 s q1
       rwa [Vs q2.2, Vs q2.1] at this
theorem tyR_closed {x : Ex} {t : Tr} (h : tyR [] x = .ok t) : Ze x = [] := by
 cases hf : Ze x with
 | nil => rfl
 | cons s l => exact absurd rfl (Km x [] t h s (by rw [hf]; simp))
mutual
theorem Vx : ∀ (t : Tr) (x : Ex), Y9 t = some x → Kn x
 | .atom a, x, h => by
   simp only [Y9, Qm] at h
   split at h
   · simp only [Option.some.injEq] at h; subst h; trivial
   · split at h
     · simp only [Option.some.injEq] at h; subst h; trivial
     · cases h
 | .list [], x, h => by simp [Y9, Qu] at h
 | .list (h0 :: ps), x, h => by
   simp only [Y9, Qu] at h
   split at h
   · match ps, h with
     | [s, e, b], h =>
       simp only [Q6] at h
       split at h
       · split at h
         · cases h
         · rename_i e' he
           split at h
           · cases h
           · rename_i b' hb
             simp only [Option.some.injEq] at h; subst h
             exact ⟨Vx e e' he, Vx b b' hb⟩
       · cases h
   · split at h
     · match ps, h with
       | [f, s, A, B, e], h =>
         simp only [Xf] at h
         split at h
         · rename_i hz
           split at h
           · cases h
           · rename_i e' he
             simp only [Option.some.injEq] at h; subst h
             simp only [Bool.and_eq_true] at hz
             exact ⟨hz.1.2, hz.2, Vx e e' he⟩
         · cases h
     · simp only [Option.bind_eq_some_iff] at h
       obtain ⟨es, h1, h2⟩ := h
       have hk := Z73 ps es h1
       match es, h2 with
       | [a], h2 =>
         simp only [Yc, Option.map_eq_some_iff] at h2
         obtain ⟨o, ho, rfl⟩ := h2
         exact hk a (by simp)
       | [a, b], h2 =>
         simp only [Yc, Option.map_eq_some_iff] at h2
         obtain ⟨o, ho, rfl⟩ := h2
         exact ⟨hk a (by simp), hk b (by simp)⟩
       | [a, b, c], h2 =>
         simp only [Yc] at h2
         split at h2
         · simp only [Option.some.injEq] at h2; subst h2
           exact ⟨hk a (by simp), hk b (by simp), hk c (by simp)⟩
         · cases h2
theorem Z73 : ∀ (ts : List Tr) (es : List Ex), Yl ts = some es → ∀ e ∈ es, Kn e
 | [], es, h, e, he => by simp only [Yl, Option.some.injEq] at h; subst h; cases he
 | t :: ts, es, h, e, he => by
   simp only [Yl] at h
   split at h
   · cases h
   · rename_i e' h1
     split at h
     · cases h
     · rename_i es' h2
       simp only [Option.some.injEq] at h
       subst h
       rcases List.mem_cons.1 he with rfl | he
       · exact Vx t _ h1
       · exact Z73 ts es' h2 e he
end
theorem Z3j {l : List UInt8} {x : Ex} (h : Yb l = some x) : Kn x := by
 cases hp : Zv l with
 | none => rw [Z0a hp] at h; cases h
 | some t =>
   rw [Jh hp] at h
   split at h
   · exact Vx t x h
   · cases h
theorem text_inj {a b : Tr} (ha : a.wf) (hb : b.wf) (h : a.text = b.text) : a = b := by
 have e1 := Z0v (a.depth + b.depth + 1) a ha (by omega) [] (fun _ _ c r' e => by cases e)
 have e2 := Z0v (a.depth + b.depth + 1) b hb (by omega) [] (fun _ _ c r' e => by cases e)
 rw [← h, e1] at e2
 simpa using e2
theorem Qh {t : Tr} (h : t.wf) : t.text ≠ [] := by
 have h1 := Q8 t h
 have h2 := Zw t h
 intro e
 rw [e] at h2
 simp only [List.length_nil] at h2
 omega
theorem Jg {t : Tr} (h : Zp t = true) : Yi t.text = some t := by
 obtain ⟨h1, h2, h3, h4, h5⟩ := Zf h
 rw [Va (V6 h1 (by omega) (by omega)), h5]
 simp [h4]
def Jv : List (Nm × Tr) → List Nm → List (List UInt8) → Option (List (Nm × Tr))
 | env, n :: ns, t :: ts => match Yi t with | none => none | some u => if Yr n = true then Jv ((n, u) :: env) ns ts else none
 | env, [], [] => some env
 | _, _, _ => none
def K7 (ns : List Nm) (ts : List (List UInt8)) : Option (List (Nm × Tr)) := if ns.length ≤ 8 ∧ ns.length = ts.length then Jv [] ns ts else none
theorem Z79 : ∀ (ns : List Nm) (ts : List (List UInt8)) (env : List (Nm × Tr)) (n : Nm) (t : List UInt8), ns.length = ts.length →
 Jv env (ns ++ [n]) (ts ++ [t]) = (Jv env ns ts).bind (fun e => match Yi t with | none => none | some u => if Yr n = true then some ((n, u) :: e) else none)
 | [], [], env, n, t, _ => by
   simp only [List.nil_append, Jv, Option.bind_some]
 | m :: ns, s :: ts, env, n, t, h => by
   simp only [List.cons_append, Jv]
   cases Yi s with
   | none => simp
   | some u =>
     by_cases hm : Yr m = true
     · simp only [hm, if_true]
       exact Z79 ns ts _ n t (by simpa using h)
     · simp [hm]
 | [], _ :: _, env, n, t, h => by simp at h
 | _ :: _, [], env, n, t, h => by simp at h
theorem envAdd_ok : ∀ (ns : List Nm) (ts : List (List UInt8)) (env e : List (Nm × Tr)), Qe env → Jv env ns ts = some e → Qe e
 | [], [], env, e, he, h => by simp only [Jv, Option.some.injEq] at h; subst h; exact he
 | [], _ :: _, env, e, he, h => by simp [Jv] at h
 | _ :: _, [], env, e, he, h => by simp [Jv] at h
 | n :: ns, t :: ts, env, e, he, h => by
   simp only [Jv] at h
   split at h
   · cases h
   · rename_i u hu
     split at h
     · exact envAdd_ok ns ts _ e (he.cons (by obtain ⟨_, _, _, _, q1, q2⟩ := J5 hu; simp [Zp, q1, q2])) h
     · cases h
theorem envOf_ok {ns : List Nm} {ts : List (List UInt8)} {e : List (Nm × Tr)} (h : K7 ns ts = some e) : Qe e := by
 unfold K7 at h
 split at h
 · exact envAdd_ok ns ts [] e Z4f h
 · cases h
def lookOf (ns : List Nm) (ts : List (List UInt8)) (s : Nm) : Option (List UInt8) := (K7 ns ts).bind (fun e => (Yv e s).map Tr.text)
def Kj (env : List (Nm × Tr)) : List Nm := (env.map (fun p => p.1)).reverse
def Ke (env : List (Nm × Tr)) : List (List UInt8) := (env.map (fun p => p.2.text)).reverse
theorem Vw (n : Nm) (t : Tr) (env : List (Nm × Tr)) : Kj ((n, t) :: env) = Kj env ++ [n] := by simp [Kj]
theorem Vv (n : Nm) (t : Tr) (env : List (Nm × Tr)) : Ke ((n, t) :: env) = Ke env ++ [t.text] := by simp [Ke]
theorem Z0h (env : List (Nm × Tr)) : (Kj env).length = env.length := by simp [Kj]
theorem Z2g (env : List (Nm × Tr)) : (Ke env).length = env.length := by simp [Ke]
theorem Z53 : ∀ (ns : List Nm) (ts : List (List UInt8)) (env : List (Nm × Tr)), ns.length = ts.length → (Jv env ns ts).isSome = (ns.all Yr && ts.all (fun t => (Yi t).isSome))
 | [], [], env, _ => by simp [Jv]
 | [], _ :: _, env, h => by simp at h
 | _ :: _, [], env, h => by simp at h
 | n :: ns, t :: ts, env, h => by
   simp only [Jv, List.all_cons]
   cases Yi t with
   | none => simp
   | some u =>
     by_cases hn : Yr n = true
     · simp only [hn, if_true, Option.isSome_some, Bool.true_and]
       exact Z53 ns ts _ (by simpa using h)
     · simp [hn]
theorem envOf_isSome (ns : List Nm) (ts : List (List UInt8)) : (K7 ns ts).isSome = (ns.all Yr && ts.all (fun t => (Yi t).isSome) && decide (ns.length = ts.length) && decide (ns.length ≤ 8)) := by
 unfold K7
 by_cases h : ns.length ≤ 8 ∧ ns.length = ts.length
 · rw [if_pos h, Z53 _ _ _ h.2, decide_eq_true h.2, decide_eq_true h.1]; simp
 · rw [if_neg h]
   by_cases h1 : ns.length = ts.length
   · have : ¬ ns.length ≤ 8 := fun q => h ⟨q, h1⟩
     simp [this]
   · simp [h1]
def Z0d (ns : List Nm) (ts : List (List UInt8)) (s : Nm) : Nat → List UInt8
 | 0 => []
 | k + 1 => if ns.getD k [] = s then ts.getD k [] else Z0d ns ts s k
theorem lookK_app (ns : List Nm) (ts : List (List UInt8)) (s n : Nm) (t : List UInt8) (h : ns.length = ts.length) : ∀ k, k ≤ ns.length → Z0d (ns ++ [n]) (ts ++ [t]) s k = Z0d ns ts s k
 | 0, _ => rfl
 | k + 1, hk => by
   simp only [Z0d]
   rw [lookK_app ns ts s n t h k (by omega)]
   rw [List.getD_eq_getElem?_getD, List.getD_eq_getElem?_getD, List.getD_eq_getElem?_getD, List.getD_eq_getElem?_getD, List.getElem?_append_left (by omega), List.getElem?_append_left (by omega)]
theorem lookK_env (s : Nm) : ∀ env : List (Nm × Tr), Z0d (Kj env) (Ke env) s env.length = ((Yv env s).map Tr.text).getD []
 | [] => rfl
 | (n, t) :: env => by
   have h1 := Z0h env
   have h2 := Z2g env
   rw [Vw, Vv, List.length_cons]
   simp only [Z0d]
   rw [lookK_app _ _ _ _ _ (by omega) _ (by omega), lookK_env s env]
   rw [List.getD_eq_getElem?_getD, List.getD_eq_getElem?_getD, List.getElem?_append_right (by omega), List.getElem?_append_right (by omega), h1, h2]
   simp only [Nat.sub_self, List.getElem?_cons_zero, Option.getD_some, Yv]
   by_cases h : n = s
   · simp [h]
   · simp [h]
def Z3b (ns : List Nm) (ts : List (List UInt8)) (l : List UInt8) : Option (List UInt8) :=
 match K7 ns ts with
 | none => none
 | some env => match Yb l with
   | none => none
   | some x => match tyR env x with
     | .error _ => none
     | .ok t => some t.text
theorem tyOf_env {ns : List Nm} {ts : List (List UInt8)} {l : List UInt8} (h : K7 ns ts = none) : Z3b ns ts l = none := by simp [Z3b, h]
theorem tyOf_ex {ns : List Nm} {ts : List (List UInt8)} {l : List UInt8} (h : Yb l = none) : Z3b ns ts l = none := by
 simp only [Z3b, h]; split <;> rfl
theorem Z5m {ns : List Nm} {ts : List (List UInt8)} {l : List UInt8} {env : List (Nm × Tr)} {x f : Ex} (h : K7 ns ts = some env) (hx : Yb l = some x) (hf : tyR env x = .error f) : Z3b ns ts l = none := by simp [Z3b, h, hx, hf]
theorem Z21 {ns : List Nm} {ts : List (List UInt8)} {l : List UInt8} {env : List (Nm × Tr)} {x : Ex} {t : Tr} (h : K7 ns ts = some env) (hx : Yb l = some x) (hf : tyR env x = .ok t) : Z3b ns ts l = some t.text := by simp [Z3b, h, hx, hf]
def Qv (l : List UInt8) : Bool := (Z3b [] [] l).isSome
theorem Z1c (o : Op2) (p q : Ex) : Y9 (Z2 (.two o p q)) = some (.two o p q) ↔ Y9 (Z2 p) = some p ∧ Y9 (Z2 q) = some q := by
 have h1 : Z3c o ≠ Q3 := by cases o <;> decide
 have h2 : Z3c o ≠ Q1 := by cases o <;> decide
 simp only [Z2, Y9, Qu]
 rw [if_neg (show ¬ Z0 (Tr.atom (Z3c o)) = Q3 from h1), if_neg (show ¬ Z0 (Tr.atom (Z3c o)) = Q1 from h2)]
 simp only [Yl, Z0]
 cases Y9 (Z2 p) <;> cases Y9 (Z2 q) <;> cases o <;> simp [Yc, Kf, Z3c]
theorem Z3w (o : Op1) (p : Ex) : Y9 (Z2 (.one o p)) = some (.one o p) ↔ Y9 (Z2 p) = some p := by
 have h1 : Z4l o ≠ Q3 := by cases o <;> decide
 have h2 : Z4l o ≠ Q1 := by cases o <;> decide
 simp only [Z2, Y9, Qu]
 rw [if_neg (show ¬ Z0 (Tr.atom (Z4l o)) = Q3 from h1), if_neg (show ¬ Z0 (Tr.atom (Z4l o)) = Q1 from h2)]
 simp only [Yl, Z0]
 cases Y9 (Z2 p) <;> cases o <;> simp [Yc, Vi, Z4l]
theorem Vu (p q r : Ex) : Y9 (Z2 (.cond p q r)) = some (.cond p q r) ↔ Y9 (Z2 p) = some p ∧ Y9 (Z2 q) = some q ∧ Y9 (Z2 r) = some r := by
 have h1 : kIf ≠ Q3 := by decide
 have h2 : kIf ≠ Q1 := by decide
 simp only [Z2, Y9, Qu]
 rw [if_neg (show ¬ Z0 (Tr.atom kIf) = Q3 from h1), if_neg (show ¬ Z0 (Tr.atom kIf) = Q1 from h2)]
 simp only [Yl, Z0]
 cases Y9 (Z2 p) <;> cases Y9 (Z2 q) <;> cases Y9 (Z2 r) <;> simp [Yc]
theorem Z0z (s : Nm) (p q : Ex) : Y9 (Z2 (.lete s p q)) = some (.lete s p q) ↔ Yr s = true ∧ Y9 (Z2 p) = some p ∧ Y9 (Z2 q) = some q := by
 simp only [Z2, Y9, Qu]
 rw [if_pos (show Z0 (Tr.atom Q3) = Q3 from rfl)]
 simp only [Q6, Z0]
 cases Y9 (Z2 p) <;> cases Y9 (Z2 q) <;> by_cases hz : Yr s = true <;> simp [hz]
theorem Z10 (f s : Nm) (A B : Tr) (p : Ex) : Y9 (Z2 (.func f s A B p)) = some (.func f s A B p) ↔ (Yr f && Yr s && !(f == s) && Zp A && Zp B) = true ∧ Y9 (Z2 p) = some p := by
 have h1 : Q1 ≠ Q3 := by decide
 simp only [Z2, Y9, Qu]
 rw [if_neg (show ¬ Z0 (Tr.atom Q1) = Q3 from h1), if_pos (show Z0 (Tr.atom Q1) = Q1 from rfl)]
 simp only [Xf]
 show (if (Yr f && Yr s && !(f == s) && Zp A && Zp B) = true then (match Y9 (Z2 p) with | none => none | some e' => some (Ex.func f s A B e')) else none) = some (Ex.func f s A B p) ↔ _
 split
 · rename_i hz
   cases Y9 (Z2 p) with
   | none => simp
   | some v =>
     simp only [Option.some.injEq, Ex.func.injEq, true_and]
     exact ⟨fun h => ⟨hz, h⟩, fun h => h.2⟩
 · rename_i hz
   exact ⟨(fun h => by cases h), fun h => absurd h.1 hz⟩
def Z3d (x : Ex) : Prop := Y9 (Z2 x) = some x
theorem good_nm {s : Nm} (h : Z3d (.name s)) : Yr s = true := by
 unfold Z3d at h
 simp only [Z2, Y9, Qm] at h
 cases hn : Qo s with
 | some n => simp [hn] at h
 | none =>
   simp only [hn] at h
   split at h
   · assumption
   · cases h
theorem good_num {n : Int} (h : Z3d (.num n)) : Yr (Lib.itoa n) = false ∧ Qo (Lib.itoa n) = some n := by
 unfold Z3d at h
 simp only [Z2, Y9, Qm] at h
 cases hn : Qo (Lib.itoa n) with
 | some m =>
   simp only [hn, Option.some.injEq, Ex.num.injEq] at h
   subst h
   exact ⟨Z1l hn, rfl⟩
 | none =>
   simp only [hn] at h
   split at h <;> cases h
theorem good_of {t : Tr} {x : Ex} (h : Y9 t = some x) : Z3d x := by unfold Z3d; rw [Jd _ _ h]; exact h
end Go.Proofs.YtfknoigbkleanaaGreatDoor
