/- The form that an expression is written as; numerals are written as they are read. Both types of a type with a head. The plain mathematics of chapter 3: environments, types of expressions, the first fault. The type of a text, the plain mathematics. Expressions that are written as what is read as them. -/
import Derived.Test.YtmgepnacjgbfhaaGreatDoorsB3
import Derived.Lib.ItoaNum
import Derived.Test.YtmgepnacjgbfhaaGreatDoorsB1
namespace Go.Proofs.YtmgepnacjgbfhaaGreatDoor
open Go.RowKit Go.Proofs.Tryz
set_option maxRecDepth 8000
set_option maxHeartbeats 20000000
set_option linter.unusedVariables false
set_option linter.unusedSimpArgs false
def Z3 : Ex → Tr
 | .name s => .atom s
 | .num n => .atom (Lib.itoa n)
 | .two o a b => .list [.atom (Z3d o), Z3 a, Z3 b]
 | .one o a => .list [.atom (Z4l o), Z3 a]
 | .cond a b c => .list [.atom kIf, Z3 a, Z3 b, Z3 c]
 | .lete x e b => .list [.atom Qr, .atom x, Z3 e, Z3 b]
 | .func f x A B e => .list [.atom Qh, .atom f, .atom x, A, B, Z3 e]
theorem dd1 (u : Nat) (h : u < 10) : Lib.decDigits u = [UInt8.ofNat (48 + u)] := by rw [Lib.decDigits, dif_pos h]
theorem dd2 (d1 d2 : Nat) (h1 : 1 ≤ d1) (h1' : d1 < 10) (h2 : d2 < 10) : Lib.decDigits (d1 * 10 + d2) = [UInt8.ofNat (48 + d1), UInt8.ofNat (48 + d2)] := by
 rw [Lib.decDigits, dif_neg (by omega), show (d1 * 10 + d2) / 10 = d1 by omega, show (d1 * 10 + d2) % 10 = d2 by omega, dd1 d1 h1']; rfl
theorem dd3 (d1 d2 d3 : Nat) (h1 : 1 ≤ d1) (h1' : d1 < 10) (h2 : d2 < 10) (h3 : d3 < 10) : Lib.decDigits ((d1 * 10 + d2) * 10 + d3) = [UInt8.ofNat (48 + d1), UInt8.ofNat (48 + d2), UInt8.ofNat (48 + d3)] := by
 rw [Lib.decDigits, dif_neg (by omega), show ((d1 * 10 + d2) * 10 + d3) / 10 = d1 * 10 + d2 by omega, show ((d1 * 10 + d2) * 10 + d3) % 10 = d3 by omega, dd2 d1 d2 h1 h1' h2]; rfl
theorem Kr {b : UInt8} {d : Nat} (h : Lib.digitVal b = some d) : d < 10 ∧ UInt8.ofNat (48 + d) = b := by
 unfold Lib.digitVal at h
 split at h
 · rename_i hb
   simp only [Option.some.injEq] at h
   refine ⟨by omega, ?_⟩
   rw [← h, show 48 + (b.toNat - 48) = b.toNat by omega]
   exact UInt8.ofNat_toNat
 · cases h
theorem dec_back {l : List UInt8} {m : Nat} (h1 : 1 ≤ l.length) (h3 : l.length ≤ 3) (h0 : l.head? ≠ some 48) (h : Lib.decFrom 0 l = some m) : Lib.decDigits m = l ∧ 1 ≤ m := by
 match l, h1, h3 with
 | [a], _, _ =>
   simp only [Lib.decFrom] at h
   cases ha : Lib.digitVal a with
   | none => simp [ha] at h
   | some d =>
     simp only [ha, Option.some.injEq] at h
     obtain ⟨e1, e2⟩ := Kr ha
     have hd : d ≠ 0 := fun e => by subst e; apply h0; rw [← e2]; rfl
     subst h
     rw [show 0 * 10 + d = d by omega, dd1 d e1, e2]
     exact ⟨rfl, by omega⟩
 | [a, b], _, _ =>
   simp only [Lib.decFrom] at h
   cases ha : Lib.digitVal a with
   | none => simp [ha] at h
   | some d =>
     cases hb : Lib.digitVal b with
     | none => simp [ha, hb] at h
     | some f =>
       simp only [ha, hb, Option.some.injEq] at h
       obtain ⟨e1, e2⟩ := Kr ha
       obtain ⟨f1, f2⟩ := Kr hb
       have hd : d ≠ 0 := fun e => by subst e; apply h0; rw [← e2]; rfl
       subst h
       rw [show (0 * 10 + d) * 10 + f = d * 10 + f by omega, dd2 d f (by omega) e1 f1, e2, f2]
       exact ⟨rfl, by omega⟩
 | [a, b, c], _, _ =>
   simp only [Lib.decFrom] at h
   cases ha : Lib.digitVal a with
   | none => simp [ha] at h
   | some d =>
     cases hb : Lib.digitVal b with
     | none => simp [ha, hb] at h
     | some f =>
       cases hc : Lib.digitVal c with
       | none => simp [ha, hb, hc] at h
       | some g =>
         simp only [ha, hb, hc, Option.some.injEq] at h
         obtain ⟨e1, e2⟩ := Kr ha
         obtain ⟨f1, f2⟩ := Kr hb
         obtain ⟨g1, g2⟩ := Kr hc
         have hd : d ≠ 0 := fun e => by subst e; apply h0; rw [← e2]; rfl
         subst h
         rw [show ((0 * 10 + d) * 10 + f) * 10 + g = (d * 10 + f) * 10 + g by omega, dd3 d f g (by omega) e1 f1 g1, e2, f2, g2]
         exact ⟨rfl, by omega⟩
theorem numOf_itoa {a : List UInt8} {n : Int} (h : Qx a = some n) : Lib.itoa n = a := by
 unfold Qx at h
 split at h
 · rename_i ha
   simp only [Option.some.injEq] at h
   subst h; subst ha
   rw [Lib.itoa, if_neg (by omega)]
   exact dd1 0 (by omega)
 · split at h
   · rename_i hd
     simp only [Option.map_eq_some_iff] at h
     obtain ⟨m, hm, rfl⟩ := h
     obtain ⟨e1, e2⟩ := dec_back hd.1 hd.2.1 hd.2.2 hm
     cases a with
     | nil => simp [Zk] at hd
     | cons b r =>
       simp only [Zk, Km] at e1 ⊢
       by_cases hb : b = 45
       · subst hb
         simp only [if_true] at e1 ⊢
         rw [Lib.itoa, if_pos (by omega), show (-1 * (m : Int)).natAbs = m by omega, e1]
       · rw [if_neg hb] at e1 ⊢
         rw [Lib.itoa, if_neg (by omega), show (1 * (m : Int)).toNat = m by omega, e1]
   · cases h
theorem numOf_range {a : List UInt8} {n : Int} (h : Qx a = some n) : -1000 < n ∧ n < 1000 := by
 unfold Qx at h
 split at h
 · simp only [Option.some.injEq] at h; omega
 · split at h
   · rename_i hd
     simp only [Option.map_eq_some_iff] at h
     obtain ⟨m, hm, rfl⟩ := h
     have hb := Kx _ _ _ hm
     have hl : 10 ^ (Zk a).length ≤ 10 ^ 3 := Nat.pow_le_pow_right (by omega) hd.2.1
     have : m < 1000 := by omega
     unfold Km
     split
     · omega
     · split <;> omega
   · cases h
theorem Ky {t : Tr} (h : Z0 t ≠ []) : t = .atom (Z0 t) := by
 cases t with
 | atom a => rfl
 | list ts => exact absurd rfl h
theorem nm_ne {a : List UInt8} (h : Yl a = true) : a ≠ [] := fun e => by subst e; cases h
theorem op2N_ne (o : Op2) : Z3d o ≠ [] := by cases o <;> simp [Z3d]
theorem op1N_ne (o : Op1) : Z4l o ≠ [] := by cases o <;> simp [Z4l]
mutual
theorem Kq : ∀ (t : Tr) (x : Ex), Yg t = some x → Z3 x = t
 | .atom a, x, h => by
   simp only [Yg, Qs] at h
   cases hn : Qx a with
   | some n =>
     simp only [hn, Option.some.injEq] at h
     subst h
     simp only [Z3, numOf_itoa hn]
   | none =>
     simp only [hn] at h
     split at h
     · simp only [Option.some.injEq] at h; subst h; rfl
     · cases h
 | .list [], x, h => by simp [Yg, Qf] at h
 | .list (h0 :: ps), x, h => by
   simp only [Yg, Qf] at h
   split at h
   · rename_i hl
     have hh := Ky (t := h0) (by rw [hl]; simp [Qr])
     rw [hl] at hh
     subst hh
     match ps, h with
     | [x0, e0, b0], h =>
       simp only [Q1] at h
       split at h
       · rename_i hx
         split at h
         · cases h
         · rename_i e' he
           split at h
           · cases h
           · rename_i b' hb
             simp only [Option.some.injEq] at h
             subst h
             simp only [Z3, Kq e0 e' he, Kq b0 b' hb]
             rw [← Ky (nm_ne hx)]
       · cases h
     | [], h => cases h
     | [_], h => cases h
     | [_, _], h => cases h
     | _ :: _ :: _ :: _ :: _, h => cases h
   · split at h
     · rename_i hl
       have hh := Ky (t := h0) (by rw [hl]; simp [Qh])
       rw [hl] at hh
       subst hh
       match ps, h with
       | [f0, x0, A0, B0, e0], h =>
         simp only [X3] at h
         split at h
         · rename_i hx
           simp only [Bool.and_eq_true] at hx
           split at h
           · cases h
           · rename_i e' he
             simp only [Option.some.injEq] at h
             subst h
             simp only [Z3, Kq e0 e' he]
             rw [← Ky (nm_ne hx.1.1.1.1), ← Ky (nm_ne hx.1.1.1.2)]
         · cases h
       | [], h => cases h
       | [_], h => cases h
       | [_, _], h => cases h
       | [_, _, _], h => cases h
       | [_, _, _, _], h => cases h
       | _ :: _ :: _ :: _ :: _ :: _ :: _, h => cases h
     · cases hk : Yh ps with
       | none => simp [hk] at h
       | some es =>
         simp only [hk, Option.bind_some] at h
         have hp := Z78 ps es hk
         match es, h, hp with
         | [], h, hp => cases h
         | [a], h, hp =>
           simp only [Yi, Option.map_eq_some_iff] at h
           obtain ⟨o, ho, rfl⟩ := h
           have hn := op1Of_name ho
           have hh := Ky (t := h0) (by rw [← hn]; exact op1N_ne o)
           rw [hh, ← hp, ← hn]; rfl
         | [a, b], h, hp =>
           simp only [Yi, Option.map_eq_some_iff] at h
           obtain ⟨o, ho, rfl⟩ := h
           have hn := op2Of_name ho
           have hh := Ky (t := h0) (by rw [← hn]; exact op2N_ne o)
           rw [hh, ← hp, ← hn]; rfl
         | [a, b, c], h, hp =>
           simp only [Yi] at h
           split at h
           · rename_i hi
             simp only [Option.some.injEq] at h
             subst h
             have hh := Ky (t := h0) (by rw [hi]; simp [kIf])
             rw [hh, ← hp, hi]; rfl
           · cases h
         | _ :: _ :: _ :: _ :: _, h, hp => cases h
theorem Z78 : ∀ (ts : List Tr) (es : List Ex), Yh ts = some es → es.map Z3 = ts
 | [], es, h => by simp only [Yh, Option.some.injEq] at h; subst h; rfl
 | t :: ts, es, h => by
   simp only [Yh] at h
   split at h
   · cases h
   · rename_i e he
     split at h
     · cases h
     · rename_i es' hs
       simp only [Option.some.injEq] at h
       subst h
       simp only [List.map_cons, Kq t e he, Z78 ts es' hs]
end
def Zy (c : UInt8) : Tr → Option (Tr × Tr)
 | .list [x, a, b] => if Z0 x = [c] then some (a, b) else none
 | _ => none
theorem Z3r (c : UInt8) (a : List UInt8) : Zy c (.atom a) = none := rfl
theorem Q9 {c : UInt8} {x a b : Tr} (h : Z0 x = [c]) : Zy c (.list [x, a, b]) = some (a, b) := by simp [Zy, h]
theorem Z0w {c : UInt8} {x a b : Tr} (h : ¬ Z0 x = [c]) : Zy c (.list [x, a, b]) = none := by simp [Zy, h]
abbrev Env := List (Nm × Tr)
def Yu : List (Nm × Tr) → Nm → Option Tr
 | [], _ => none
 | (n, t) :: env, s => if n = s then some t else Yu env s
def tI : Tr := .atom [105]
def Ya : Tr → Bool
 | .atom _ => true
 | .list _ => false
def mkT (c : UInt8) (a b : Tr) : Option Tr := if 1 + a.size + b.size ≤ 16 then some (.list [.atom [c], a, b]) else none
def Yt (o : Op2) (a b : Tr) : Option Tr :=
 match o with
 | .call => match Zy 62 a with | some (x, y) => if x.text = b.text then some y else none | none => none
 | .pair => mkT 42 a b
 | _ => if Ya a = true ∧ Ya b = true then some tI else none
def Qy (o : Op1) (a : Tr) : Option Tr :=
 match o with
 | .fst => (Zy 42 a).map (fun p => p.1)
 | .snd => (Zy 42 a).map (fun p => p.2)
def Ka (x : Ex) : Option Tr → Except Ex Tr
 | some t => .ok t
 | none => .error x
def tyR (env : List (Nm × Tr)) : Ex → Except Ex Tr
 | .name s => Ka (.name s) (Yu env s)
 | .num n => .ok tI
 | .two o a b => match tyR env a with | .error f => .error f | .ok ta => match tyR env b with | .error f => .error f | .ok tb => Ka (.two o a b) (Yt o ta tb)
 | .one o a => match tyR env a with | .error f => .error f | .ok ta => Ka (.one o a) (Qy o ta)
 | .cond a b c => match tyR env a with | .error f => .error f | .ok ta => match tyR env b with | .error f => .error f | .ok tb => match tyR env c with | .error f => .error f | .ok tc => Ka (.cond a b c) (if Ya ta = true ∧ tb.text = tc.text then some tb else none)
 | .lete x e b => match tyR env e with | .error f => .error f | .ok t => tyR ((x, t) :: env) b
 | .func f x A B e => match mkT 62 A B with | none => .error (.func f x A B e) | some T => match tyR ((x, A) :: (f, T) :: env) e with | .error g => .error g | .ok t => Ka (.func f x A B e) (if t.text = B.text then some T else none)
def Kf : Ex → Prop
 | .name _ => True
 | .num _ => True
 | .two _ a b => Kf a ∧ Kf b
 | .one _ a => Kf a
 | .cond a b c => Kf a ∧ Kf b ∧ Kf c
 | .lete _ e b => Kf e ∧ Kf b
 | .func _ _ A B e => Zn A = true ∧ Zn B = true ∧ Kf e
def Qu (env : List (Nm × Tr)) : Prop := ∀ p ∈ env, Zn p.2 = true
theorem Qu.cons {env : List (Nm × Tr)} {s : Nm} {t : Tr} (h : Qu env) (ht : Zn t = true) : Qu ((s, t) :: env) := fun p hp => by
 rcases List.mem_cons.1 hp with rfl | hp
 · exact ht
 · exact h p hp
theorem envOK_nil : Qu [] := fun p hp => by cases hp
theorem lookE_ok {env : List (Nm × Tr)} (h : Qu env) {s : Nm} {t : Tr} (hl : Yu env s = some t) : Zn t = true := by
 induction env with
 | nil => cases hl
 | cons p env ih =>
   obtain ⟨n, u⟩ := p
   simp only [Yu] at hl
   split at hl
   · simp only [Option.some.injEq] at hl; subst hl; exact h (n, u) (by simp)
   · exact ih (fun q hq => h q (by simp [hq])) hl
theorem Zw {t : Tr} (h : Zn t = true) : X5 t = true ∧ t.size ≤ 16 := by simpa [Zn] using h
theorem Ze {t : Tr} (h : Zn t = true) : t.wf ∧ t.bytes ≤ 80 ∧ t.depth ≤ 16 ∧ t.size ≤ 16 ∧ X5 t = true := by
 obtain ⟨h1, h2⟩ := Zw h
 obtain ⟨a, b, c⟩ := K5 _ _ (Nat.le_refl _) h1
 exact ⟨c, by omega, by omega, h2, h1⟩
theorem tI_ok : Zn tI = true := by decide
theorem mkT_ok {c : UInt8} (hc : c = 62 ∨ c = 42) {a b t : Tr} (ha : Zn a = true) (hb : Zn b = true) (h : mkT c a b = some t) : Zn t = true := by
 unfold mkT at h
 split at h
 · rename_i hs
   simp only [Option.some.injEq] at h
   subst h
   have hsz : (Tr.list [.atom [c], a, b]).size = 1 + (a.size + (b.size + 0)) := by simp only [Tr.size, Xo]
   have hty := made_ty hc (Zw ha).1 (Zw hb).1
   unfold Zn
   rw [hty, hsz, Bool.true_and, decide_eq_true_eq]
   omega
 · cases h
theorem sidesTr_got {c : UInt8} {t a b : Tr} (h : Zy c t = some (a, b)) : ∃ x, t = .list [x, a, b] ∧ Z0 x = [c] := by
 unfold Zy at h
 split at h
 · split at h
   · rename_i hx
     simp only [Option.some.injEq, Prod.mk.injEq] at h
     obtain ⟨rfl, rfl⟩ := h
     exact ⟨_, rfl, hx⟩
   · cases h
 · cases h
theorem Xk {c : UInt8} {t a b : Tr} (ht : Zn t = true) (h : Zy c t = some (a, b)) : Zn a = true ∧ Zn b = true := by
 obtain ⟨x, rfl, hx⟩ := sidesTr_got h
 obtain ⟨h1, h2⟩ := Zw ht
 rw [Vy] at h1
 simp only [Bool.and_eq_true] at h1
 simp only [Tr.size, Xo] at h2
 simp only [Zn, Bool.and_eq_true, decide_eq_true_eq]
 exact ⟨⟨h1.1.2, by omega⟩, h1.2, by omega⟩
theorem join2_ok {o : Op2} {a b t : Tr} (ha : Zn a = true) (hb : Zn b = true) (h : Yt o a b = some t) : Zn t = true := by
 cases o <;> simp only [Yt] at h
 · split at h
   · simp only [Option.some.injEq] at h; subst h; exact tI_ok
   · cases h
 · split at h
   · simp only [Option.some.injEq] at h; subst h; exact tI_ok
   · cases h
 · split at h
   · simp only [Option.some.injEq] at h; subst h; exact tI_ok
   · cases h
 · split at h
   · rename_i x y hs
     split at h
     · simp only [Option.some.injEq] at h; subst h; exact (Xk ha hs).2
     · cases h
   · cases h
 · exact mkT_ok (.inr rfl) ha hb h
theorem join1_ok {o : Op1} {a t : Tr} (ha : Zn a = true) (h : Qy o a = some t) : Zn t = true := by
 cases o <;> simp only [Qy, Option.map_eq_some_iff] at h
 · obtain ⟨⟨x, y⟩, hs, rfl⟩ := h; exact (Xk ha hs).1
 · obtain ⟨⟨x, y⟩, hs, rfl⟩ := h; exact (Xk ha hs).2
theorem Z1q {x : Ex} {o : Option Tr} {t : Tr} : Ka x o = .ok t ↔ o = some t := by cases o <;> simp [Ka]
theorem Q8 : ∀ (x : Ex) (env : List (Nm × Tr)) (t : Tr), Qu env → Kf x → tyR env x = .ok t → Zn t = true
 | .name s, env, t, he, hx, h => by simp only [tyR, Z1q] at h; exact lookE_ok he h
 | .num n, env, t, he, hx, h => by simp only [tyR, Except.ok.injEq] at h; subst h; exact tI_ok
 | .two o a b, env, t, he, hx, h => by
   simp only [tyR] at h
   split at h
   · cases h
   · rename_i ta h1
     split at h
     · cases h
     · rename_i tb h2
       rw [Z1q] at h
       exact join2_ok (Q8 a env ta he hx.1 h1) (Q8 b env tb he hx.2 h2) h
 | .one o a, env, t, he, hx, h => by
   simp only [tyR] at h
   split at h
   · cases h
   · rename_i ta h1
     rw [Z1q] at h
     exact join1_ok (Q8 a env ta he hx h1) h
 | .cond a b c, env, t, he, hx, h => by
   simp only [tyR] at h
   split at h
   · cases h
   · split at h
     · cases h
     · rename_i tb h2
       split at h
       · cases h
       · rw [Z1q] at h
         split at h
         · simp only [Option.some.injEq] at h; subst h; exact Q8 b env _ he hx.2.1 h2
         · cases h
 | .lete x e b, env, t, he, hx, h => by
   simp only [tyR] at h
   split at h
   · cases h
   · rename_i te h1
     exact Q8 b _ t (he.cons (Q8 e env te he hx.1 h1)) hx.2 h
 | .func f x A B e, env, t, he, hx, h => by
   simp only [tyR] at h
   split at h
   · cases h
   · rename_i T h1
     split at h
     · cases h
     · rw [Z1q] at h
       split at h
       · simp only [Option.some.injEq] at h; subst h; exact mkT_ok (.inl rfl) hx.1 hx.2.1 h1
       · cases h
mutual
theorem Vr : ∀ (t : Tr) (x : Ex), Yg t = some x → Kf x
 | .atom a, x, h => by
   simp only [Yg, Qs] at h
   split at h
   · simp only [Option.some.injEq] at h; subst h; trivial
   · split at h
     · simp only [Option.some.injEq] at h; subst h; trivial
     · cases h
 | .list [], x, h => by simp [Yg, Qf] at h
 | .list (h0 :: ps), x, h => by
   simp only [Yg, Qf] at h
   split at h
   · match ps, h with
     | [s, e, b], h =>
       simp only [Q1] at h
       split at h
       · split at h
         · cases h
         · rename_i e' he
           split at h
           · cases h
           · rename_i b' hb
             simp only [Option.some.injEq] at h; subst h
             exact ⟨Vr e e' he, Vr b b' hb⟩
       · cases h
   · split at h
     · match ps, h with
       | [f, s, A, B, e], h =>
         simp only [X3] at h
         split at h
         · rename_i hz
           split at h
           · cases h
           · rename_i e' he
             simp only [Option.some.injEq] at h; subst h
             simp only [Bool.and_eq_true] at hz
             exact ⟨hz.1.2, hz.2, Vr e e' he⟩
         · cases h
     · simp only [Option.bind_eq_some_iff] at h
       obtain ⟨es, h1, h2⟩ := h
       have hk := Z5f ps es h1
       match es, h2 with
       | [a], h2 =>
         simp only [Yi, Option.map_eq_some_iff] at h2
         obtain ⟨o, ho, rfl⟩ := h2
         exact hk a (by simp)
       | [a, b], h2 =>
         simp only [Yi, Option.map_eq_some_iff] at h2
         obtain ⟨o, ho, rfl⟩ := h2
         exact ⟨hk a (by simp), hk b (by simp)⟩
       | [a, b, c], h2 =>
         simp only [Yi] at h2
         split at h2
         · simp only [Option.some.injEq] at h2; subst h2
           exact ⟨hk a (by simp), hk b (by simp), hk c (by simp)⟩
         · cases h2
theorem Z5f : ∀ (ts : List Tr) (es : List Ex), Yh ts = some es → ∀ e ∈ es, Kf e
 | [], es, h, e, he => by simp only [Yh, Option.some.injEq] at h; subst h; cases he
 | t :: ts, es, h, e, he => by
   simp only [Yh] at h
   split at h
   · cases h
   · rename_i e' h1
     split at h
     · cases h
     · rename_i es' h2
       simp only [Option.some.injEq] at h
       subst h
       rcases List.mem_cons.1 he with rfl | he
       · exact Vr t _ h1
       · exact Z5f ts es' h2 e he
end
theorem Z1k {l : List UInt8} {x : Ex} (h : Yf l = some x) : Kf x := by
 cases hp : Zt l with
 | none => rw [K9 hp] at h; cases h
 | some t =>
   rw [Qj hp] at h
   split at h
   · exact Vr t x h
   · cases h
theorem text_inj {a b : Tr} (ha : a.wf) (hb : b.wf) (h : a.text = b.text) : a = b := by
 have e1 := Vm (a.depth + b.depth + 1) a ha (by omega) [] (fun _ _ c r' e => by cases e)
 have e2 := Vm (a.depth + b.depth + 1) b hb (by omega) [] (fun _ _ c r' e => by cases e)
 rw [← h, e1] at e2
 simpa using e2
theorem Qb {t : Tr} (h : t.wf) : t.text ≠ [] := by
 have h1 := Q2 t h
 have h2 := Zr t h
 intro e
 rw [e] at h2
 simp only [List.length_nil] at h2
 omega
theorem Jg {t : Tr} (h : Zn t = true) : Y3 t.text = some t := by
 obtain ⟨h1, h2, h3, h4, h5⟩ := Ze h
 rw [K8 (Jz h1 (by omega) (by omega)), h5]
 simp [h4]
def Qa : List (Nm × Tr) → List Nm → List (List UInt8) → Option (List (Nm × Tr))
 | env, n :: ns, t :: ts => match Y3 t with | none => none | some u => if Yl n = true then Qa ((n, u) :: env) ns ts else none
 | env, [], [] => some env
 | _, _, _ => none
def Q7 (ns : List Nm) (ts : List (List UInt8)) : Option (List (Nm × Tr)) := if ns.length ≤ 8 ∧ ns.length = ts.length then Qa [] ns ts else none
theorem Z5k : ∀ (ns : List Nm) (ts : List (List UInt8)) (env : List (Nm × Tr)) (n : Nm) (t : List UInt8), ns.length = ts.length →
 Qa env (ns ++ [n]) (ts ++ [t]) = (Qa env ns ts).bind (fun e => match Y3 t with | none => none | some u => if Yl n = true then some ((n, u) :: e) else none)
 | [], [], env, n, t, _ => by
   simp only [List.nil_append, Qa, Option.bind_some]
 | m :: ns, s :: ts, env, n, t, h => by
   simp only [List.cons_append, Qa]
   cases Y3 s with
   | none => simp
   | some u =>
     by_cases hm : Yl m = true
     · simp only [hm, if_true]
       exact Z5k ns ts _ n t (by simpa using h)
     · simp [hm]
 | [], _ :: _, env, n, t, h => by simp at h
 | _ :: _, [], env, n, t, h => by simp at h
theorem envAdd_ok : ∀ (ns : List Nm) (ts : List (List UInt8)) (env e : List (Nm × Tr)), Qu env → Qa env ns ts = some e → Qu e
 | [], [], env, e, he, h => by simp only [Qa, Option.some.injEq] at h; subst h; exact he
 | [], _ :: _, env, e, he, h => by simp [Qa] at h
 | _ :: _, [], env, e, he, h => by simp [Qa] at h
 | n :: ns, t :: ts, env, e, he, h => by
   simp only [Qa] at h
   split at h
   · cases h
   · rename_i u hu
     split at h
     · exact envAdd_ok ns ts _ e (he.cons (by obtain ⟨_, _, _, _, q1, q2⟩ := Qn hu; simp [Zn, q1, q2])) h
     · cases h
theorem Z21 {ns : List Nm} {ts : List (List UInt8)} {e : List (Nm × Tr)} (h : Q7 ns ts = some e) : Qu e := by
 unfold Q7 at h
 split at h
 · exact envAdd_ok ns ts [] e envOK_nil h
 · cases h
def Z1s (ns : List Nm) (ts : List (List UInt8)) (s : Nm) : Option (List UInt8) := (Q7 ns ts).bind (fun e => (Yu e s).map Tr.text)
def Z06 (env : List (Nm × Tr)) : List Nm := (env.map (fun p => p.1)).reverse
def Z05 (env : List (Nm × Tr)) : List (List UInt8) := (env.map (fun p => p.2.text)).reverse
theorem Z0t (n : Nm) (t : Tr) (env : List (Nm × Tr)) : Z06 ((n, t) :: env) = Z06 env ++ [n] := by simp [Z06]
theorem Z0s (n : Nm) (t : Tr) (env : List (Nm × Tr)) : Z05 ((n, t) :: env) = Z05 env ++ [t.text] := by simp [Z05]
theorem Z00 (env : List (Nm × Tr)) : (Z06 env).length = env.length := by simp [Z06]
theorem Z46 (env : List (Nm × Tr)) : (Z05 env).length = env.length := by simp [Z05]
theorem Z47 : ∀ (ns : List Nm) (ts : List (List UInt8)) (env e : List (Nm × Tr)), Qa env ns ts = some e → Z06 e = Z06 env ++ ns ∧ Z05 e = Z05 env ++ ts
 | [], [], env, e, h => by simp only [Qa, Option.some.injEq] at h; subst h; simp
 | [], _ :: _, env, e, h => by simp [Qa] at h
 | _ :: _, [], env, e, h => by simp [Qa] at h
 | n :: ns, t :: ts, env, e, h => by
   simp only [Qa] at h
   split at h
   · cases h
   · rename_i u hu
     split at h
     · obtain ⟨h1, h2⟩ := Z47 ns ts _ e h
       have ht := (Qn hu).2.2.2.1
       rw [h1, h2, Z0t, Z0s, ← ht]
       simp
     · cases h
theorem envOf_lists {ns : List Nm} {ts : List (List UInt8)} {e : List (Nm × Tr)} (h : Q7 ns ts = some e) : ns = Z06 e ∧ ts = Z05 e ∧ ns.length = ts.length ∧ ns.length ≤ 8 := by
 unfold Q7 at h
 split at h
 · rename_i hl
   obtain ⟨h1, h2⟩ := Z47 ns ts [] e h
   exact ⟨by simpa [Z06] using h1.symm, by simpa [Z05] using h2.symm, hl.2, hl.1⟩
 · cases h
theorem Z35 : ∀ (ns : List Nm) (ts : List (List UInt8)) (env : List (Nm × Tr)), ns.length = ts.length → (Qa env ns ts).isSome = (ns.all Yl && ts.all (fun t => (Y3 t).isSome))
 | [], [], env, _ => by simp [Qa]
 | [], _ :: _, env, h => by simp at h
 | _ :: _, [], env, h => by simp at h
 | n :: ns, t :: ts, env, h => by
   simp only [Qa, List.all_cons]
   cases Y3 t with
   | none => simp
   | some u =>
     by_cases hn : Yl n = true
     · simp only [hn, if_true, Option.isSome_some, Bool.true_and]
       exact Z35 ns ts _ (by simpa using h)
     · simp [hn]
theorem Vi (ns : List Nm) (ts : List (List UInt8)) : (Q7 ns ts).isSome = (ns.all Yl && ts.all (fun t => (Y3 t).isSome) && decide (ns.length = ts.length) && decide (ns.length ≤ 8)) := by
 unfold Q7
 by_cases h : ns.length ≤ 8 ∧ ns.length = ts.length
 · rw [if_pos h, Z35 _ _ _ h.2, decide_eq_true h.2, decide_eq_true h.1]; simp
 · rw [if_neg h]
   by_cases h1 : ns.length = ts.length
   · have : ¬ ns.length ≤ 8 := fun q => h ⟨q, h1⟩
     simp [this]
   · simp [h1]
def V6 (ns : List Nm) (ts : List (List UInt8)) (s : Nm) : Nat → List UInt8
 | 0 => []
 | k + 1 => if ns.getD k [] = s then ts.getD k [] else V6 ns ts s k
theorem lookK_app (ns : List Nm) (ts : List (List UInt8)) (s n : Nm) (t : List UInt8) (h : ns.length = ts.length) : ∀ k, k ≤ ns.length → V6 (ns ++ [n]) (ts ++ [t]) s k = V6 ns ts s k
 | 0, _ => rfl
 | k + 1, hk => by
   simp only [V6]
   rw [lookK_app ns ts s n t h k (by omega)]
   rw [List.getD_eq_getElem?_getD, List.getD_eq_getElem?_getD, List.getD_eq_getElem?_getD, List.getD_eq_getElem?_getD, List.getElem?_append_left (by omega), List.getElem?_append_left (by omega)]
theorem lookK_env (s : Nm) : ∀ env : List (Nm × Tr), V6 (Z06 env) (Z05 env) s env.length = ((Yu env s).map Tr.text).getD []
 | [] => rfl
 | (n, t) :: env => by
   have h1 := Z00 env
   have h2 := Z46 env
   rw [Z0t, Z0s, List.length_cons]
   simp only [V6]
   rw [lookK_app _ _ _ _ _ (by omega) _ (by omega), lookK_env s env]
   rw [List.getD_eq_getElem?_getD, List.getD_eq_getElem?_getD, List.getElem?_append_right (by omega), List.getElem?_append_right (by omega), h1, h2]
   simp only [Nat.sub_self, List.getElem?_cons_zero, Option.getD_some, Yu]
   by_cases h : n = s
   · simp [h]
   · simp [h]
theorem lookOf_none {ns : List Nm} {ts : List (List UInt8)} (s : Nm) (h : Q7 ns ts = none) : Z1s ns ts s = none := by simp [Z1s, h]
theorem Z5c {ns : List Nm} {ts : List (List UInt8)} {e : List (Nm × Tr)} (s : Nm) (h : Q7 ns ts = some e) : Z1s ns ts s = (Yu e s).map Tr.text := by simp [Z1s, h]
def Vs (ns : List Nm) (ts : List (List UInt8)) (l : List UInt8) : Option (List UInt8) :=
 match Q7 ns ts with
 | none => none
 | some env => match Yf l with
   | none => none
   | some x => match tyR env x with
     | .error _ => none
     | .ok t => some t.text
theorem tyOf_env {ns : List Nm} {ts : List (List UInt8)} {l : List UInt8} (h : Q7 ns ts = none) : Vs ns ts l = none := by simp [Vs, h]
theorem tyOf_ex {ns : List Nm} {ts : List (List UInt8)} {l : List UInt8} (h : Yf l = none) : Vs ns ts l = none := by
 simp only [Vs, h]; split <;> rfl
theorem tyOf_bad {ns : List Nm} {ts : List (List UInt8)} {l : List UInt8} {env : List (Nm × Tr)} {x f : Ex} (h : Q7 ns ts = some env) (hx : Yf l = some x) (hf : tyR env x = .error f) : Vs ns ts l = none := by simp [Vs, h, hx, hf]
theorem Z2e {ns : List Nm} {ts : List (List UInt8)} {l : List UInt8} {env : List (Nm × Tr)} {x : Ex} {t : Tr} (h : Q7 ns ts = some env) (hx : Yf l = some x) (hf : tyR env x = .ok t) : Vs ns ts l = some t.text := by simp [Vs, h, hx, hf]
def Z60 (l : List UInt8) : Bool := (Vs [] [] l).isSome
theorem Z42 (o : Op2) (p q : Ex) : Yg (Z3 (.two o p q)) = some (.two o p q) ↔ Yg (Z3 p) = some p ∧ Yg (Z3 q) = some q := by
 have h1 : Z3d o ≠ Qr := by cases o <;> decide
 have h2 : Z3d o ≠ Qh := by cases o <;> decide
 simp only [Z3, Yg, Qf]
 rw [if_neg (show ¬ Z0 (Tr.atom (Z3d o)) = Qr from h1), if_neg (show ¬ Z0 (Tr.atom (Z3d o)) = Qh from h2)]
 simp only [Yh, Z0]
 cases Yg (Z3 p) <;> cases Yg (Z3 q) <;> cases o <;> simp [Yi, Jl, Z3d]
theorem Z77 (o : Op1) (p : Ex) : Yg (Z3 (.one o p)) = some (.one o p) ↔ Yg (Z3 p) = some p := by
 have h1 : Z4l o ≠ Qr := by cases o <;> decide
 have h2 : Z4l o ≠ Qh := by cases o <;> decide
 simp only [Z3, Yg, Qf]
 rw [if_neg (show ¬ Z0 (Tr.atom (Z4l o)) = Qr from h1), if_neg (show ¬ Z0 (Tr.atom (Z4l o)) = Qh from h2)]
 simp only [Yh, Z0]
 cases Yg (Z3 p) <;> cases o <;> simp [Yi, Ki, Z4l]
theorem Z4u (p q r : Ex) : Yg (Z3 (.cond p q r)) = some (.cond p q r) ↔ Yg (Z3 p) = some p ∧ Yg (Z3 q) = some q ∧ Yg (Z3 r) = some r := by
 have h1 : kIf ≠ Qr := by decide
 have h2 : kIf ≠ Qh := by decide
 simp only [Z3, Yg, Qf]
 rw [if_neg (show ¬ Z0 (Tr.atom kIf) = Qr from h1), if_neg (show ¬ Z0 (Tr.atom kIf) = Qh from h2)]
 simp only [Yh, Z0]
 cases Yg (Z3 p) <;> cases Yg (Z3 q) <;> cases Yg (Z3 r) <;> simp [Yi]
theorem Z4t (s : Nm) (p q : Ex) : Yg (Z3 (.lete s p q)) = some (.lete s p q) ↔ Yl s = true ∧ Yg (Z3 p) = some p ∧ Yg (Z3 q) = some q := by
 simp only [Z3, Yg, Qf]
 rw [if_pos (show Z0 (Tr.atom Qr) = Qr from rfl)]
 simp only [Q1, Z0]
 cases Yg (Z3 p) <;> cases Yg (Z3 q) <;> by_cases hz : Yl s = true <;> simp [hz]
theorem Z2k (f s : Nm) (A B : Tr) (p : Ex) : Yg (Z3 (.func f s A B p)) = some (.func f s A B p) ↔ (Yl f && Yl s && !(f == s) && Zn A && Zn B) = true ∧ Yg (Z3 p) = some p := by
 have h1 : Qh ≠ Qr := by decide
 simp only [Z3, Yg, Qf]
 rw [if_neg (show ¬ Z0 (Tr.atom Qh) = Qr from h1), if_pos (show Z0 (Tr.atom Qh) = Qh from rfl)]
 simp only [X3]
 show (if (Yl f && Yl s && !(f == s) && Zn A && Zn B) = true then (match Yg (Z3 p) with | none => none | some e' => some (Ex.func f s A B e')) else none) = some (Ex.func f s A B p) ↔ _
 split
 · rename_i hz
   cases Yg (Z3 p) with
   | none => simp
   | some v =>
     simp only [Option.some.injEq, Ex.func.injEq, true_and]
     exact ⟨fun h => ⟨hz, h⟩, fun h => h.2⟩
 · rename_i hz
   exact ⟨(fun h => by cases h), fun h => absurd h.1 hz⟩
def good (x : Ex) : Prop := Yg (Z3 x) = some x
theorem good_nm {s : Nm} (h : good (.name s)) : Yl s = true := by
 unfold good at h
 simp only [Z3, Yg, Qs] at h
 cases hn : Qx s with
 | some n => simp [hn] at h
 | none =>
   simp only [hn] at h
   split at h
   · assumption
   · cases h
theorem good_of {t : Tr} {x : Ex} (h : Yg t = some x) : good x := by unfold good; rw [Kq _ _ h]; exact h
end Go.Proofs.YtmgepnacjgbfhaaGreatDoor
