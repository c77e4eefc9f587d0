/- Numerals: what they are, and their numbers. Expressions: names, and the tree of an expression. The heads of expressions. The different atoms of a form. Free names of expressions; the kids of an expression and the names bound in them. -/
import Derived.WalkKit
import Derived.Lib.Atoi
import Derived.Shelf.Strings.Prefix
import Derived.Test.YtfknoigbkleanaaGreatDoorxB1
namespace Go.Proofs.YtfknoigbkleanaaGreatDoor
set_option maxHeartbeats 20000000
set_option linter.unusedVariables false
set_option linter.unusedSimpArgs false
def Zi : List UInt8 → List UInt8
 | [] => []
 | b :: r => if b = 45 then r else b :: r
def Kx : List UInt8 → Int
 | [] => 1
 | b :: _ => if b = 45 then -1 else 1
def Qb (l : List UInt8) : Option Int :=
 if l = [48] then some 0
 else if 1 ≤ (Zi l).length ∧ (Zi l).length ≤ 3 ∧ (Zi l).head? ≠ some 48 then (Lib.decFrom 0 (Zi l)).map (fun (m : Nat) => Kx l * (m : Int))
 else none
theorem Z4h (l : List UInt8) : (Zi l).length ≤ l.length ∧ l.length ≤ (Zi l).length + 1 := by
 cases l with
 | nil => simp [Zi]
 | cons b r => simp only [Zi]; split <;> simp
theorem Ja : ∀ (l : List UInt8) (acc k : Nat) (b : UInt8), l[k]? = some b → Lib.digitVal b = none → Lib.decFrom acc l = none
 | [], acc, k, b, h, _ => by simp at h
 | a :: l, acc, 0, b, h, hb => by
   simp only [List.getElem?_cons_zero, Option.some.injEq] at h
   subst h
   simp [Lib.decFrom, hb]
 | a :: l, acc, k + 1, b, h, hb => by
   simp only [List.getElem?_cons_succ] at h
   simp only [Lib.decFrom]
   split
   · exact Ja l _ k b h hb
   · rfl
theorem V9 : ∀ (l : List UInt8) (acc m : Nat), Lib.decFrom acc l = some m → m < (acc + 1) * 10 ^ l.length
 | [], acc, m, h => by simp only [Lib.decFrom, Option.some.injEq] at h; subst h; simp
 | b :: l, acc, m, h => by
   simp only [Lib.decFrom] at h
   split at h
   · rename_i d hd
     have hd9 : d ≤ 9 := by
      unfold Lib.digitVal at hd
      split at hd
      · simp only [Option.some.injEq] at hd; omega
      · cases hd
     have ih := V9 l _ m h
     have e : (acc * 10 + d + 1) ≤ (acc + 1) * 10 := by omega
     have h2 := Nat.mul_le_mul_right (10 ^ l.length) e
     rw [List.length_cons, Nat.pow_succ, Nat.mul_comm (10 ^ l.length) 10, ← Nat.mul_assoc]
     omega
   · cases h
theorem atoi_num {l : List UInt8} {m : Nat} (hne : l ≠ [48]) (hd : Zi l ≠ []) (hm : Lib.decFrom 0 (Zi l) = some m) : Lib.atoi l = some (Kx l * (m : Int)) := by
 cases l with
 | nil => simp [Zi] at hd
 | cons b r =>
   simp only [Lib.atoi, Zi, Kx] at hd hm ⊢
   by_cases h45 : b = 45
   · subst h45
     simp only [if_true] at hd hm
     have : r.isEmpty = false := by simpa using hd
     simp [Lib.decNat, this, hm]
   · rw [if_neg h45] at hd hm
     have h1 : (b == 45) = false := by simpa using h45
     have h43 : (b == 43) = false := by
      simp only [beq_eq_false_iff_ne, ne_eq]
      intro e
      subst e
      simp [Lib.decFrom, Lib.digitVal] at hm
     simp [h1, h43, Lib.decNat, hm, h45]
theorem trim_minus (l : List UInt8) : Lib.trimPrefix l [45] = Zi l := by
 cases l with
 | nil => rfl
 | cons b r =>
   by_cases h : b = 45
   · subst h; simp [Zi, Lib.trimPrefix, Lib.hasPrefix]
   · simp [Zi, Lib.trimPrefix, Lib.hasPrefix, h]; try exact fun e => h e.symm
theorem Z70 : Qb [48] = some 0 := by simp [Qb]
theorem Vd {l : List UInt8} (h0 : l ≠ [48]) (h : ¬ (1 ≤ (Zi l).length ∧ (Zi l).length ≤ 3 ∧ (Zi l).head? ≠ some 48)) : Qb l = none := by rw [Qb, if_neg h0, if_neg h]
theorem Z2l {l : List UInt8} (h0 : l ≠ [48]) (h : 1 ≤ (Zi l).length ∧ (Zi l).length ≤ 3 ∧ (Zi l).head? ≠ some 48) : Qb l = (Lib.decFrom 0 (Zi l)).map (fun (m : Nat) => Kx l * (m : Int)) := by rw [Qb, if_neg h0, if_pos h]
end Go.Proofs.YtfknoigbkleanaaGreatDoor
namespace Go.Proofs.YtfknoigbkleanaaGreatDoor
open Go.RowKit Go.Proofs.Tryz
set_option maxRecDepth 8000
set_option maxHeartbeats 20000000
set_option linter.unusedVariables false
set_option linter.unusedSimpArgs false
def Yi : List UInt8 → Bool
 | [] => false
 | b :: r => decide (r.length ≤ 3) && (decide (97 ≤ b.toNat) && decide (b.toNat ≤ 122)) && (Lib.decFrom 0 r).isSome
inductive Op2 where | add | sub | mul | call | pair
deriving DecidableEq
inductive Op1 where | fst | snd
deriving DecidableEq
inductive Ex where
 | name (s : List UInt8)
 | num (n : Int)
 | two (o : Op2) (a b : Ex)
 | one (o : Op1) (a : Ex)
 | cond (a b c : Ex)
 | lete (x : List UInt8) (e b : Ex)
 | func (f x : List UInt8) (A B : Tr) (e : Ex)
def Qq : List UInt8 := [108, 101, 116]
def Qd : List UInt8 := [102, 117, 110]
def kIf : List UInt8 := [105, 102]
def Jx (h : List UInt8) : Option Op2 :=
 if h = [43] then some .add else if h = [45] then some .sub else if h = [42] then some .mul else if h = [99, 97, 108, 108] then some .call else if h = [112, 97, 105, 114] then some .pair else none
def Kq (h : List UInt8) : Option Op1 := if h = [102, 115, 116] then some .fst else if h = [115, 110, 100] then some .snd else none
def Yj (h : List UInt8) : List Ex → Option Ex
 | [a] => (Kq h).map (fun o => .one o a)
 | [a, b] => (Jx h).map (fun o => .two o a b)
 | [a, b, c] => if h = kIf then some (.cond a b c) else none
 | _ => none
def Qh (a : List UInt8) : Option Ex :=
 match Qb a with
 | some n => some (.num n)
 | none => if Yi a = true then some (.name a) else none
def Zs (t : Tr) : Bool := Xe t && decide (t.size ≤ 16)
mutual
def Ye : Tr → Option Ex
 | .atom a => Qh a
 | .list ts => Qo ts
def Qo : List Tr → Option Ex
 | [] => none
 | h :: ps => if Z0 h = Qq then Q4 ps else if Z0 h = Qd then X9 ps else (Yg ps).bind (Yj (Z0 h))
def Q4 : List Tr → Option Ex
 | [x, e, b] =>
   if Yi (Z0 x) = true then
    match Ye e with
    | none => none
    | some e' => match Ye b with
      | none => none
      | some b' => some (.lete (Z0 x) e' b')
   else none
 | _ => none
def X9 : List Tr → Option Ex
 | [f, x, A, B, e] =>
   if (Yi (Z0 f) && Yi (Z0 x) && !(Z0 f == Z0 x) && Zs A && Zs B) = true then
    match Ye e with
    | none => none
    | some e' => some (.func (Z0 f) (Z0 x) A B e')
   else none
 | _ => none
def Yg : List Tr → Option (List Ex)
 | [] => some []
 | t :: ts => match Ye t with
   | none => none
   | some e => match Yg ts with
     | none => none
     | some es => some (e :: es)
end
def Yf (l : List UInt8) : Option Ex :=
 match Zt l with
 | none => none
 | some t => if t.size ≤ 120 then Ye t else none
theorem Kl {l : List UInt8} (h : Zt l = none) : Yf l = none := by simp [Yf, h]
theorem J9 {l : List UInt8} {t : Tr} (h : Zt l = some t) : Yf l = if t.size ≤ 120 then Ye t else none := by simp [Yf, h]
def Yl (h : List UInt8) : Nat × Nat :=
 if h = [43] ∨ h = [45] ∨ h = [42] ∨ h = [99, 97, 108, 108] ∨ h = [112, 97, 105, 114] then (1, 3)
 else if h = kIf then (1, 4)
 else if h = Qq then (2, 4)
 else if h = Qd then (5, 6)
 else if h = [102, 115, 116] ∨ h = [115, 110, 100] then (1, 2)
 else (0, 0)
theorem Z37 : ∀ ts : List Tr, (Yg ts).isSome = ts.all (fun t => (Ye t).isSome)
 | [] => by simp [Yg]
 | t :: ts => by
   have ih := Z37 ts
   simp only [Yg, List.all_cons]
   cases Ye t with
   | none => simp
   | some e =>
     simp only [Option.isSome_some, Bool.true_and]
     rw [← ih]
     cases Yg ts <;> rfl
theorem Z0l : ∀ (ts : List Tr) (es : List Ex), Yg ts = some es → es.length = ts.length
 | [], es, h => by simp only [Yg, Option.some.injEq] at h; subst h; rfl
 | t :: ts, es, h => by
   simp only [Yg] at h
   split at h
   · cases h
   · split at h
     · cases h
     · rename_i es' hs
       simp only [Option.some.injEq] at h
       subst h
       simp [Z0l ts es' hs]
theorem mkHead_isSome (h : List UInt8) (es : List Ex) : (Yj h es).isSome = ((decide (es.length = 1) && (Kq h).isSome) || (decide (es.length = 2) && (Jx h).isSome) || (decide (es.length = 3) && decide (h = kIf))) := by
 match es with
 | [] => simp [Yj]
 | [a] => simp [Yj]
 | [a, b] => simp [Yj]
 | [a, b, c] => by_cases q : h = kIf <;> simp [Yj, q]
 | _ :: _ :: _ :: _ :: _ => simp [Yj]
def J3 (h : Tr) (ps : List Tr) : Bool :=
 decide ((Yl (Z0 h)).1 ≠ 0) && decide (ps.length + 1 = (Yl (Z0 h)).2) && (decide ((Yl (Z0 h)).1 ≤ 1) || Yi (Z0 (ps.getD 0 default))) &&
  (decide ((Yl (Z0 h)).1 ≠ 5) || (Yi (Z0 (ps.getD 1 default)) && !(Z0 (ps.getD 0 default) == Z0 (ps.getD 1 default)) && Zs (ps.getD 2 default) && Zs (ps.getD 3 default)))
theorem Z18 (h : List UInt8) : (h = Qq ∧ Yl h = (2, 4)) ∨ (h = Qd ∧ Yl h = (5, 6)) ∨ (h ≠ Qq ∧ h ≠ Qd ∧
 (((Jx h).isSome = true ∧ Kq h = none ∧ h ≠ kIf ∧ Yl h = (1, 3)) ∨ (Jx h = none ∧ Kq h = none ∧ h = kIf ∧ Yl h = (1, 4)) ∨ (Jx h = none ∧ (Kq h).isSome = true ∧ h ≠ kIf ∧ Yl h = (1, 2)) ∨ (Jx h = none ∧ Kq h = none ∧ h ≠ kIf ∧ Yl h = (0, 0)))) := by
 by_cases h1 : h = Qq
 · subst h1; exact .inl ⟨rfl, by decide⟩
 by_cases h2 : h = Qd
 · subst h2; exact .inr (.inl ⟨rfl, by decide⟩)
 refine .inr (.inr ⟨h1, h2, ?_⟩)
 by_cases a1 : h = [43]
 · subst a1; exact .inl (by decide)
 by_cases a2 : h = [45]
 · subst a2; exact .inl (by decide)
 by_cases a3 : h = [42]
 · subst a3; exact .inl (by decide)
 by_cases a4 : h = [99, 97, 108, 108]
 · subst a4; exact .inl (by decide)
 by_cases a5 : h = [112, 97, 105, 114]
 · subst a5; exact .inl (by decide)
 by_cases a6 : h = kIf
 · subst a6; exact .inr (.inl (by decide))
 by_cases a7 : h = [102, 115, 116]
 · subst a7; exact .inr (.inr (.inl (by decide)))
 by_cases a8 : h = [115, 110, 100]
 · subst a8; exact .inr (.inr (.inl (by decide)))
 · refine .inr (.inr (.inr ⟨?_, ?_, a6, ?_⟩))
   · simp [Jx, a1, a2, a3, a4, a5]
   · simp [Kq, a7, a8]
   · simp [Yl, a1, a2, a3, a4, a5, a6, a7, a8, h1, h2]
theorem Z4j (h : Tr) (ps : List Tr) : (Qo (h :: ps)).isSome = (J3 h ps && ((h :: ps).drop (Yl (Z0 h)).1).all (fun t => (Ye t).isSome)) := by
 rcases Z18 (Z0 h) with ⟨e, k⟩ | ⟨e, k⟩ | ⟨n1, n2, r⟩
 · simp only [Qo, J3, if_pos e, k]
   match ps with
   | [] => simp [Q4]
   | [_] => simp [Q4]
   | [_, _] => simp [Q4]
   | [x, a, b] =>
     simp only [Q4]
     cases hx : Yi (Z0 x) with
     | false => simp [hx]
     | true =>
       simp only [if_true]
       cases ha : Ye a <;> cases hb : Ye b <;> simp [hx, ha, hb]
   | _ :: _ :: _ :: _ :: _ => simp [Q4]
 · have hl : ¬ Z0 h = Qq := by rw [e]; decide
   simp only [Qo, J3, if_neg hl, if_pos e, k]
   match ps with
   | [] => simp [X9]
   | [_] => simp [X9]
   | [_, _] => simp [X9]
   | [_, _, _] => simp [X9]
   | [_, _, _, _] => simp [X9]
   | [f, x, A, B, b] =>
     simp only [X9]
     cases hb : (Yi (Z0 f) && Yi (Z0 x) && !(Z0 f == Z0 x) && Zs A && Zs B) with
     | false =>
       simp only [Bool.false_eq_true, if_false, Option.isSome_none, List.getD_cons_zero, List.getD_cons_succ]
       symm
       cases h1 : Yi (Z0 f) <;> cases h2 : Yi (Z0 x) <;> cases h3 : (Z0 f == Z0 x) <;> cases h4 : Zs A <;> cases h5 : Zs B <;> simp_all
     | true =>
       simp only [if_true]
       simp only [Bool.and_eq_true] at hb
       obtain ⟨⟨⟨⟨b1, b2⟩, b3⟩, b4⟩, b5⟩ := hb
       simp only [List.getD_cons_zero, List.getD_cons_succ, b1, b2, b3, b4, b5, List.drop_succ_cons, List.drop_zero, List.all_cons, List.all_nil, List.length_cons, List.length_nil]
       cases hb : Ye b <;> simp
   | _ :: _ :: _ :: _ :: _ :: _ :: _ => simp [X9]
 · simp only [Qo, if_neg n1, if_neg n2]
   have hk : ∀ es, Yg ps = some es → (Yj (Z0 h) es).isSome = ((decide (ps.length = 1) && (Kq (Z0 h)).isSome) || (decide (ps.length = 2) && (Jx (Z0 h)).isSome) || (decide (ps.length = 3) && decide (Z0 h = kIf))) := fun es he => by rw [mkHead_isSome, Z0l ps es he]
   have hall := Z37 ps
   have hbody : ((Yg ps).bind (Yj (Z0 h))).isSome = (((decide (ps.length = 1) && (Kq (Z0 h)).isSome) || (decide (ps.length = 2) && (Jx (Z0 h)).isSome) || (decide (ps.length = 3) && decide (Z0 h = kIf))) && ps.all (fun t => (Ye t).isSome)) := by
    cases he : Yg ps with
    | none => rw [he] at hall; rw [← hall]; simp
    | some es => rw [he] at hall; rw [← hall, Option.bind_some, hk es he]; simp
   rw [hbody]
   rcases r with ⟨r1, r2, r3, k⟩ | ⟨r1, r2, r3, k⟩ | ⟨r1, r2, r3, k⟩ | ⟨r1, r2, r3, k⟩
   · simp [J3, k, r1, r2, r3]
   · have r4 : decide (Z0 h = kIf) = true := by simp [r3]
     rw [J3, k, r1, r2, r4]
     simp
   · simp [J3, k, r1, r2, r3]
   · simp [J3, k, r1, r2, r3]
def sName : List UInt8 := [110, 97, 109, 101]
def sNumber : List UInt8 := [110, 117, 109, 98, 101, 114]
def Z1y : Op2 → List UInt8
 | .add => [43] | .sub => [45] | .mul => [42] | .call => [99, 97, 108, 108] | .pair => [112, 97, 105, 114]
def Z3l : Op1 → List UInt8
 | .fst => [102, 115, 116] | .snd => [115, 110, 100]
def headOf : Ex → List UInt8
 | .name _ => sName
 | .num _ => sNumber
 | .two o _ _ => Z1y o
 | .one o _ => Z3l o
 | .cond _ _ _ => kIf
 | .lete _ _ _ => Qq
 | .func _ _ _ _ _ => Qd
def headT : Tr → List UInt8
 | .atom a => if Yi a = true then sName else sNumber
 | .list [] => []
 | .list (h :: _) => Z0 h
theorem Z1z {a : List UInt8} {n : Int} (h : Qb a = some n) : Yi a = false := by
 cases a with
 | nil => rfl
 | cons b r =>
   cases hn : Yi (b :: r) with
   | false => rfl
   | true =>
     exfalso
     simp only [Yi, Bool.and_eq_true, decide_eq_true_eq] at hn
     obtain ⟨⟨_, h1, h2⟩, _⟩ := hn
     have hb45 : b ≠ 45 := fun e => by subst e; exact absurd h1 (by decide)
     have hb48 : b :: r ≠ [48] := fun e => by simp only [List.cons.injEq] at e; rw [e.1] at h1; exact absurd h1 (by decide)
     have hdg : Zi (b :: r) = b :: r := by simp [Zi, hb45]
     have hdv : Lib.digitVal b = none := by simp only [Lib.digitVal]; rw [if_neg (by omega)]
     have hnone := Ja (b :: r) 0 0 b rfl hdv
     simp only [Qb, if_neg hb48, hdg, hnone, Option.map_none] at h
     split at h <;> cases h
theorem op2Of_name {h : List UInt8} {o : Op2} (e : Jx h = some o) : Z1y o = h := by
 unfold Jx at e
 repeat' split at e
 all_goals first | (simp only [Option.some.injEq] at e; subst e; rename_i hh; simp only [Z1y]; exact hh.symm) | cases e
theorem op1Of_name {h : List UInt8} {o : Op1} (e : Kq h = some o) : Z3l o = h := by
 unfold Kq at e
 repeat' split at e
 all_goals first | (simp only [Option.some.injEq] at e; subst e; rename_i hh; simp only [Z3l]; exact hh.symm) | cases e
def Ji (l : List (List UInt8)) (a : List UInt8) : List (List UInt8) := if a ∈ l then l else l ++ [a]
mutual
def Xw : Tr → List (List UInt8) → List (List UInt8)
 | .atom a, l => Ji l a
 | .list ts, l => Q3 ts l
def Q3 : List Tr → List (List UInt8) → List (List UInt8)
 | [], l => l
 | t :: ts, l => Q3 ts (Xw t l)
end
theorem Z05 (a : List UInt8) (l : List (List UInt8)) : Xw (.atom a) l = Ji l a := by simp only [Xw]
theorem Z1h (ts : List Tr) (l : List (List UInt8)) : Xw (.list ts) l = Q3 ts l := by simp only [Xw]
theorem Z5t : ∀ (ts : List Tr) (t : Tr) (l : List (List UInt8)), Q3 (ts ++ [t]) l = Xw t (Q3 ts l)
 | [], t, l => by simp only [List.nil_append, Q3]
 | a :: ts, t, l => by simp only [List.cons_append, Q3]; exact Z5t ts t _
theorem atomss_take (ts : List Tr) (l : List (List UInt8)) (k : Nat) (h : k < ts.length) : Q3 (ts.take (k + 1)) l = Xw ts[k] (Q3 (ts.take k) l) := by rw [Ke _ _ h, Z5t]
theorem addA_len (l : List (List UInt8)) (a : List UInt8) : l.length ≤ (Ji l a).length ∧ (Ji l a).length ≤ l.length + 1 := by
 unfold Ji; split <;> simp
mutual
theorem atoms_len : ∀ (t : Tr) (l : List (List UInt8)), t.wf → l.length ≤ (Xw t l).length ∧ (Xw t l).length ≤ l.length + t.size
 | .atom a, l, _ => by rw [Z05]; have := addA_len l a; simp only [Tr.size]; omega
 | .list ts, l, h => by rw [Z1h]; have := Z1g ts l h.2; simp only [Tr.size]; omega
theorem Z1g : ∀ (ts : List Tr) (l : List (List UInt8)), wfs ts → l.length ≤ (Q3 ts l).length ∧ (Q3 ts l).length ≤ l.length + Ys ts
 | [], l, _ => by simp [Q3, Ys]
 | t :: ts, l, h => by
   have h1 := atoms_len t l h.1
   have h2 := Z1g ts (Xw t l) h.2
   simp only [Q3, Ys]; omega
end
def Vo (s : List UInt8) : Option (List (List UInt8)) := (Zt s).map (fun t => Xw t [])
theorem atomsOf_none {s : List UInt8} (h : Zt s = none) : Vo s = none := by simp [Vo, h]
theorem atomsOf_some {s : List UInt8} {t : Tr} (h : Zt s = some t) : Vo s = some (Xw t []) := by simp [Vo, h]
theorem wfs_take6 {ts : List Tr} (h : wfs ts) (k : Nat) : wfs (ts.take k) := by
 induction ts generalizing k with
 | nil => simp [wfs]
 | cons a ts ih => cases k with
   | zero => simp [wfs]
   | succ k => exact ⟨h.1, ih h.2 k⟩
theorem Z67 (ts : List Tr) (l : List (List UInt8)) (k : Nat) (h : wfs ts) : l.length ≤ (Q3 (ts.take k) l).length ∧ (Q3 (ts.take k) l).length ≤ l.length + Ys (ts.take k) := Z1g _ _ (wfs_take6 h k)
abbrev Nm := List UInt8
def rm (bs : List Nm) (l : List Nm) : List Nm := l.filter (fun n => decide (n ∉ bs))
theorem Ky (l : List Nm) : rm [] l = l := by simp [rm]
theorem Z4s (a l : List Nm) : (rm a l).length ≤ l.length := List.length_filter_le _ _
def Zj : Ex → List Nm
 | .name s => [s]
 | .num _ => []
 | .two _ a b => Zj a ++ Zj b
 | .one _ a => Zj a
 | .cond a b c => Zj a ++ Zj b ++ Zj c
 | .lete x e b => Zj e ++ rm [x] (Zj b)
 | .func f x _ _ e => rm [f, x] (Zj e)
def Zd : Ex → List Ex
 | .name _ => []
 | .num _ => []
 | .two _ a b => [a, b]
 | .one _ a => [a]
 | .cond a b c => [a, b, c]
 | .lete _ e b => [e, b]
 | .func _ _ _ _ e => [e]
def Yd : Ex → Nat → List Nm
 | .lete x _ _, j => if j = 1 then [x] else []
 | .func f x _ _ _, _ => [f, x]
 | _, _ => []
def Y2 (b : Nat → List Nm) : Nat → List Ex → List Nm
 | _, [] => []
 | j, k :: ks => rm (b j) (Zj k) ++ Y2 b (j + 1) ks
theorem Z5p (b : Nat → List Nm) (e : Ex) : ∀ (ks : List Ex) (j : Nat), Y2 b j (ks ++ [e]) = Y2 b j ks ++ rm (b (j + ks.length)) (Zj e)
 | [], j => by simp [Y2]
 | k :: ks, j => by
   simp only [List.cons_append, Y2, Z5p b e ks (j + 1), List.length_cons, List.append_assoc]
   rw [show j + 1 + ks.length = j + (ks.length + 1) by omega]
theorem Qu (b : Nat → List Nm) (ks : List Ex) (j : Nat) (h : j < ks.length) : Y2 b 0 (ks.take (j + 1)) = Y2 b 0 (ks.take j) ++ rm (b j) (Zj ks[j]) := by
 rw [List.take_succ_eq_append_getElem h, Z5p]
 simp [Nat.min_eq_left (Nat.le_of_lt h)]
theorem Jf (b : Nat → List Nm) : ∀ (ks : List Ex) (j i : Nat), (Y2 b i (ks.take j)) <+: (Y2 b i ks)
 | [], j, i => by simp [Y2]
 | k :: ks, 0, i => by simp [Y2]
 | k :: ks, j + 1, i => by
   simp only [List.take_succ_cons, Y2]
   exact (List.prefix_append_right_inj _).2 (Jf b ks j (i + 1))
def notName : Ex → Prop | .name _ => False | _ => True
theorem Yz : ∀ (x : Ex), notName x → Zj x = Y2 (Yd x) 0 (Zd x)
 | .name s, h => h.elim
 | .num _, _ => rfl
 | .two _ a b, _ => by simp [Zj, Zd, Y2, Yd, Ky]
 | .one _ a, _ => by simp [Zj, Zd, Y2, Yd, Ky]
 | .cond a b c, _ => by simp [Zj, Zd, Y2, Yd, Ky]
 | .lete x e b, _ => by simp [Zj, Zd, Y2, Yd, Ky]
 | .func f x _ _ e, _ => by simp [Zj, Zd, Y2, Yd, Ky]
def addF (bnd l P : List Nm) : List Nm := (rm bnd P).foldl Ji l
theorem Z2q (P : List Nm) : ∀ l : List Nm, l.length ≤ (P.foldl Ji l).length ∧ (P.foldl Ji l).length ≤ l.length + P.length := by
 induction P with
 | nil => intro l; simp
 | cons a P ih =>
   intro l
   have h1 := ih (Ji l a)
   have h2 := addA_len l a
   simp only [List.foldl_cons, List.length_cons]
   omega
theorem size_pos : ∀ t : Tr, t.wf → 1 ≤ t.size
 | .atom a, _ => by simp [Tr.size]
 | .list ts, h => by
   cases ts with
   | nil => simp [Tr.wf] at h
   | cons a b =>
     have := size_pos a (by simp only [Tr.wf, wfs] at h; exact h.2.1)
     simp only [Tr.size, Ys]
     omega
def bindT (h : Tr) (ps : List Tr) (i : Nat) : List Nm :=
 if Z0 h = Qq ∧ i = 3 then [Z0 (ps.getD 0 default)] else if Z0 h = Qd then [Z0 (ps.getD 0 default), Z0 (ps.getD 1 default)] else []
structure KidView (h : Tr) (ps : List Tr) (x : Ex) (a : Nat) : Prop where
 at_ : Yl (Z0 h) = (a, ps.length + 1)
 pos : 1 ≤ a
 le : a ≤ ps.length + 1
 len : a + (Zd x).length = ps.length + 1
 kid : ∀ j (hj : j < (Zd x).length) (hi : a + j < (h :: ps).length), Ye ((h :: ps)[a + j]) = some ((Zd x)[j])
 bind : ∀ j, j < (Zd x).length → bindT h ps (a + j) = Yd x j
 two : (Z0 h = Qq → 2 ≤ ps.length) ∧ (Z0 h = Qd → 2 ≤ ps.length)
 nn : notName x
theorem Z3o : ∀ (ts : List Tr) (es : List Ex), Yg ts = some es → ∀ j (hj : j < ts.length) (hj2 : j < es.length), Ye ts[j] = some es[j]
 | [], es, h, j, hj, _ => by simp at hj
 | t :: ts, es, h, j, hj, hj2 => by
   simp only [Yg] at h
   split at h
   · cases h
   · rename_i e he
     split at h
     · cases h
     · rename_i es' hs
       simp only [Option.some.injEq] at h
       subst h
       cases j with
       | zero => simpa using he
       | succ j => simpa using Z3o ts es' hs j (by simpa using hj) (by simpa using hj2)
theorem mkHead_kids {h : List UInt8} {es : List Ex} {x : Ex} (e : Yj h es = some x) : Zd x = es ∧ (∀ j, Yd x j = []) ∧ notName x := by
 match es, e with
 | [], e => cases e
 | [a], e =>
   simp only [Yj, Option.map_eq_some_iff] at e
   obtain ⟨o, ho, rfl⟩ := e
   exact ⟨rfl, fun _ => rfl, trivial⟩
 | [a, b], e =>
   simp only [Yj, Option.map_eq_some_iff] at e
   obtain ⟨o, ho, rfl⟩ := e
   exact ⟨rfl, fun _ => rfl, trivial⟩
 | [a, b, c], e =>
   simp only [Yj] at e
   split at e
   · simp only [Option.some.injEq] at e
     subst e; exact ⟨rfl, fun _ => rfl, trivial⟩
   · cases e
 | _ :: _ :: _ :: _ :: _, e => cases e
theorem kidView {h : Tr} {ps : List Tr} {x : Ex} (e : Ye (.list (h :: ps)) = some x) : ∃ a, KidView h ps x a := by
 have hok := Z4j h ps
 have e2 : Qo (h :: ps) = some x := by simpa only [Ye] using e
 simp only [e2, Option.isSome_some] at hok
 have hok1 := hok.symm
 simp only [Bool.and_eq_true] at hok1
 have hoh := hok1.1
 simp only [J3, Bool.and_eq_true, decide_eq_true_eq] at hoh
 obtain ⟨⟨⟨k0, klen⟩, _⟩, _⟩ := hoh
 simp only [Qo] at e2
 split at e2
 · rename_i hl
   unfold Q4 at e2
   split at e2
   · rename_i x0 e0 b0
     split at e2
     · split at e2
       · cases e2
       · rename_i e' he
         split at e2
         · cases e2
         · rename_i b' hb
           simp only [Option.some.injEq] at e2
           subst e2
           refine ⟨2, ⟨by rw [hl]; rfl, by omega, by simp, by simp [Zd], ?_, ?_, by simp, trivial⟩⟩
           · intro j hj hi
             match j, hj with
             | 0, _ => simpa [Zd] using he
             | 1, _ => simpa [Zd] using hb
           · intro j hj
             match j, hj with
             | 0, _ => simp [bindT, Yd, hl, Qq, Qd]
             | 1, _ => simp [bindT, Yd, hl]
     · cases e2
   · cases e2
 · rename_i hl
   split at e2
   · rename_i hf
     unfold X9 at e2
     split at e2
     · rename_i f0 x0 A0 B0 e0
       split at e2
       · split at e2
         · cases e2
         · rename_i e' he
           simp only [Option.some.injEq] at e2
           subst e2
           refine ⟨5, ⟨by rw [hf]; rfl, by omega, by simp, by simp [Zd], ?_, ?_, by simp, trivial⟩⟩
           · intro j hj hi
             match j, hj with
             | 0, _ => simpa [Zd] using he
           · intro j hj
             match j, hj with
             | 0, _ => simp [bindT, Yd, hf, hl, Qq, Qd]
       · cases e2
     · cases e2
   · rename_i hf
     cases hk : Yg ps with
     | none => simp [hk] at e2
     | some es =>
       simp only [hk, Option.bind_some] at e2
       obtain ⟨q1, q2, q3⟩ := mkHead_kids e2
       have hlen := Z0l ps es hk
       have ha : (Yl (Z0 h)).1 = 1 := by
        rcases Z18 (Z0 h) with ⟨c, k⟩ | ⟨c, k⟩ | ⟨_, _, ⟨_, _, _, k⟩ | ⟨_, _, _, k⟩ | ⟨_, _, _, k⟩ | ⟨_, _, _, k⟩⟩
        · exact absurd c hl
        · exact absurd c hf
        all_goals first | (rw [k]; done) | (rw [k] at k0; exact absurd rfl k0)
       refine ⟨1, ⟨Prod.ext ha klen.symm, Nat.le_refl _, by omega, by rw [q1]; omega, ?_, ?_, ?_, q3⟩⟩
       · intro j hj hi
         have hj2 : j < es.length := by rw [q1] at hj; exact hj
         have := Z3o ps es hk j (by omega) hj2
         simp only [q1]
         rw [← this]
         congr 1
         rw [List.getElem_cons]
         rw [dif_neg (by omega)]
         congr 1
         omega
       · intro j hj
         rw [q2]
         simp [bindT, hl, hf]
       · exact ⟨fun hh => absurd hh hl, fun hh => absurd hh hf⟩
end Go.Proofs.YtfknoigbkleanaaGreatDoor
