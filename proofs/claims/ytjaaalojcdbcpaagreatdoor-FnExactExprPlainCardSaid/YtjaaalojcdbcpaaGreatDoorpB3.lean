/- Numerals: what they are, and their numbers. Expressions: names, and the tree of an expression. The heads of expressions. The different atoms of a form. Free names of expressions; the kids of an expression and the names bound in them. -/
import Derived.WalkKit
import Derived.Lib.Atoi
import Derived.Shelf.Strings.Prefix
import Derived.Test.YtjaaalojcdbcpaaGreatDoorpB1
set_option maxHeartbeats 20000000
set_option linter.unusedVariables false
set_option linter.unusedSimpArgs false
namespace Go.Proofs.YtjaaalojcdbcpaaGreatDoor
def Ze : List UInt8 → List UInt8
 | [] => []
 | b :: r => if b = 45 then r else b :: r
def J9 : List UInt8 → Int
 | [] => 1
 | b :: _ => if b = 45 then -1 else 1
def Xl (l : List UInt8) : Option Int :=
 if l = [48] then some 0
 else if 1 ≤ (Ze l).length ∧ (Ze l).length ≤ 3 ∧ (Ze l).head? ≠ some 48 then (Lib.decFrom 0 (Ze l)).map (fun (m : Nat) => J9 l * (m : Int))
 else none
theorem Z14 (l : List UInt8) : (Ze l).length ≤ l.length ∧ l.length ≤ (Ze l).length + 1 := by
 cases l with
 | nil => simp [Ze]
 | cons b r => simp only [Ze]; split <;> simp
theorem Q6 : ∀ (l : List UInt8) (acc k : Nat) (b : UInt8), l[k]? = some b → Lib.digitVal b = none → Lib.decFrom acc l = none
 | [], acc, k, b, h, _ => by simp at h
 | a :: l, acc, 0, b, h, hb => by
   simp only [List.getElem?_cons_zero, Option.some.injEq] at h
   subst h
   simp [Lib.decFrom, hb]
 | a :: l, acc, k + 1, b, h, hb => by
   simp only [List.getElem?_cons_succ] at h
   simp only [Lib.decFrom]
   split
   · exact Q6 l _ k b h hb
   · rfl
theorem Ji : ∀ (l : List UInt8) (acc m : Nat), Lib.decFrom acc l = some m → m < (acc + 1) * 10 ^ l.length
 | [], acc, m, h => by simp only [Lib.decFrom, Option.some.injEq] at h; subst h; simp
 | b :: l, acc, m, h => by
   simp only [Lib.decFrom] at h
   split at h
   · rename_i d hd
     have hd9 : d ≤ 9 := by
      unfold Lib.digitVal at hd
      split at hd
      · simp only [Option.some.injEq] at hd; omega
      · cases hd
     have ih := Ji l _ m h
     have e : (acc * 10 + d + 1) ≤ (acc + 1) * 10 := by omega
     have h2 := Nat.mul_le_mul_right (10 ^ l.length) e
     rw [List.length_cons, Nat.pow_succ, Nat.mul_comm (10 ^ l.length) 10, ← Nat.mul_assoc]
     omega
   · cases h
theorem atoi_num {l : List UInt8} {m : Nat} (hne : l ≠ [48]) (hd : Ze l ≠ []) (hm : Lib.decFrom 0 (Ze l) = some m) : Lib.atoi l = some (J9 l * (m : Int)) := by
 cases l with
 | nil => simp [Ze] at hd
 | cons b r =>
   simp only [Lib.atoi, Ze, J9] at hd hm ⊢
   by_cases h45 : b = 45
   · subst h45
     simp only [if_true] at hd hm
     have : r.isEmpty = false := by simpa using hd
     simp [Lib.decNat, this, hm]
   · rw [if_neg h45] at hd hm
     have h1 : (b == 45) = false := by simpa using h45
     have h43 : (b == 43) = false := by
      simp only [beq_eq_false_iff_ne, ne_eq]
      intro e
      subst e
      simp [Lib.decFrom, Lib.digitVal] at hm
     simp [h1, h43, Lib.decNat, hm, h45]
theorem trim_minus (l : List UInt8) : Lib.trimPrefix l [45] = Ze l := by
 cases l with
 | nil => rfl
 | cons b r =>
   by_cases h : b = 45
   · subst h; simp [Ze, Lib.trimPrefix, Lib.hasPrefix]
   · simp [Ze, Lib.trimPrefix, Lib.hasPrefix, h]; try exact fun e => h e.symm
theorem Z2j : Xl [48] = some 0 := by simp [Xl]
theorem Jn {l : List UInt8} (h0 : l ≠ [48]) (h : ¬ (1 ≤ (Ze l).length ∧ (Ze l).length ≤ 3 ∧ (Ze l).head? ≠ some 48)) : Xl l = none := by rw [Xl, if_neg h0, if_neg h]
theorem Vr {l : List UInt8} (h0 : l ≠ [48]) (h : 1 ≤ (Ze l).length ∧ (Ze l).length ≤ 3 ∧ (Ze l).head? ≠ some 48) : Xl l = (Lib.decFrom 0 (Ze l)).map (fun (m : Nat) => J9 l * (m : Int)) := by rw [Xl, if_neg h0, if_pos h]
end Go.Proofs.YtjaaalojcdbcpaaGreatDoor
namespace Go.Proofs.YtjaaalojcdbcpaaGreatDoor
open Go.RowKit Go.Proofs.Tryz
set_option maxRecDepth 8000
set_option maxHeartbeats 20000000
set_option linter.unusedVariables false
set_option linter.unusedSimpArgs false
def Y4 : List UInt8 → Bool
 | [] => false
 | b :: r => decide (r.length ≤ 3) && (decide (97 ≤ b.toNat) && decide (b.toNat ≤ 122)) && (Lib.decFrom 0 r).isSome
inductive Op2 where | add | sub | mul | call | pair
deriving DecidableEq
inductive Op1 where | fst | snd
deriving DecidableEq
inductive Ex where
 | name (s : List UInt8)
 | num (n : Int)
 | two (o : Op2) (a b : Ex)
 | one (o : Op1) (a : Ex)
 | cond (a b c : Ex)
 | lete (x : List UInt8) (e b : Ex)
 | func (f x : List UInt8) (A B : Tr) (e : Ex)
def Yn : List UInt8 := [108, 101, 116]
def Yi : List UInt8 := [102, 117, 110]
def kIf : List UInt8 := [105, 102]
def Qy (h : List UInt8) : Option Op2 :=
 if h = [43] then some .add else if h = [45] then some .sub else if h = [42] then some .mul else if h = [99, 97, 108, 108] then some .call else if h = [112, 97, 105, 114] then some .pair else none
def Jm (h : List UInt8) : Option Op1 := if h = [102, 115, 116] then some .fst else if h = [115, 110, 100] then some .snd else none
def Yd (h : List UInt8) : List Ex → Option Ex
 | [a] => (Jm h).map (fun o => .one o a)
 | [a, b] => (Qy h).map (fun o => .two o a b)
 | [a, b, c] => if h = kIf then some (.cond a b c) else none
 | _ => none
def Xt (a : List UInt8) : Option Ex :=
 match Xl a with
 | some n => some (.num n)
 | none => if Y4 a = true then some (.name a) else none
def Xr (t : Tr) : Bool := Xs t && decide (t.size ≤ 16)
mutual
def Zt : Tr → Option Ex
 | .atom a => Xt a
 | .list ts => Q5 ts
def Q5 : List Tr → Option Ex
 | [] => none
 | h :: ps => if Z1 h = Yn then Xk ps else if Z1 h = Yi then Yr ps else (Y3 ps).bind (Yd (Z1 h))
def Xk : List Tr → Option Ex
 | [x, e, b] =>
   if Y4 (Z1 x) = true then
    match Zt e with
    | none => none
    | some e' => match Zt b with
      | none => none
      | some b' => some (.lete (Z1 x) e' b')
   else none
 | _ => none
def Yr : List Tr → Option Ex
 | [f, x, A, B, e] =>
   if (Y4 (Z1 f) && Y4 (Z1 x) && !(Z1 f == Z1 x) && Xr A && Xr B) = true then
    match Zt e with
    | none => none
    | some e' => some (.func (Z1 f) (Z1 x) A B e')
   else none
 | _ => none
def Y3 : List Tr → Option (List Ex)
 | [] => some []
 | t :: ts => match Zt t with
   | none => none
   | some e => match Y3 ts with
     | none => none
     | some es => some (e :: es)
end
def Zy (l : List UInt8) : Option Ex :=
 match Yt l with
 | none => none
 | some t => if t.size ≤ 120 then Zt t else none
theorem K4 {l : List UInt8} (h : Yt l = none) : Zy l = none := by simp [Zy, h]
theorem Qx {l : List UInt8} {t : Tr} (h : Yt l = some t) : Zy l = if t.size ≤ 120 then Zt t else none := by simp [Zy, h]
def Zz (h : List UInt8) : Nat × Nat :=
 if h = [43] ∨ h = [45] ∨ h = [42] ∨ h = [99, 97, 108, 108] ∨ h = [112, 97, 105, 114] then (1, 3)
 else if h = kIf then (1, 4)
 else if h = Yn then (2, 4)
 else if h = Yi then (5, 6)
 else if h = [102, 115, 116] ∨ h = [115, 110, 100] then (1, 2)
 else (0, 0)
theorem Z06 : ∀ ts : List Tr, (Y3 ts).isSome = ts.all (fun t => (Zt t).isSome)
 | [] => by simp [Y3]
 | t :: ts => by
   have ih := Z06 ts
   simp only [Y3, List.all_cons]
   cases Zt t with
   | none => simp
   | some e =>
     simp only [Option.isSome_some, Bool.true_and]
     rw [← ih]
     cases Y3 ts <;> rfl
theorem Kd : ∀ (ts : List Tr) (es : List Ex), Y3 ts = some es → es.length = ts.length
 | [], es, h => by simp only [Y3, Option.some.injEq] at h; subst h; rfl
 | t :: ts, es, h => by
   simp only [Y3] at h
   split at h
   · cases h
   · split at h
     · cases h
     · rename_i es' hs
       simp only [Option.some.injEq] at h
       subst h
       simp [Kd ts es' hs]
theorem mkHead_isSome (h : List UInt8) (es : List Ex) : (Yd h es).isSome = ((decide (es.length = 1) && (Jm h).isSome) || (decide (es.length = 2) && (Qy h).isSome) || (decide (es.length = 3) && decide (h = kIf))) := by
 match es with
 | [] => simp [Yd]
 | [a] => simp [Yd]
 | [a, b] => simp [Yd]
 | [a, b, c] => by_cases q : h = kIf <;> simp [Yd, q]
 | _ :: _ :: _ :: _ :: _ => simp [Yd]
def Q0 (h : Tr) (ps : List Tr) : Bool :=
 decide ((Zz (Z1 h)).1 ≠ 0) && decide (ps.length + 1 = (Zz (Z1 h)).2) && (decide ((Zz (Z1 h)).1 ≤ 1) || Y4 (Z1 (ps.getD 0 default))) &&
  (decide ((Zz (Z1 h)).1 ≠ 5) || (Y4 (Z1 (ps.getD 1 default)) && !(Z1 (ps.getD 0 default) == Z1 (ps.getD 1 default)) && Xr (ps.getD 2 default) && Xr (ps.getD 3 default)))
theorem Ks (h : List UInt8) : (h = Yn ∧ Zz h = (2, 4)) ∨ (h = Yi ∧ Zz h = (5, 6)) ∨ (h ≠ Yn ∧ h ≠ Yi ∧
 (((Qy h).isSome = true ∧ Jm h = none ∧ h ≠ kIf ∧ Zz h = (1, 3)) ∨ (Qy h = none ∧ Jm h = none ∧ h = kIf ∧ Zz h = (1, 4)) ∨ (Qy h = none ∧ (Jm h).isSome = true ∧ h ≠ kIf ∧ Zz h = (1, 2)) ∨ (Qy h = none ∧ Jm h = none ∧ h ≠ kIf ∧ Zz h = (0, 0)))) := by
 by_cases h1 : h = Yn
 · subst h1; exact .inl ⟨rfl, by decide⟩
 by_cases h2 : h = Yi
 · subst h2; exact .inr (.inl ⟨rfl, by decide⟩)
 refine .inr (.inr ⟨h1, h2, ?_⟩)
 by_cases a1 : h = [43]
 · subst a1; exact .inl (by decide)
 by_cases a2 : h = [45]
 · subst a2; exact .inl (by decide)
 by_cases a3 : h = [42]
 · subst a3; exact .inl (by decide)
 by_cases a4 : h = [99, 97, 108, 108]
 · subst a4; exact .inl (by decide)
 by_cases a5 : h = [112, 97, 105, 114]
 · subst a5; exact .inl (by decide)
 by_cases a6 : h = kIf
 · subst a6; exact .inr (.inl (by decide))
 by_cases a7 : h = [102, 115, 116]
 · subst a7; exact .inr (.inr (.inl (by decide)))
 by_cases a8 : h = [115, 110, 100]
 · subst a8; exact .inr (.inr (.inl (by decide)))
 · refine .inr (.inr (.inr ⟨?_, ?_, a6, ?_⟩))
   · simp [Qy, a1, a2, a3, a4, a5]
   · simp [Jm, a7, a8]
   · simp [Zz, a1, a2, a3, a4, a5, a6, a7, a8, h1, h2]
theorem Z15 (h : Tr) (ps : List Tr) : (Q5 (h :: ps)).isSome = (Q0 h ps && ((h :: ps).drop (Zz (Z1 h)).1).all (fun t => (Zt t).isSome)) := by
 rcases Ks (Z1 h) with ⟨e, k⟩ | ⟨e, k⟩ | ⟨n1, n2, r⟩
 · simp only [Q5, Q0, if_pos e, k]
   match ps with
   | [] => simp [Xk]
   | [_] => simp [Xk]
   | [_, _] => simp [Xk]
   | [x, a, b] =>
     simp only [Xk]
     cases hx : Y4 (Z1 x) with
     | false => simp [hx]
     | true =>
       simp only [if_true]
       cases ha : Zt a <;> cases hb : Zt b <;> simp [hx, ha, hb]
   | _ :: _ :: _ :: _ :: _ => simp [Xk]
 · have hl : ¬ Z1 h = Yn := by rw [e]; decide
   simp only [Q5, Q0, if_neg hl, if_pos e, k]
   match ps with
   | [] => simp [Yr]
   | [_] => simp [Yr]
   | [_, _] => simp [Yr]
   | [_, _, _] => simp [Yr]
   | [_, _, _, _] => simp [Yr]
   | [f, x, A, B, b] =>
     simp only [Yr]
     cases hb : (Y4 (Z1 f) && Y4 (Z1 x) && !(Z1 f == Z1 x) && Xr A && Xr B) with
     | false =>
       simp only [Bool.false_eq_true, if_false, Option.isSome_none, List.getD_cons_zero, List.getD_cons_succ]
       symm
       cases h1 : Y4 (Z1 f) <;> cases h2 : Y4 (Z1 x) <;> cases h3 : (Z1 f == Z1 x) <;> cases h4 : Xr A <;> cases h5 : Xr B <;> simp_all
     | true =>
       simp only [if_true]
       simp only [Bool.and_eq_true] at hb
       obtain ⟨⟨⟨⟨b1, b2⟩, b3⟩, b4⟩, b5⟩ := hb
       simp only [List.getD_cons_zero, List.getD_cons_succ, b1, b2, b3, b4, b5, List.drop_succ_cons, List.drop_zero, List.all_cons, List.all_nil, List.length_cons, List.length_nil]
       cases hb : Zt b <;> simp
   | _ :: _ :: _ :: _ :: _ :: _ :: _ => simp [Yr]
 · simp only [Q5, if_neg n1, if_neg n2]
   have hk : ∀ es, Y3 ps = some es → (Yd (Z1 h) es).isSome = ((decide (ps.length = 1) && (Jm (Z1 h)).isSome) || (decide (ps.length = 2) && (Qy (Z1 h)).isSome) || (decide (ps.length = 3) && decide (Z1 h = kIf))) := fun es he => by rw [mkHead_isSome, Kd ps es he]
   have hall := Z06 ps
   have hbody : ((Y3 ps).bind (Yd (Z1 h))).isSome = (((decide (ps.length = 1) && (Jm (Z1 h)).isSome) || (decide (ps.length = 2) && (Qy (Z1 h)).isSome) || (decide (ps.length = 3) && decide (Z1 h = kIf))) && ps.all (fun t => (Zt t).isSome)) := by
    cases he : Y3 ps with
    | none => rw [he] at hall; rw [← hall]; simp
    | some es => rw [he] at hall; rw [← hall, Option.bind_some, hk es he]; simp
   rw [hbody]
   rcases r with ⟨r1, r2, r3, k⟩ | ⟨r1, r2, r3, k⟩ | ⟨r1, r2, r3, k⟩ | ⟨r1, r2, r3, k⟩
   · simp [Q0, k, r1, r2, r3]
   · have r4 : decide (Z1 h = kIf) = true := by simp [r3]
     rw [Q0, k, r1, r2, r4]
     simp
   · simp [Q0, k, r1, r2, r3]
   · simp [Q0, k, r1, r2, r3]
def sName : List UInt8 := [110, 97, 109, 101]
def sNumber : List UInt8 := [110, 117, 109, 98, 101, 114]
def Z0t : Op2 → List UInt8
 | .add => [43] | .sub => [45] | .mul => [42] | .call => [99, 97, 108, 108] | .pair => [112, 97, 105, 114]
def Z0u : Op1 → List UInt8
 | .fst => [102, 115, 116] | .snd => [115, 110, 100]
def headOf : Ex → List UInt8
 | .name _ => sName
 | .num _ => sNumber
 | .two o _ _ => Z0t o
 | .one o _ => Z0u o
 | .cond _ _ _ => kIf
 | .lete _ _ _ => Yn
 | .func _ _ _ _ _ => Yi
def headT : Tr → List UInt8
 | .atom a => if Y4 a = true then sName else sNumber
 | .list [] => []
 | .list (h :: _) => Z1 h
theorem K5 {a : List UInt8} {n : Int} (h : Xl a = some n) : Y4 a = false := by
 cases a with
 | nil => rfl
 | cons b r =>
   cases hn : Y4 (b :: r) with
   | false => rfl
   | true =>
     exfalso
     simp only [Y4, Bool.and_eq_true, decide_eq_true_eq] at hn
     obtain ⟨⟨_, h1, h2⟩, _⟩ := hn
     have hb45 : b ≠ 45 := fun e => by subst e; exact absurd h1 (by decide)
     have hb48 : b :: r ≠ [48] := fun e => by simp only [List.cons.injEq] at e; rw [e.1] at h1; exact absurd h1 (by decide)
     have hdg : Ze (b :: r) = b :: r := by simp [Ze, hb45]
     have hdv : Lib.digitVal b = none := by simp only [Lib.digitVal]; rw [if_neg (by omega)]
     have hnone := Q6 (b :: r) 0 0 b rfl hdv
     simp only [Xl, if_neg hb48, hdg, hnone, Option.map_none] at h
     split at h <;> cases h
theorem op2Of_name {h : List UInt8} {o : Op2} (e : Qy h = some o) : Z0t o = h := by
 unfold Qy at e
 repeat' split at e
 all_goals first | (simp only [Option.some.injEq] at e; subst e; rename_i hh; simp only [Z0t]; exact hh.symm) | cases e
theorem op1Of_name {h : List UInt8} {o : Op1} (e : Jm h = some o) : Z0u o = h := by
 unfold Jm at e
 repeat' split at e
 all_goals first | (simp only [Option.some.injEq] at e; subst e; rename_i hh; simp only [Z0u]; exact hh.symm) | cases e
def Jq (l : List (List UInt8)) (a : List UInt8) : List (List UInt8) := if a ∈ l then l else l ++ [a]
mutual
def Vi : Tr → List (List UInt8) → List (List UInt8)
 | .atom a, l => Jq l a
 | .list ts, l => atomss ts l
def atomss : List Tr → List (List UInt8) → List (List UInt8)
 | [], l => l
 | t :: ts, l => atomss ts (Vi t l)
end
theorem addA_len (l : List (List UInt8)) (a : List UInt8) : l.length ≤ (Jq l a).length ∧ (Jq l a).length ≤ l.length + 1 := by
 unfold Jq; split <;> simp
def atomsOf (s : List UInt8) : Option (List (List UInt8)) := (Yt s).map (fun t => Vi t [])
abbrev Nm := List UInt8
def rm (bs : List Nm) (l : List Nm) : List Nm := l.filter (fun n => decide (n ∉ bs))
theorem rm_append (bs l m : List Nm) : rm bs (l ++ m) = rm bs l ++ rm bs m := by simp [rm]
theorem J3 (l : List Nm) : rm [] l = l := by simp [rm]
theorem rm_rm (a b l : List Nm) : rm a (rm b l) = rm (a ++ b) l := by
 simp only [rm, List.filter_filter]
 congr 1
 funext n
 simp [List.mem_append, not_or]
theorem Ko (a l : List Nm) : (rm a l).length ≤ l.length := List.length_filter_le _ _
def Zj : Ex → List Nm
 | .name s => [s]
 | .num _ => []
 | .two _ a b => Zj a ++ Zj b
 | .one _ a => Zj a
 | .cond a b c => Zj a ++ Zj b ++ Zj c
 | .lete x e b => Zj e ++ rm [x] (Zj b)
 | .func f x _ _ e => rm [f, x] (Zj e)
def Z4 : Ex → List Ex
 | .name _ => []
 | .num _ => []
 | .two _ a b => [a, b]
 | .one _ a => [a]
 | .cond a b c => [a, b, c]
 | .lete _ e b => [e, b]
 | .func _ _ _ _ e => [e]
def Zq : Ex → Nat → List Nm
 | .lete x _ _, j => if j = 1 then [x] else []
 | .func f x _ _ _, _ => [f, x]
 | _, _ => []
def Zp (b : Nat → List Nm) : Nat → List Ex → List Nm
 | _, [] => []
 | j, k :: ks => rm (b j) (Zj k) ++ Zp b (j + 1) ks
theorem Z1v (b : Nat → List Nm) (e : Ex) : ∀ (ks : List Ex) (j : Nat), Zp b j (ks ++ [e]) = Zp b j ks ++ rm (b (j + ks.length)) (Zj e)
 | [], j => by simp [Zp]
 | k :: ks, j => by
   simp only [List.cons_append, Zp, Z1v b e ks (j + 1), List.length_cons, List.append_assoc]
   rw [show j + 1 + ks.length = j + (ks.length + 1) by omega]
theorem Xc (b : Nat → List Nm) (ks : List Ex) (j : Nat) (h : j < ks.length) : Zp b 0 (ks.take (j + 1)) = Zp b 0 (ks.take j) ++ rm (b j) (Zj ks[j]) := by
 rw [List.take_succ_eq_append_getElem h, Z1v]
 simp [Nat.min_eq_left (Nat.le_of_lt h)]
theorem Q9 (b : Nat → List Nm) : ∀ (ks : List Ex) (j i : Nat), (Zp b i (ks.take j)) <+: (Zp b i ks)
 | [], j, i => by simp [Zp]
 | k :: ks, 0, i => by simp [Zp]
 | k :: ks, j + 1, i => by
   simp only [List.take_succ_cons, Zp]
   exact (List.prefix_append_right_inj _).2 (Q9 b ks j (i + 1))
def Vs : Ex → Prop | .name _ => False | _ => True
theorem Ye : ∀ (x : Ex), Vs x → Zj x = Zp (Zq x) 0 (Z4 x)
 | .name s, h => h.elim
 | .num _, _ => rfl
 | .two _ a b, _ => by simp [Zj, Z4, Zp, Zq, J3]
 | .one _ a, _ => by simp [Zj, Z4, Zp, Zq, J3]
 | .cond a b c, _ => by simp [Zj, Z4, Zp, Zq, J3]
 | .lete x e b, _ => by simp [Zj, Z4, Zp, Zq, J3]
 | .func f x _ _ e, _ => by simp [Zj, Z4, Zp, Zq, J3]
def Jb (bnd l P : List Nm) : List Nm := (rm bnd P).foldl Jq l
theorem addF_append (bnd l P Q : List Nm) : Jb bnd l (P ++ Q) = Jb bnd (Jb bnd l P) Q := by simp [Jb, rm_append]
theorem addF_rm (bnd b l P : List Nm) : Jb bnd l (rm b P) = Jb (bnd ++ b) l P := by rw [Jb, rm_rm]; rfl
theorem addF_nil (bnd l : List Nm) : Jb bnd l [] = l := rfl
theorem addF_one (bnd l : List Nm) (s : Nm) : Jb bnd l [s] = if s ∈ bnd ∨ s ∈ l then l else l ++ [s] := by
 unfold Jb rm
 by_cases h1 : s ∈ bnd
 · simp [h1]
 · by_cases h2 : s ∈ l
   · simp [h1, h2, Jq]
   · simp [h1, h2, Jq]
theorem Kl (P : List Nm) : ∀ l : List Nm, l.length ≤ (P.foldl Jq l).length ∧ (P.foldl Jq l).length ≤ l.length + P.length := by
 induction P with
 | nil => intro l; simp
 | cons a P ih =>
   intro l
   have h1 := ih (Jq l a)
   have h2 := addA_len l a
   simp only [List.foldl_cons, List.length_cons]
   omega
theorem addF_len (bnd l P : List Nm) : l.length ≤ (Jb bnd l P).length ∧ (Jb bnd l P).length ≤ l.length + P.length := by
 have h1 := Kl (rm bnd P) l
 have h2 := Ko bnd P
 unfold Jb
 omega
theorem size_pos : ∀ t : Tr, t.wf → 1 ≤ t.size
 | .atom a, _ => by simp [Tr.size]
 | .list ts, h => by
   cases ts with
   | nil => simp [Tr.wf] at h
   | cons a b =>
     have := size_pos a (by simp only [Tr.wf, wfs] at h; exact h.2.1)
     simp only [Tr.size, Yl]
     omega
def Jp (h : Tr) (ps : List Tr) (i : Nat) : List Nm :=
 if Z1 h = Yn ∧ i = 3 then [Z1 (ps.getD 0 default)] else if Z1 h = Yi then [Z1 (ps.getD 0 default), Z1 (ps.getD 1 default)] else []
structure KidView (h : Tr) (ps : List Tr) (x : Ex) (a : Nat) : Prop where
 at_ : Zz (Z1 h) = (a, ps.length + 1)
 pos : 1 ≤ a
 le : a ≤ ps.length + 1
 len : a + (Z4 x).length = ps.length + 1
 kid : ∀ j (hj : j < (Z4 x).length) (hi : a + j < (h :: ps).length), Zt ((h :: ps)[a + j]) = some ((Z4 x)[j])
 bind : ∀ j, j < (Z4 x).length → Jp h ps (a + j) = Zq x j
 two : (Z1 h = Yn → 2 ≤ ps.length) ∧ (Z1 h = Yi → 2 ≤ ps.length)
 nn : Vs x
theorem Z2o : ∀ (ts : List Tr) (es : List Ex), Y3 ts = some es → ∀ j (hj : j < ts.length) (hj2 : j < es.length), Zt ts[j] = some es[j]
 | [], es, h, j, hj, _ => by simp at hj
 | t :: ts, es, h, j, hj, hj2 => by
   simp only [Y3] at h
   split at h
   · cases h
   · rename_i e he
     split at h
     · cases h
     · rename_i es' hs
       simp only [Option.some.injEq] at h
       subst h
       cases j with
       | zero => simpa using he
       | succ j => simpa using Z2o ts es' hs j (by simpa using hj) (by simpa using hj2)
theorem mkHead_kids {h : List UInt8} {es : List Ex} {x : Ex} (e : Yd h es = some x) : Z4 x = es ∧ (∀ j, Zq x j = []) ∧ Vs x := by
 match es, e with
 | [], e => cases e
 | [a], e =>
   simp only [Yd, Option.map_eq_some_iff] at e
   obtain ⟨o, ho, rfl⟩ := e
   exact ⟨rfl, fun _ => rfl, trivial⟩
 | [a, b], e =>
   simp only [Yd, Option.map_eq_some_iff] at e
   obtain ⟨o, ho, rfl⟩ := e
   exact ⟨rfl, fun _ => rfl, trivial⟩
 | [a, b, c], e =>
   simp only [Yd] at e
   split at e
   · simp only [Option.some.injEq] at e
     subst e; exact ⟨rfl, fun _ => rfl, trivial⟩
   · cases e
 | _ :: _ :: _ :: _ :: _, e => cases e
theorem Kt {h : Tr} {ps : List Tr} {x : Ex} (e : Zt (.list (h :: ps)) = some x) : ∃ a, KidView h ps x a := by
 have hok := Z15 h ps
 have e2 : Q5 (h :: ps) = some x := by simpa only [Zt] using e
 simp only [e2, Option.isSome_some] at hok
 have hok1 := hok.symm
 simp only [Bool.and_eq_true] at hok1
 have hoh := hok1.1
 simp only [Q0, Bool.and_eq_true, decide_eq_true_eq] at hoh
 obtain ⟨⟨⟨k0, klen⟩, _⟩, _⟩ := hoh
 simp only [Q5] at e2
 split at e2
 · rename_i hl
   unfold Xk at e2
   split at e2
   · rename_i x0 e0 b0
     split at e2
     · split at e2
       · cases e2
       · rename_i e' he
         split at e2
         · cases e2
         · rename_i b' hb
           simp only [Option.some.injEq] at e2
           subst e2
           refine ⟨2, ⟨by rw [hl]; rfl, by omega, by simp, by simp [Z4], ?_, ?_, by simp, trivial⟩⟩
           · intro j hj hi
             match j, hj with
             | 0, _ => simpa [Z4] using he
             | 1, _ => simpa [Z4] using hb
           · intro j hj
             match j, hj with
             | 0, _ => simp [Jp, Zq, hl, Yn, Yi]
             | 1, _ => simp [Jp, Zq, hl]
     · cases e2
   · cases e2
 · rename_i hl
   split at e2
   · rename_i hf
     unfold Yr at e2
     split at e2
     · rename_i f0 x0 A0 B0 e0
       split at e2
       · split at e2
         · cases e2
         · rename_i e' he
           simp only [Option.some.injEq] at e2
           subst e2
           refine ⟨5, ⟨by rw [hf]; rfl, by omega, by simp, by simp [Z4], ?_, ?_, by simp, trivial⟩⟩
           · intro j hj hi
             match j, hj with
             | 0, _ => simpa [Z4] using he
           · intro j hj
             match j, hj with
             | 0, _ => simp [Jp, Zq, hf, hl, Yn, Yi]
       · cases e2
     · cases e2
   · rename_i hf
     cases hk : Y3 ps with
     | none => simp [hk] at e2
     | some es =>
       simp only [hk, Option.bind_some] at e2
       obtain ⟨q1, q2, q3⟩ := mkHead_kids e2
       have hlen := Kd ps es hk
       have ha : (Zz (Z1 h)).1 = 1 := by
        rcases Ks (Z1 h) with ⟨c, k⟩ | ⟨c, k⟩ | ⟨_, _, ⟨_, _, _, k⟩ | ⟨_, _, _, k⟩ | ⟨_, _, _, k⟩ | ⟨_, _, _, k⟩⟩
        · exact absurd c hl
        · exact absurd c hf
        all_goals first | (rw [k]; done) | (rw [k] at k0; exact absurd rfl k0)
       refine ⟨1, ⟨Prod.ext ha klen.symm, Nat.le_refl _, by omega, by rw [q1]; omega, ?_, ?_, ?_, q3⟩⟩
       · intro j hj hi
         have hj2 : j < es.length := by rw [q1] at hj; exact hj
         have := Z2o ps es hk j (by omega) hj2
         simp only [q1]
         rw [← this]
         congr 1
         rw [List.getElem_cons]
         rw [dif_neg (by omega)]
         congr 1
         omega
       · intro j hj
         rw [q2]
         simp [Jp, hl, hf]
       · exact ⟨fun hh => absurd hh hl, fun hh => absurd hh hf⟩
end Go.Proofs.YtjaaalojcdbcpaaGreatDoor
