/- Numerals: what they are, and their numbers. Expressions: names, and the tree of an expression. The heads of expressions. The different atoms of a form. Free names of expressions; the kids of an expression and the names bound in them. -/
import Derived.WalkKit
import Derived.Lib.Atoi
import Derived.Shelf.Strings.Prefix
import Derived.Test.YtjaaalojcdbcpaaGreatDoorlB1
set_option maxHeartbeats 20000000
set_option linter.unusedVariables false
set_option linter.unusedSimpArgs false
namespace Go.Proofs.YtjaaalojcdbcpaaGreatDoor
def Zg : List UInt8 → List UInt8
 | [] => []
 | b :: r => if b = 45 then r else b :: r
def Vb : List UInt8 → Int
 | [] => 1
 | b :: _ => if b = 45 then -1 else 1
def Q3 (l : List UInt8) : Option Int :=
 if l = [48] then some 0
 else if 1 ≤ (Zg l).length ∧ (Zg l).length ≤ 3 ∧ (Zg l).head? ≠ some 48 then (Lib.decFrom 0 (Zg l)).map (fun (m : Nat) => Vb l * (m : Int))
 else none
theorem Z4y (l : List UInt8) : (Zg l).length ≤ l.length ∧ l.length ≤ (Zg l).length + 1 := by
 cases l with
 | nil => simp [Zg]
 | cons b r => simp only [Zg]; split <;> simp
theorem J9 : ∀ (l : List UInt8) (acc k : Nat) (b : UInt8), l[k]? = some b → Lib.digitVal b = none → Lib.decFrom acc l = none
 | [], acc, k, b, h, _ => by simp at h
 | a :: l, acc, 0, b, h, hb => by
   simp only [List.getElem?_cons_zero, Option.some.injEq] at h
   subst h
   simp [Lib.decFrom, hb]
 | a :: l, acc, k + 1, b, h, hb => by
   simp only [List.getElem?_cons_succ] at h
   simp only [Lib.decFrom]
   split
   · exact J9 l _ k b h hb
   · rfl
theorem Vt : ∀ (l : List UInt8) (acc m : Nat), Lib.decFrom acc l = some m → m < (acc + 1) * 10 ^ l.length
 | [], acc, m, h => by simp only [Lib.decFrom, Option.some.injEq] at h; subst h; simp
 | b :: l, acc, m, h => by
   simp only [Lib.decFrom] at h
   split at h
   · rename_i d hd
     have hd9 : d ≤ 9 := by
      unfold Lib.digitVal at hd
      split at hd
      · simp only [Option.some.injEq] at hd; omega
      · cases hd
     have ih := Vt l _ m h
     have e : (acc * 10 + d + 1) ≤ (acc + 1) * 10 := by omega
     have h2 := Nat.mul_le_mul_right (10 ^ l.length) e
     rw [List.length_cons, Nat.pow_succ, Nat.mul_comm (10 ^ l.length) 10, ← Nat.mul_assoc]
     omega
   · cases h
theorem atoi_num {l : List UInt8} {m : Nat} (hne : l ≠ [48]) (hd : Zg l ≠ []) (hm : Lib.decFrom 0 (Zg l) = some m) : Lib.atoi l = some (Vb l * (m : Int)) := by
 cases l with
 | nil => simp [Zg] at hd
 | cons b r =>
   simp only [Lib.atoi, Zg, Vb] at hd hm ⊢
   by_cases h45 : b = 45
   · subst h45
     simp only [if_true] at hd hm
     have : r.isEmpty = false := by simpa using hd
     simp [Lib.decNat, this, hm]
   · rw [if_neg h45] at hd hm
     have h1 : (b == 45) = false := by simpa using h45
     have h43 : (b == 43) = false := by
      simp only [beq_eq_false_iff_ne, ne_eq]
      intro e
      subst e
      simp [Lib.decFrom, Lib.digitVal] at hm
     simp [h1, h43, Lib.decNat, hm, h45]
theorem trim_minus (l : List UInt8) : Lib.trimPrefix l [45] = Zg l := by
 cases l with
 | nil => rfl
 | cons b r =>
   by_cases h : b = 45
   · subst h; simp [Zg, Lib.trimPrefix, Lib.hasPrefix]
   · simp [Zg, Lib.trimPrefix, Lib.hasPrefix, h]; try exact fun e => h e.symm
theorem Z7e : Q3 [48] = some 0 := by simp [Q3]
theorem Vz {l : List UInt8} (h0 : l ≠ [48]) (h : ¬ (1 ≤ (Zg l).length ∧ (Zg l).length ≤ 3 ∧ (Zg l).head? ≠ some 48)) : Q3 l = none := by rw [Q3, if_neg h0, if_neg h]
theorem Z33 {l : List UInt8} (h0 : l ≠ [48]) (h : 1 ≤ (Zg l).length ∧ (Zg l).length ≤ 3 ∧ (Zg l).head? ≠ some 48) : Q3 l = (Lib.decFrom 0 (Zg l)).map (fun (m : Nat) => Vb l * (m : Int)) := by rw [Q3, if_neg h0, if_pos h]
end Go.Proofs.YtjaaalojcdbcpaaGreatDoor
namespace Go.Proofs.YtjaaalojcdbcpaaGreatDoor
open Go.RowKit Go.Proofs.Tryz
set_option maxRecDepth 8000
set_option maxHeartbeats 20000000
set_option linter.unusedVariables false
set_option linter.unusedSimpArgs false
def Yg : List UInt8 → Bool
 | [] => false
 | b :: r => decide (r.length ≤ 3) && (decide (97 ≤ b.toNat) && decide (b.toNat ≤ 122)) && (Lib.decFrom 0 r).isSome
inductive Op2 where | add | sub | mul | call | pair
deriving DecidableEq
inductive Op1 where | fst | snd
deriving DecidableEq
inductive Ex where
 | name (s : List UInt8)
 | num (n : Int)
 | two (o : Op2) (a b : Ex)
 | one (o : Op1) (a : Ex)
 | cond (a b c : Ex)
 | lete (x : List UInt8) (e b : Ex)
 | func (f x : List UInt8) (A B : Tr) (e : Ex)
def Yy : List UInt8 := [108, 101, 116]
def Yt : List UInt8 := [102, 117, 110]
def kIf : List UInt8 := [105, 102]
def Ks (h : List UInt8) : Option Op2 :=
 if h = [43] then some .add else if h = [45] then some .sub else if h = [42] then some .mul else if h = [99, 97, 108, 108] then some .call else if h = [112, 97, 105, 114] then some .pair else none
def Vx (h : List UInt8) : Option Op1 := if h = [102, 115, 116] then some .fst else if h = [115, 110, 100] then some .snd else none
def Yr (h : List UInt8) : List Ex → Option Ex
 | [a] => (Vx h).map (fun o => .one o a)
 | [a, b] => (Ks h).map (fun o => .two o a b)
 | [a, b, c] => if h = kIf then some (.cond a b c) else none
 | _ => none
def Q8 (a : List UInt8) : Option Ex :=
 match Q3 a with
 | some n => some (.num n)
 | none => if Yg a = true then some (.name a) else none
def X5 (t : Tr) : Bool := Q1 t && decide (t.size ≤ 16)
mutual
def Zy : Tr → Option Ex
 | .atom a => Q8 a
 | .list ts => J6 ts
def J6 : List Tr → Option Ex
 | [] => none
 | h :: ps => if Z1 h = Yy then Qb ps else if Z1 h = Yt then Xc ps else (Yn ps).bind (Yr (Z1 h))
def Qb : List Tr → Option Ex
 | [x, e, b] =>
   if Yg (Z1 x) = true then
    match Zy e with
    | none => none
    | some e' => match Zy b with
      | none => none
      | some b' => some (.lete (Z1 x) e' b')
   else none
 | _ => none
def Xc : List Tr → Option Ex
 | [f, x, A, B, e] =>
   if (Yg (Z1 f) && Yg (Z1 x) && !(Z1 f == Z1 x) && X5 A && X5 B) = true then
    match Zy e with
    | none => none
    | some e' => some (.func (Z1 f) (Z1 x) A B e')
   else none
 | _ => none
def Yn : List Tr → Option (List Ex)
 | [] => some []
 | t :: ts => match Zy t with
   | none => none
   | some e => match Yn ts with
     | none => none
     | some es => some (e :: es)
end
def Zp (l : List UInt8) : Option Ex :=
 match Zt l with
 | none => none
 | some t => if t.size ≤ 120 then Zy t else none
theorem Kr {l : List UInt8} (h : Zt l = none) : Zp l = none := by simp [Zp, h]
theorem J8 {l : List UInt8} {t : Tr} (h : Zt l = some t) : Zp l = if t.size ≤ 120 then Zy t else none := by simp [Zp, h]
def Yi (h : List UInt8) : Nat × Nat :=
 if h = [43] ∨ h = [45] ∨ h = [42] ∨ h = [99, 97, 108, 108] ∨ h = [112, 97, 105, 114] then (1, 3)
 else if h = kIf then (1, 4)
 else if h = Yy then (2, 4)
 else if h = Yt then (5, 6)
 else if h = [102, 115, 116] ∨ h = [115, 110, 100] then (1, 2)
 else (0, 0)
theorem Z3q : ∀ ts : List Tr, (Yn ts).isSome = ts.all (fun t => (Zy t).isSome)
 | [] => by simp [Yn]
 | t :: ts => by
   have ih := Z3q ts
   simp only [Yn, List.all_cons]
   cases Zy t with
   | none => simp
   | some e =>
     simp only [Option.isSome_some, Bool.true_and]
     rw [← ih]
     cases Yn ts <;> rfl
theorem Z11 : ∀ (ts : List Tr) (es : List Ex), Yn ts = some es → es.length = ts.length
 | [], es, h => by simp only [Yn, Option.some.injEq] at h; subst h; rfl
 | t :: ts, es, h => by
   simp only [Yn] at h
   split at h
   · cases h
   · split at h
     · cases h
     · rename_i es' hs
       simp only [Option.some.injEq] at h
       subst h
       simp [Z11 ts es' hs]
theorem mkHead_isSome (h : List UInt8) (es : List Ex) : (Yr h es).isSome = ((decide (es.length = 1) && (Vx h).isSome) || (decide (es.length = 2) && (Ks h).isSome) || (decide (es.length = 3) && decide (h = kIf))) := by
 match es with
 | [] => simp [Yr]
 | [a] => simp [Yr]
 | [a, b] => simp [Yr]
 | [a, b, c] => by_cases q : h = kIf <;> simp [Yr, q]
 | _ :: _ :: _ :: _ :: _ => simp [Yr]
def Qz (h : Tr) (ps : List Tr) : Bool :=
 decide ((Yi (Z1 h)).1 ≠ 0) && decide (ps.length + 1 = (Yi (Z1 h)).2) && (decide ((Yi (Z1 h)).1 ≤ 1) || Yg (Z1 (ps.getD 0 default))) &&
  (decide ((Yi (Z1 h)).1 ≠ 5) || (Yg (Z1 (ps.getD 1 default)) && !(Z1 (ps.getD 0 default) == Z1 (ps.getD 1 default)) && X5 (ps.getD 2 default) && X5 (ps.getD 3 default)))
theorem Z1o (h : List UInt8) : (h = Yy ∧ Yi h = (2, 4)) ∨ (h = Yt ∧ Yi h = (5, 6)) ∨ (h ≠ Yy ∧ h ≠ Yt ∧
 (((Ks h).isSome = true ∧ Vx h = none ∧ h ≠ kIf ∧ Yi h = (1, 3)) ∨ (Ks h = none ∧ Vx h = none ∧ h = kIf ∧ Yi h = (1, 4)) ∨ (Ks h = none ∧ (Vx h).isSome = true ∧ h ≠ kIf ∧ Yi h = (1, 2)) ∨ (Ks h = none ∧ Vx h = none ∧ h ≠ kIf ∧ Yi h = (0, 0)))) := by
 by_cases h1 : h = Yy
 · subst h1; exact .inl ⟨rfl, by decide⟩
 by_cases h2 : h = Yt
 · subst h2; exact .inr (.inl ⟨rfl, by decide⟩)
 refine .inr (.inr ⟨h1, h2, ?_⟩)
 by_cases a1 : h = [43]
 · subst a1; exact .inl (by decide)
 by_cases a2 : h = [45]
 · subst a2; exact .inl (by decide)
 by_cases a3 : h = [42]
 · subst a3; exact .inl (by decide)
 by_cases a4 : h = [99, 97, 108, 108]
 · subst a4; exact .inl (by decide)
 by_cases a5 : h = [112, 97, 105, 114]
 · subst a5; exact .inl (by decide)
 by_cases a6 : h = kIf
 · subst a6; exact .inr (.inl (by decide))
 by_cases a7 : h = [102, 115, 116]
 · subst a7; exact .inr (.inr (.inl (by decide)))
 by_cases a8 : h = [115, 110, 100]
 · subst a8; exact .inr (.inr (.inl (by decide)))
 · refine .inr (.inr (.inr ⟨?_, ?_, a6, ?_⟩))
   · simp [Ks, a1, a2, a3, a4, a5]
   · simp [Vx, a7, a8]
   · simp [Yi, a1, a2, a3, a4, a5, a6, a7, a8, h1, h2]
theorem Z51 (h : Tr) (ps : List Tr) : (J6 (h :: ps)).isSome = (Qz h ps && ((h :: ps).drop (Yi (Z1 h)).1).all (fun t => (Zy t).isSome)) := by
 rcases Z1o (Z1 h) with ⟨e, k⟩ | ⟨e, k⟩ | ⟨n1, n2, r⟩
 · simp only [J6, Qz, if_pos e, k]
   match ps with
   | [] => simp [Qb]
   | [_] => simp [Qb]
   | [_, _] => simp [Qb]
   | [x, a, b] =>
     simp only [Qb]
     cases hx : Yg (Z1 x) with
     | false => simp [hx]
     | true =>
       simp only [if_true]
       cases ha : Zy a <;> cases hb : Zy b <;> simp [hx, ha, hb]
   | _ :: _ :: _ :: _ :: _ => simp [Qb]
 · have hl : ¬ Z1 h = Yy := by rw [e]; decide
   simp only [J6, Qz, if_neg hl, if_pos e, k]
   match ps with
   | [] => simp [Xc]
   | [_] => simp [Xc]
   | [_, _] => simp [Xc]
   | [_, _, _] => simp [Xc]
   | [_, _, _, _] => simp [Xc]
   | [f, x, A, B, b] =>
     simp only [Xc]
     cases hb : (Yg (Z1 f) && Yg (Z1 x) && !(Z1 f == Z1 x) && X5 A && X5 B) with
     | false =>
       simp only [Bool.false_eq_true, if_false, Option.isSome_none, List.getD_cons_zero, List.getD_cons_succ]
       symm
       cases h1 : Yg (Z1 f) <;> cases h2 : Yg (Z1 x) <;> cases h3 : (Z1 f == Z1 x) <;> cases h4 : X5 A <;> cases h5 : X5 B <;> simp_all
     | true =>
       simp only [if_true]
       simp only [Bool.and_eq_true] at hb
       obtain ⟨⟨⟨⟨b1, b2⟩, b3⟩, b4⟩, b5⟩ := hb
       simp only [List.getD_cons_zero, List.getD_cons_succ, b1, b2, b3, b4, b5, List.drop_succ_cons, List.drop_zero, List.all_cons, List.all_nil, List.length_cons, List.length_nil]
       cases hb : Zy b <;> simp
   | _ :: _ :: _ :: _ :: _ :: _ :: _ => simp [Xc]
 · simp only [J6, if_neg n1, if_neg n2]
   have hk : ∀ es, Yn ps = some es → (Yr (Z1 h) es).isSome = ((decide (ps.length = 1) && (Vx (Z1 h)).isSome) || (decide (ps.length = 2) && (Ks (Z1 h)).isSome) || (decide (ps.length = 3) && decide (Z1 h = kIf))) := fun es he => by rw [mkHead_isSome, Z11 ps es he]
   have hall := Z3q ps
   have hbody : ((Yn ps).bind (Yr (Z1 h))).isSome = (((decide (ps.length = 1) && (Vx (Z1 h)).isSome) || (decide (ps.length = 2) && (Ks (Z1 h)).isSome) || (decide (ps.length = 3) && decide (Z1 h = kIf))) && ps.all (fun t => (Zy t).isSome)) := by
    cases he : Yn ps with
    | none => rw [he] at hall; rw [← hall]; simp
    | some es => rw [he] at hall; rw [← hall, Option.bind_some, hk es he]; simp
   rw [hbody]
   rcases r with ⟨r1, r2, r3, k⟩ | ⟨r1, r2, r3, k⟩ | ⟨r1, r2, r3, k⟩ | ⟨r1, r2, r3, k⟩
   · simp [Qz, k, r1, r2, r3]
   · have r4 : decide (Z1 h = kIf) = true := by simp [r3]
     rw [Qz, k, r1, r2, r4]
     simp
   · simp [Qz, k, r1, r2, r3]
   · simp [Qz, k, r1, r2, r3]
def sName : List UInt8 := [110, 97, 109, 101]
def sNumber : List UInt8 := [110, 117, 109, 98, 101, 114]
def Z2h : Op2 → List UInt8
 | .add => [43] | .sub => [45] | .mul => [42] | .call => [99, 97, 108, 108] | .pair => [112, 97, 105, 114]
def Z42 : Op1 → List UInt8
 | .fst => [102, 115, 116] | .snd => [115, 110, 100]
def headOf : Ex → List UInt8
 | .name _ => sName
 | .num _ => sNumber
 | .two o _ _ => Z2h o
 | .one o _ => Z42 o
 | .cond _ _ _ => kIf
 | .lete _ _ _ => Yy
 | .func _ _ _ _ _ => Yt
def headT : Tr → List UInt8
 | .atom a => if Yg a = true then sName else sNumber
 | .list [] => []
 | .list (h :: _) => Z1 h
theorem Vy {a : List UInt8} {n : Int} (h : Q3 a = some n) : Yg a = false := by
 cases a with
 | nil => rfl
 | cons b r =>
   cases hn : Yg (b :: r) with
   | false => rfl
   | true =>
     exfalso
     simp only [Yg, Bool.and_eq_true, decide_eq_true_eq] at hn
     obtain ⟨⟨_, h1, h2⟩, _⟩ := hn
     have hb45 : b ≠ 45 := fun e => by subst e; exact absurd h1 (by decide)
     have hb48 : b :: r ≠ [48] := fun e => by simp only [List.cons.injEq] at e; rw [e.1] at h1; exact absurd h1 (by decide)
     have hdg : Zg (b :: r) = b :: r := by simp [Zg, hb45]
     have hdv : Lib.digitVal b = none := by simp only [Lib.digitVal]; rw [if_neg (by omega)]
     have hnone := J9 (b :: r) 0 0 b rfl hdv
     simp only [Q3, if_neg hb48, hdg, hnone, Option.map_none] at h
     split at h <;> cases h
theorem op2Of_name {h : List UInt8} {o : Op2} (e : Ks h = some o) : Z2h o = h := by
 unfold Ks at e
 repeat' split at e
 all_goals first | (simp only [Option.some.injEq] at e; subst e; rename_i hh; simp only [Z2h]; exact hh.symm) | cases e
theorem op1Of_name {h : List UInt8} {o : Op1} (e : Vx h = some o) : Z42 o = h := by
 unfold Vx at e
 repeat' split at e
 all_goals first | (simp only [Option.some.injEq] at e; subst e; rename_i hh; simp only [Z42]; exact hh.symm) | cases e
def Qj (l : List (List UInt8)) (a : List UInt8) : List (List UInt8) := if a ∈ l then l else l ++ [a]
mutual
def Xu : Tr → List (List UInt8) → List (List UInt8)
 | .atom a, l => Qj l a
 | .list ts, l => Q0 ts l
def Q0 : List Tr → List (List UInt8) → List (List UInt8)
 | [], l => l
 | t :: ts, l => Q0 ts (Xu t l)
end
theorem Z0o (a : List UInt8) (l : List (List UInt8)) : Xu (.atom a) l = Qj l a := by simp only [Xu]
theorem Z1v (ts : List Tr) (l : List (List UInt8)) : Xu (.list ts) l = Q0 ts l := by simp only [Xu]
theorem Z67 : ∀ (ts : List Tr) (t : Tr) (l : List (List UInt8)), Q0 (ts ++ [t]) l = Xu t (Q0 ts l)
 | [], t, l => by simp only [List.nil_append, Q0]
 | a :: ts, t, l => by simp only [List.cons_append, Q0]; exact Z67 ts t _
theorem atomss_take (ts : List Tr) (l : List (List UInt8)) (k : Nat) (h : k < ts.length) : Q0 (ts.take (k + 1)) l = Xu ts[k] (Q0 (ts.take k) l) := by rw [Ki _ _ h, Z67]
theorem addA_len (l : List (List UInt8)) (a : List UInt8) : l.length ≤ (Qj l a).length ∧ (Qj l a).length ≤ l.length + 1 := by
 unfold Qj; split <;> simp
mutual
theorem atoms_len : ∀ (t : Tr) (l : List (List UInt8)), t.wf → l.length ≤ (Xu t l).length ∧ (Xu t l).length ≤ l.length + t.size
 | .atom a, l, _ => by rw [Z0o]; have := addA_len l a; simp only [Tr.size]; omega
 | .list ts, l, h => by rw [Z1v]; have := Z1u ts l h.2; simp only [Tr.size]; omega
theorem Z1u : ∀ (ts : List Tr) (l : List (List UInt8)), wfs ts → l.length ≤ (Q0 ts l).length ∧ (Q0 ts l).length ≤ l.length + Yd ts
 | [], l, _ => by simp [Q0, Yd]
 | t :: ts, l, h => by
   have h1 := atoms_len t l h.1
   have h2 := Z1u ts (Xu t l) h.2
   simp only [Q0, Yd]; omega
end
def Z08 (s : List UInt8) : Option (List (List UInt8)) := (Zt s).map (fun t => Xu t [])
theorem atomsOf_none {s : List UInt8} (h : Zt s = none) : Z08 s = none := by simp [Z08, h]
theorem atomsOf_some {s : List UInt8} {t : Tr} (h : Zt s = some t) : Z08 s = some (Xu t []) := by simp [Z08, h]
theorem wfs_take6 {ts : List Tr} (h : wfs ts) (k : Nat) : wfs (ts.take k) := by
 induction ts generalizing k with
 | nil => simp [wfs]
 | cons a ts ih => cases k with
   | zero => simp [wfs]
   | succ k => exact ⟨h.1, ih h.2 k⟩
theorem Z6j (ts : List Tr) (l : List (List UInt8)) (k : Nat) (h : wfs ts) : l.length ≤ (Q0 (ts.take k) l).length ∧ (Q0 (ts.take k) l).length ≤ l.length + Yd (ts.take k) := Z1u _ _ (wfs_take6 h k)
abbrev Nm := List UInt8
def rm (bs : List Nm) (l : List Nm) : List Nm := l.filter (fun n => decide (n ∉ bs))
theorem Z2z (bs l m : List Nm) : rm bs (l ++ m) = rm bs l ++ rm bs m := by simp [rm]
theorem K5 (l : List Nm) : rm [] l = l := by simp [rm]
theorem rm_rm (a b l : List Nm) : rm a (rm b l) = rm (a ++ b) l := by
 simp only [rm, List.filter_filter]
 congr 1
 funext n
 simp [List.mem_append, not_or]
theorem Z1i (a l : List Nm) : (rm a l).length ≤ l.length := List.length_filter_le _ _
theorem Z4h (a l : List Nm) (n : Nm) : (rm a l).count n = if n ∈ a then 0 else l.count n := by
 induction l with
 | nil => simp [rm]
 | cons b l ih =>
   have ih' : (l.filter (fun n => decide (n ∉ a))).count n = if n ∈ a then 0 else l.count n := ih
   simp only [rm, List.filter_cons]
   by_cases hb : b ∈ a
   · rw [if_neg (by simpa using hb), ih']
     by_cases hn : n ∈ a
     · rw [if_pos hn, if_pos hn]
     · rw [if_neg hn, if_neg hn, List.count_cons]
       have hne : (b == n) = false := by simp; intro e; subst e; exact hn hb
       simp [hne]
   · rw [if_pos (by simpa using hb), List.count_cons, ih', List.count_cons]
     by_cases hn : n ∈ a
     · rw [if_pos hn, if_pos hn]
       have hne : (b == n) = false := by simp; intro e; subst e; exact hb hn
       simp [hne]
     · rw [if_neg hn, if_neg hn]
def Ze : Ex → List Nm
 | .name s => [s]
 | .num _ => []
 | .two _ a b => Ze a ++ Ze b
 | .one _ a => Ze a
 | .cond a b c => Ze a ++ Ze b ++ Ze c
 | .lete x e b => Ze e ++ rm [x] (Ze b)
 | .func f x _ _ e => rm [f, x] (Ze e)
def Zb : Ex → List Ex
 | .name _ => []
 | .num _ => []
 | .two _ a b => [a, b]
 | .one _ a => [a]
 | .cond a b c => [a, b, c]
 | .lete _ e b => [e, b]
 | .func _ _ _ _ e => [e]
def Zo : Ex → Nat → List Nm
 | .lete x _ _, j => if j = 1 then [x] else []
 | .func f x _ _ _, _ => [f, x]
 | _, _ => []
def Zv (b : Nat → List Nm) : Nat → List Ex → List Nm
 | _, [] => []
 | j, k :: ks => rm (b j) (Ze k) ++ Zv b (j + 1) ks
theorem Z62 (b : Nat → List Nm) (e : Ex) : ∀ (ks : List Ex) (j : Nat), Zv b j (ks ++ [e]) = Zv b j ks ++ rm (b (j + ks.length)) (Ze e)
 | [], j => by simp [Zv]
 | k :: ks, j => by
   simp only [List.cons_append, Zv, Z62 b e ks (j + 1), List.length_cons, List.append_assoc]
   rw [show j + 1 + ks.length = j + (ks.length + 1) by omega]
theorem Xt (b : Nat → List Nm) (ks : List Ex) (j : Nat) (h : j < ks.length) : Zv b 0 (ks.take (j + 1)) = Zv b 0 (ks.take j) ++ rm (b j) (Ze ks[j]) := by
 rw [List.take_succ_eq_append_getElem h, Z62]
 simp [Nat.min_eq_left (Nat.le_of_lt h)]
theorem Jf (b : Nat → List Nm) : ∀ (ks : List Ex) (j i : Nat), (Zv b i (ks.take j)) <+: (Zv b i ks)
 | [], j, i => by simp [Zv]
 | k :: ks, 0, i => by simp [Zv]
 | k :: ks, j + 1, i => by
   simp only [List.take_succ_cons, Zv]
   exact (List.prefix_append_right_inj _).2 (Jf b ks j (i + 1))
def Z1k : Ex → Prop | .name _ => False | _ => True
theorem Yp : ∀ (x : Ex), Z1k x → Ze x = Zv (Zo x) 0 (Zb x)
 | .name s, h => h.elim
 | .num _, _ => rfl
 | .two _ a b, _ => by simp [Ze, Zb, Zv, Zo, K5]
 | .one _ a, _ => by simp [Ze, Zb, Zv, Zo, K5]
 | .cond a b c, _ => by simp [Ze, Zb, Zv, Zo, K5]
 | .lete x e b, _ => by simp [Ze, Zb, Zv, Zo, K5]
 | .func f x _ _ e, _ => by simp [Ze, Zb, Zv, Zo, K5]
def V8 (bnd l P : List Nm) : List Nm := (rm bnd P).foldl Qj l
theorem addF_append (bnd l P Q : List Nm) : V8 bnd l (P ++ Q) = V8 bnd (V8 bnd l P) Q := by simp [V8, Z2z]
theorem addF_rm (bnd b l P : List Nm) : V8 bnd l (rm b P) = V8 (bnd ++ b) l P := by rw [V8, rm_rm]; rfl
theorem addF_nil (bnd l : List Nm) : V8 bnd l [] = l := rfl
theorem addF_one (bnd l : List Nm) (s : Nm) : V8 bnd l [s] = if s ∈ bnd ∨ s ∈ l then l else l ++ [s] := by
 unfold V8 rm
 by_cases h1 : s ∈ bnd
 · simp [h1]
 · by_cases h2 : s ∈ l
   · simp [h1, h2, Qj]
   · simp [h1, h2, Qj]
theorem Vl (P : List Nm) : ∀ l : List Nm, l.length ≤ (P.foldl Qj l).length ∧ (P.foldl Qj l).length ≤ l.length + P.length := by
 induction P with
 | nil => intro l; simp
 | cons a P ih =>
   intro l
   have h1 := ih (Qj l a)
   have h2 := addA_len l a
   simp only [List.foldl_cons, List.length_cons]
   omega
theorem addF_len (bnd l P : List Nm) : l.length ≤ (V8 bnd l P).length ∧ (V8 bnd l P).length ≤ l.length + P.length := by
 have h1 := Vl (rm bnd P) l
 have h2 := Z1i bnd P
 unfold V8
 omega
theorem foldA_nil (P : List Nm) : P.foldl Qj [] = [] ↔ P = [] := by
 cases P with
 | nil => simp
 | cons a P =>
   have h := (Vl P (Qj [] a)).1
   have h2 : (Qj [] a).length = 1 := by simp [Qj]
   constructor
   · intro e
     simp only [List.foldl_cons] at e
     rw [e] at h
     simp only [List.length_nil] at h; omega
   · intro e; cases e
theorem size_pos : ∀ t : Tr, t.wf → 1 ≤ t.size
 | .atom a, _ => by simp [Tr.size]
 | .list ts, h => by
   cases ts with
   | nil => simp [Tr.wf] at h
   | cons a b =>
     have := size_pos a (by simp only [Tr.wf, wfs] at h; exact h.2.1)
     simp only [Tr.size, Yd]
     omega
def Z01 (h : Tr) (ps : List Tr) (i : Nat) : List Nm :=
 if Z1 h = Yy ∧ i = 3 then [Z1 (ps.getD 0 default)] else if Z1 h = Yt then [Z1 (ps.getD 0 default), Z1 (ps.getD 1 default)] else []
structure KidView (h : Tr) (ps : List Tr) (x : Ex) (a : Nat) : Prop where
 at_ : Yi (Z1 h) = (a, ps.length + 1)
 pos : 1 ≤ a
 le : a ≤ ps.length + 1
 len : a + (Zb x).length = ps.length + 1
 kid : ∀ j (hj : j < (Zb x).length) (hi : a + j < (h :: ps).length), Zy ((h :: ps)[a + j]) = some ((Zb x)[j])
 bind : ∀ j, j < (Zb x).length → Z01 h ps (a + j) = Zo x j
 two : (Z1 h = Yy → 2 ≤ ps.length) ∧ (Z1 h = Yt → 2 ≤ ps.length)
 nn : Z1k x
theorem Z7o : ∀ (ts : List Tr) (es : List Ex), Yn ts = some es → ∀ j (hj : j < ts.length) (hj2 : j < es.length), Zy ts[j] = some es[j]
 | [], es, h, j, hj, _ => by simp at hj
 | t :: ts, es, h, j, hj, hj2 => by
   simp only [Yn] at h
   split at h
   · cases h
   · rename_i e he
     split at h
     · cases h
     · rename_i es' hs
       simp only [Option.some.injEq] at h
       subst h
       cases j with
       | zero => simpa using he
       | succ j => simpa using Z7o ts es' hs j (by simpa using hj) (by simpa using hj2)
theorem mkHead_kids {h : List UInt8} {es : List Ex} {x : Ex} (e : Yr h es = some x) : Zb x = es ∧ (∀ j, Zo x j = []) ∧ Z1k x := by
 match es, e with
 | [], e => cases e
 | [a], e =>
   simp only [Yr, Option.map_eq_some_iff] at e
   obtain ⟨o, ho, rfl⟩ := e
   exact ⟨rfl, fun _ => rfl, trivial⟩
 | [a, b], e =>
   simp only [Yr, Option.map_eq_some_iff] at e
   obtain ⟨o, ho, rfl⟩ := e
   exact ⟨rfl, fun _ => rfl, trivial⟩
 | [a, b, c], e =>
   simp only [Yr] at e
   split at e
   · simp only [Option.some.injEq] at e
     subst e; exact ⟨rfl, fun _ => rfl, trivial⟩
   · cases e
 | _ :: _ :: _ :: _ :: _, e => cases e
theorem Z07 {h : Tr} {ps : List Tr} {x : Ex} (e : Zy (.list (h :: ps)) = some x) : ∃ a, KidView h ps x a := by
 have hok := Z51 h ps
 have e2 : J6 (h :: ps) = some x := by simpa only [Zy] using e
 simp only [e2, Option.isSome_some] at hok
 have hok1 := hok.symm
 simp only [Bool.and_eq_true] at hok1
 have hoh := hok1.1
 simp only [Qz, Bool.and_eq_true, decide_eq_true_eq] at hoh
 obtain ⟨⟨⟨k0, klen⟩, _⟩, _⟩ := hoh
 simp only [J6] at e2
 split at e2
 · rename_i hl
   unfold Qb at e2
   split at e2
   · rename_i x0 e0 b0
     split at e2
     · split at e2
       · cases e2
       · rename_i e' he
         split at e2
         · cases e2
         · rename_i b' hb
           simp only [Option.some.injEq] at e2
           subst e2
           refine ⟨2, ⟨by rw [hl]; rfl, by omega, by simp, by simp [Zb], ?_, ?_, by simp, trivial⟩⟩
           · intro j hj hi
             match j, hj with
             | 0, _ => simpa [Zb] using he
             | 1, _ => simpa [Zb] using hb
           · intro j hj
             match j, hj with
             | 0, _ => simp [Z01, Zo, hl, Yy, Yt]
             | 1, _ => simp [Z01, Zo, hl]
     · cases e2
   · cases e2
 · rename_i hl
   split at e2
   · rename_i hf
     unfold Xc at e2
     split at e2
     · rename_i f0 x0 A0 B0 e0
       split at e2
       · split at e2
         · cases e2
         · rename_i e' he
           simp only [Option.some.injEq] at e2
           subst e2
           refine ⟨5, ⟨by rw [hf]; rfl, by omega, by simp, by simp [Zb], ?_, ?_, by simp, trivial⟩⟩
           · intro j hj hi
             match j, hj with
             | 0, _ => simpa [Zb] using he
           · intro j hj
             match j, hj with
             | 0, _ => simp [Z01, Zo, hf, hl, Yy, Yt]
       · cases e2
     · cases e2
   · rename_i hf
     cases hk : Yn ps with
     | none => simp [hk] at e2
     | some es =>
       simp only [hk, Option.bind_some] at e2
       obtain ⟨q1, q2, q3⟩ := mkHead_kids e2
       have hlen := Z11 ps es hk
       have ha : (Yi (Z1 h)).1 = 1 := by
        rcases Z1o (Z1 h) with ⟨c, k⟩ | ⟨c, k⟩ | ⟨_, _, ⟨_, _, _, k⟩ | ⟨_, _, _, k⟩ | ⟨_, _, _, k⟩ | ⟨_, _, _, k⟩⟩
        · exact absurd c hl
        · exact absurd c hf
        all_goals first | (rw [k]; done) | (rw [k] at k0; exact absurd rfl k0)
       refine ⟨1, ⟨Prod.ext ha klen.symm, Nat.le_refl _, by omega, by rw [q1]; omega, ?_, ?_, ?_, q3⟩⟩
       · intro j hj hi
         have hj2 : j < es.length := by rw [q1] at hj; exact hj
         have := Z7o ps es hk j (by omega) hj2
         simp only [q1]
         rw [← this]
         congr 1
         rw [List.getElem_cons]
         rw [dif_neg (by omega)]
         congr 1
         omega
       · intro j hj
         rw [q2]
         simp [Z01, hl, hf]
       · exact ⟨fun hh => absurd hh hl, fun hh => absurd hh hf⟩
end Go.Proofs.YtjaaalojcdbcpaaGreatDoor
