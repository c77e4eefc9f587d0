/- Numerals: what they are, and their numbers. Expressions: names, and the tree of an expression. The heads of expressions. The different atoms of a form. Free names of expressions; the kids of an expression and the names bound in them. -/
import Derived.WalkKit
import Derived.Lib.Atoi
import Derived.Shelf.Strings.Prefix
import Derived.Test.YtmgepnacjgbfhaaGreatDoorsB1
namespace Go.Proofs.YtmgepnacjgbfhaaGreatDoor
set_option maxHeartbeats 20000000
set_option linter.unusedVariables false
set_option linter.unusedSimpArgs false
def Zk : List UInt8 → List UInt8
 | [] => []
 | b :: r => if b = 45 then r else b :: r
def Km : List UInt8 → Int
 | [] => 1
 | b :: _ => if b = 45 then -1 else 1
def Qx (l : List UInt8) : Option Int :=
 if l = [48] then some 0
 else if 1 ≤ (Zk l).length ∧ (Zk l).length ≤ 3 ∧ (Zk l).head? ≠ some 48 then (Lib.decFrom 0 (Zk l)).map (fun (m : Nat) => Km l * (m : Int))
 else none
theorem digitsOf_len (l : List UInt8) : (Zk l).length ≤ l.length ∧ l.length ≤ (Zk l).length + 1 := by
 cases l with
 | nil => simp [Zk]
 | cons b r => simp only [Zk]; split <;> simp
theorem Ke : ∀ (l : List UInt8) (acc k : Nat) (b : UInt8), l[k]? = some b → Lib.digitVal b = none → Lib.decFrom acc l = none
 | [], acc, k, b, h, _ => by simp at h
 | a :: l, acc, 0, b, h, hb => by
   simp only [List.getElem?_cons_zero, Option.some.injEq] at h
   subst h
   simp [Lib.decFrom, hb]
 | a :: l, acc, k + 1, b, h, hb => by
   simp only [List.getElem?_cons_succ] at h
   simp only [Lib.decFrom]
   split
   · exact Ke l _ k b h hb
   · rfl
theorem Kx : ∀ (l : List UInt8) (acc m : Nat), Lib.decFrom acc l = some m → m < (acc + 1) * 10 ^ l.length
 | [], acc, m, h => by simp only [Lib.decFrom, Option.some.injEq] at h; subst h; simp
 | b :: l, acc, m, h => by
   simp only [Lib.decFrom] at h
   split at h
   · rename_i d hd
     have hd9 : d ≤ 9 := by
      unfold Lib.digitVal at hd
      split at hd
      · simp only [Option.some.injEq] at hd; omega
      · cases hd
     have ih := Kx l _ m h
     have e : (acc * 10 + d + 1) ≤ (acc + 1) * 10 := by omega
     have h2 := Nat.mul_le_mul_right (10 ^ l.length) e
     rw [List.length_cons, Nat.pow_succ, Nat.mul_comm (10 ^ l.length) 10, ← Nat.mul_assoc]
     omega
   · cases h
theorem atoi_num {l : List UInt8} {m : Nat} (hne : l ≠ [48]) (hd : Zk l ≠ []) (hm : Lib.decFrom 0 (Zk l) = some m) : Lib.atoi l = some (Km l * (m : Int)) := by
 cases l with
 | nil => simp [Zk] at hd
 | cons b r =>
   simp only [Lib.atoi, Zk, Km] at hd hm ⊢
   by_cases h45 : b = 45
   · subst h45
     simp only [if_true] at hd hm
     have : r.isEmpty = false := by simpa using hd
     simp [Lib.decNat, this, hm]
   · rw [if_neg h45] at hd hm
     have h1 : (b == 45) = false := by simpa using h45
     have h43 : (b == 43) = false := by
      simp only [beq_eq_false_iff_ne, ne_eq]
      intro e
      subst e
      simp [Lib.decFrom, Lib.digitVal] at hm
     simp [h1, h43, Lib.decNat, hm, h45]
theorem trim_minus (l : List UInt8) : Lib.trimPrefix l [45] = Zk l := by
 cases l with
 | nil => rfl
 | cons b r =>
   by_cases h : b = 45
   · subst h; simp [Zk, Lib.trimPrefix, Lib.hasPrefix]
   · simp [Zk, Lib.trimPrefix, Lib.hasPrefix, h]; try exact fun e => h e.symm
theorem Z6q : Qx [48] = some 0 := by simp [Qx]
theorem Z0l {l : List UInt8} (h0 : l ≠ [48]) (h : ¬ (1 ≤ (Zk l).length ∧ (Zk l).length ≤ 3 ∧ (Zk l).head? ≠ some 48)) : Qx l = none := by rw [Qx, if_neg h0, if_neg h]
theorem Z4m {l : List UInt8} (h0 : l ≠ [48]) (h : 1 ≤ (Zk l).length ∧ (Zk l).length ≤ 3 ∧ (Zk l).head? ≠ some 48) : Qx l = (Lib.decFrom 0 (Zk l)).map (fun (m : Nat) => Km l * (m : Int)) := by rw [Qx, if_neg h0, if_pos h]
end Go.Proofs.YtmgepnacjgbfhaaGreatDoor
namespace Go.Proofs.YtmgepnacjgbfhaaGreatDoor
open Go.RowKit Go.Proofs.Tryz
set_option maxRecDepth 8000
set_option maxHeartbeats 20000000
set_option linter.unusedVariables false
set_option linter.unusedSimpArgs false
def Yl : List UInt8 → Bool
 | [] => false
 | b :: r => decide (r.length ≤ 3) && (decide (97 ≤ b.toNat) && decide (b.toNat ≤ 122)) && (Lib.decFrom 0 r).isSome
inductive Op2 where | add | sub | mul | call | pair
deriving DecidableEq
inductive Op1 where | fst | snd
deriving DecidableEq
inductive Ex where
 | name (s : List UInt8)
 | num (n : Int)
 | two (o : Op2) (a b : Ex)
 | one (o : Op1) (a : Ex)
 | cond (a b c : Ex)
 | lete (x : List UInt8) (e b : Ex)
 | func (f x : List UInt8) (A B : Tr) (e : Ex)
def Qr : List UInt8 := [108, 101, 116]
def Qh : List UInt8 := [102, 117, 110]
def kIf : List UInt8 := [105, 102]
def Jl (h : List UInt8) : Option Op2 :=
 if h = [43] then some .add else if h = [45] then some .sub else if h = [42] then some .mul else if h = [99, 97, 108, 108] then some .call else if h = [112, 97, 105, 114] then some .pair else none
def Ki (h : List UInt8) : Option Op1 := if h = [102, 115, 116] then some .fst else if h = [115, 110, 100] then some .snd else none
def Yi (h : List UInt8) : List Ex → Option Ex
 | [a] => (Ki h).map (fun o => .one o a)
 | [a, b] => (Jl h).map (fun o => .two o a b)
 | [a, b, c] => if h = kIf then some (.cond a b c) else none
 | _ => none
def Qs (a : List UInt8) : Option Ex :=
 match Qx a with
 | some n => some (.num n)
 | none => if Yl a = true then some (.name a) else none
def Zn (t : Tr) : Bool := X5 t && decide (t.size ≤ 16)
mutual
def Yg : Tr → Option Ex
 | .atom a => Qs a
 | .list ts => Qf ts
def Qf : List Tr → Option Ex
 | [] => none
 | h :: ps => if Z0 h = Qr then Q1 ps else if Z0 h = Qh then X3 ps else (Yh ps).bind (Yi (Z0 h))
def Q1 : List Tr → Option Ex
 | [x, e, b] =>
   if Yl (Z0 x) = true then
    match Yg e with
    | none => none
    | some e' => match Yg b with
      | none => none
      | some b' => some (.lete (Z0 x) e' b')
   else none
 | _ => none
def X3 : List Tr → Option Ex
 | [f, x, A, B, e] =>
   if (Yl (Z0 f) && Yl (Z0 x) && !(Z0 f == Z0 x) && Zn A && Zn B) = true then
    match Yg e with
    | none => none
    | some e' => some (.func (Z0 f) (Z0 x) A B e')
   else none
 | _ => none
def Yh : List Tr → Option (List Ex)
 | [] => some []
 | t :: ts => match Yg t with
   | none => none
   | some e => match Yh ts with
     | none => none
     | some es => some (e :: es)
end
def Yf (l : List UInt8) : Option Ex :=
 match Zt l with
 | none => none
 | some t => if t.size ≤ 120 then Yg t else none
theorem K9 {l : List UInt8} (h : Zt l = none) : Yf l = none := by simp [Yf, h]
theorem Qj {l : List UInt8} {t : Tr} (h : Zt l = some t) : Yf l = if t.size ≤ 120 then Yg t else none := by simp [Yf, h]
def Yj (h : List UInt8) : Nat × Nat :=
 if h = [43] ∨ h = [45] ∨ h = [42] ∨ h = [99, 97, 108, 108] ∨ h = [112, 97, 105, 114] then (1, 3)
 else if h = kIf then (1, 4)
 else if h = Qr then (2, 4)
 else if h = Qh then (5, 6)
 else if h = [102, 115, 116] ∨ h = [115, 110, 100] then (1, 2)
 else (0, 0)
theorem Z31 : ∀ ts : List Tr, (Yh ts).isSome = ts.all (fun t => (Yg t).isSome)
 | [] => by simp [Yh]
 | t :: ts => by
   have ih := Z31 ts
   simp only [Yh, List.all_cons]
   cases Yg t with
   | none => simp
   | some e =>
     simp only [Option.isSome_some, Bool.true_and]
     rw [← ih]
     cases Yh ts <;> rfl
theorem Z0e : ∀ (ts : List Tr) (es : List Ex), Yh ts = some es → es.length = ts.length
 | [], es, h => by simp only [Yh, Option.some.injEq] at h; subst h; rfl
 | t :: ts, es, h => by
   simp only [Yh] at h
   split at h
   · cases h
   · split at h
     · cases h
     · rename_i es' hs
       simp only [Option.some.injEq] at h
       subst h
       simp [Z0e ts es' hs]
theorem mkHead_isSome (h : List UInt8) (es : List Ex) : (Yi h es).isSome = ((decide (es.length = 1) && (Ki h).isSome) || (decide (es.length = 2) && (Jl h).isSome) || (decide (es.length = 3) && decide (h = kIf))) := by
 match es with
 | [] => simp [Yi]
 | [a] => simp [Yi]
 | [a, b] => simp [Yi]
 | [a, b, c] => by_cases q : h = kIf <;> simp [Yi, q]
 | _ :: _ :: _ :: _ :: _ => simp [Yi]
def Qw (h : Tr) (ps : List Tr) : Bool :=
 decide ((Yj (Z0 h)).1 ≠ 0) && decide (ps.length + 1 = (Yj (Z0 h)).2) && (decide ((Yj (Z0 h)).1 ≤ 1) || Yl (Z0 (ps.getD 0 default))) &&
  (decide ((Yj (Z0 h)).1 ≠ 5) || (Yl (Z0 (ps.getD 1 default)) && !(Z0 (ps.getD 0 default) == Z0 (ps.getD 1 default)) && Zn (ps.getD 2 default) && Zn (ps.getD 3 default)))
theorem Z11 (h : List UInt8) : (h = Qr ∧ Yj h = (2, 4)) ∨ (h = Qh ∧ Yj h = (5, 6)) ∨ (h ≠ Qr ∧ h ≠ Qh ∧
 (((Jl h).isSome = true ∧ Ki h = none ∧ h ≠ kIf ∧ Yj h = (1, 3)) ∨ (Jl h = none ∧ Ki h = none ∧ h = kIf ∧ Yj h = (1, 4)) ∨ (Jl h = none ∧ (Ki h).isSome = true ∧ h ≠ kIf ∧ Yj h = (1, 2)) ∨ (Jl h = none ∧ Ki h = none ∧ h ≠ kIf ∧ Yj h = (0, 0)))) := by
 by_cases h1 : h = Qr
 · subst h1; exact .inl ⟨rfl, by decide⟩
 by_cases h2 : h = Qh
 · subst h2; exact .inr (.inl ⟨rfl, by decide⟩)
 refine .inr (.inr ⟨h1, h2, ?_⟩)
 by_cases a1 : h = [43]
 · subst a1; exact .inl (by decide)
 by_cases a2 : h = [45]
 · subst a2; exact .inl (by decide)
 by_cases a3 : h = [42]
 · subst a3; exact .inl (by decide)
 by_cases a4 : h = [99, 97, 108, 108]
 · subst a4; exact .inl (by decide)
 by_cases a5 : h = [112, 97, 105, 114]
 · subst a5; exact .inl (by decide)
 by_cases a6 : h = kIf
 · subst a6; exact .inr (.inl (by decide))
 by_cases a7 : h = [102, 115, 116]
 · subst a7; exact .inr (.inr (.inl (by decide)))
 by_cases a8 : h = [115, 110, 100]
 · subst a8; exact .inr (.inr (.inl (by decide)))
 · refine .inr (.inr (.inr ⟨?_, ?_, a6, ?_⟩))
   · simp [Jl, a1, a2, a3, a4, a5]
   · simp [Ki, a7, a8]
   · simp [Yj, a1, a2, a3, a4, a5, a6, a7, a8, h1, h2]
theorem Z48 (h : Tr) (ps : List Tr) : (Qf (h :: ps)).isSome = (Qw h ps && ((h :: ps).drop (Yj (Z0 h)).1).all (fun t => (Yg t).isSome)) := by
 rcases Z11 (Z0 h) with ⟨e, k⟩ | ⟨e, k⟩ | ⟨n1, n2, r⟩
 · simp only [Qf, Qw, if_pos e, k]
   match ps with
   | [] => simp [Q1]
   | [_] => simp [Q1]
   | [_, _] => simp [Q1]
   | [x, a, b] =>
     simp only [Q1]
     cases hx : Yl (Z0 x) with
     | false => simp [hx]
     | true =>
       simp only [if_true]
       cases ha : Yg a <;> cases hb : Yg b <;> simp [hx, ha, hb]
   | _ :: _ :: _ :: _ :: _ => simp [Q1]
 · have hl : ¬ Z0 h = Qr := by rw [e]; decide
   simp only [Qf, Qw, if_neg hl, if_pos e, k]
   match ps with
   | [] => simp [X3]
   | [_] => simp [X3]
   | [_, _] => simp [X3]
   | [_, _, _] => simp [X3]
   | [_, _, _, _] => simp [X3]
   | [f, x, A, B, b] =>
     simp only [X3]
     cases hb : (Yl (Z0 f) && Yl (Z0 x) && !(Z0 f == Z0 x) && Zn A && Zn B) with
     | false =>
       simp only [Bool.false_eq_true, if_false, Option.isSome_none, List.getD_cons_zero, List.getD_cons_succ]
       symm
       cases h1 : Yl (Z0 f) <;> cases h2 : Yl (Z0 x) <;> cases h3 : (Z0 f == Z0 x) <;> cases h4 : Zn A <;> cases h5 : Zn B <;> simp_all
     | true =>
       simp only [if_true]
       simp only [Bool.and_eq_true] at hb
       obtain ⟨⟨⟨⟨b1, b2⟩, b3⟩, b4⟩, b5⟩ := hb
       simp only [List.getD_cons_zero, List.getD_cons_succ, b1, b2, b3, b4, b5, List.drop_succ_cons, List.drop_zero, List.all_cons, List.all_nil, List.length_cons, List.length_nil]
       cases hb : Yg b <;> simp
   | _ :: _ :: _ :: _ :: _ :: _ :: _ => simp [X3]
 · simp only [Qf, if_neg n1, if_neg n2]
   have hk : ∀ es, Yh ps = some es → (Yi (Z0 h) es).isSome = ((decide (ps.length = 1) && (Ki (Z0 h)).isSome) || (decide (ps.length = 2) && (Jl (Z0 h)).isSome) || (decide (ps.length = 3) && decide (Z0 h = kIf))) := fun es he => by rw [mkHead_isSome, Z0e ps es he]
   have hall := Z31 ps
   have hbody : ((Yh ps).bind (Yi (Z0 h))).isSome = (((decide (ps.length = 1) && (Ki (Z0 h)).isSome) || (decide (ps.length = 2) && (Jl (Z0 h)).isSome) || (decide (ps.length = 3) && decide (Z0 h = kIf))) && ps.all (fun t => (Yg t).isSome)) := by
    cases he : Yh ps with
    | none => rw [he] at hall; rw [← hall]; simp
    | some es => rw [he] at hall; rw [← hall, Option.bind_some, hk es he]; simp
   rw [hbody]
   rcases r with ⟨r1, r2, r3, k⟩ | ⟨r1, r2, r3, k⟩ | ⟨r1, r2, r3, k⟩ | ⟨r1, r2, r3, k⟩
   · simp [Qw, k, r1, r2, r3]
   · have r4 : decide (Z0 h = kIf) = true := by simp [r3]
     rw [Qw, k, r1, r2, r4]
     simp
   · simp [Qw, k, r1, r2, r3]
   · simp [Qw, k, r1, r2, r3]
def sName : List UInt8 := [110, 97, 109, 101]
def sNumber : List UInt8 := [110, 117, 109, 98, 101, 114]
def Z3d : Op2 → List UInt8
 | .add => [43] | .sub => [45] | .mul => [42] | .call => [99, 97, 108, 108] | .pair => [112, 97, 105, 114]
def Z4l : Op1 → List UInt8
 | .fst => [102, 115, 116] | .snd => [115, 110, 100]
def headOf : Ex → List UInt8
 | .name _ => sName
 | .num _ => sNumber
 | .two o _ _ => Z3d o
 | .one o _ => Z4l o
 | .cond _ _ _ => kIf
 | .lete _ _ _ => Qr
 | .func _ _ _ _ _ => Qh
def headT : Tr → List UInt8
 | .atom a => if Yl a = true then sName else sNumber
 | .list [] => []
 | .list (h :: _) => Z0 h
theorem numOf_notNm {a : List UInt8} {n : Int} (h : Qx a = some n) : Yl a = false := by
 cases a with
 | nil => rfl
 | cons b r =>
   cases hn : Yl (b :: r) with
   | false => rfl
   | true =>
     exfalso
     simp only [Yl, Bool.and_eq_true, decide_eq_true_eq] at hn
     obtain ⟨⟨_, h1, h2⟩, _⟩ := hn
     have hb45 : b ≠ 45 := fun e => by subst e; exact absurd h1 (by decide)
     have hb48 : b :: r ≠ [48] := fun e => by simp only [List.cons.injEq] at e; rw [e.1] at h1; exact absurd h1 (by decide)
     have hdg : Zk (b :: r) = b :: r := by simp [Zk, hb45]
     have hdv : Lib.digitVal b = none := by simp only [Lib.digitVal]; rw [if_neg (by omega)]
     have hnone := Ke (b :: r) 0 0 b rfl hdv
     simp only [Qx, if_neg hb48, hdg, hnone, Option.map_none] at h
     split at h <;> cases h
theorem op2Of_name {h : List UInt8} {o : Op2} (e : Jl h = some o) : Z3d o = h := by
 unfold Jl at e
 repeat' split at e
 all_goals first | (simp only [Option.some.injEq] at e; subst e; rename_i hh; simp only [Z3d]; exact hh.symm) | cases e
theorem op1Of_name {h : List UInt8} {o : Op1} (e : Ki h = some o) : Z4l o = h := by
 unfold Ki at e
 repeat' split at e
 all_goals first | (simp only [Option.some.injEq] at e; subst e; rename_i hh; simp only [Z4l]; exact hh.symm) | cases e
def Je (l : List (List UInt8)) (a : List UInt8) : List (List UInt8) := if a ∈ l then l else l ++ [a]
mutual
def Xs : Tr → List (List UInt8) → List (List UInt8)
 | .atom a, l => Je l a
 | .list ts, l => Q0 ts l
def Q0 : List Tr → List (List UInt8) → List (List UInt8)
 | [], l => l
 | t :: ts, l => Q0 ts (Xs t l)
end
theorem Z02 (a : List UInt8) (l : List (List UInt8)) : Xs (.atom a) l = Je l a := by simp only [Xs]
theorem Z19 (ts : List Tr) (l : List (List UInt8)) : Xs (.list ts) l = Q0 ts l := by simp only [Xs]
theorem Z5n : ∀ (ts : List Tr) (t : Tr) (l : List (List UInt8)), Q0 (ts ++ [t]) l = Xs t (Q0 ts l)
 | [], t, l => by simp only [List.nil_append, Q0]
 | a :: ts, t, l => by simp only [List.cons_append, Q0]; exact Z5n ts t _
theorem atomss_take (ts : List Tr) (l : List (List UInt8)) (k : Nat) (h : k < ts.length) : Q0 (ts.take (k + 1)) l = Xs ts[k] (Q0 (ts.take k) l) := by rw [Jw _ _ h, Z5n]
theorem addA_len (l : List (List UInt8)) (a : List UInt8) : l.length ≤ (Je l a).length ∧ (Je l a).length ≤ l.length + 1 := by
 unfold Je; split <;> simp
mutual
theorem atoms_len : ∀ (t : Tr) (l : List (List UInt8)), t.wf → l.length ≤ (Xs t l).length ∧ (Xs t l).length ≤ l.length + t.size
 | .atom a, l, _ => by rw [Z02]; have := addA_len l a; simp only [Tr.size]; omega
 | .list ts, l, h => by rw [Z19]; have := Z18 ts l h.2; simp only [Tr.size]; omega
theorem Z18 : ∀ (ts : List Tr) (l : List (List UInt8)), wfs ts → l.length ≤ (Q0 ts l).length ∧ (Q0 ts l).length ≤ l.length + Xo ts
 | [], l, _ => by simp [Q0, Xo]
 | t :: ts, l, h => by
   have h1 := atoms_len t l h.1
   have h2 := Z18 ts (Xs t l) h.2
   simp only [Q0, Xo]; omega
end
def Vk (s : List UInt8) : Option (List (List UInt8)) := (Zt s).map (fun t => Xs t [])
theorem atomsOf_none {s : List UInt8} (h : Zt s = none) : Vk s = none := by simp [Vk, h]
theorem atomsOf_some {s : List UInt8} {t : Tr} (h : Zt s = some t) : Vk s = some (Xs t []) := by simp [Vk, h]
theorem wfs_take6 {ts : List Tr} (h : wfs ts) (k : Nat) : wfs (ts.take k) := by
 induction ts generalizing k with
 | nil => simp [wfs]
 | cons a ts ih => cases k with
   | zero => simp [wfs]
   | succ k => exact ⟨h.1, ih h.2 k⟩
theorem Z5z (ts : List Tr) (l : List (List UInt8)) (k : Nat) (h : wfs ts) : l.length ≤ (Q0 (ts.take k) l).length ∧ (Q0 (ts.take k) l).length ≤ l.length + Xo (ts.take k) := Z18 _ _ (wfs_take6 h k)
abbrev Nm := List UInt8
def rm (bs : List Nm) (l : List Nm) : List Nm := l.filter (fun n => decide (n ∉ bs))
theorem Kn (l : List Nm) : rm [] l = l := by simp [rm]
theorem rm_len (a l : List Nm) : (rm a l).length ≤ l.length := List.length_filter_le _ _
def Zj : Ex → List Nm
 | .name s => [s]
 | .num _ => []
 | .two _ a b => Zj a ++ Zj b
 | .one _ a => Zj a
 | .cond a b c => Zj a ++ Zj b ++ Zj c
 | .lete x e b => Zj e ++ rm [x] (Zj b)
 | .func f x _ _ e => rm [f, x] (Zj e)
def Zd : Ex → List Ex
 | .name _ => []
 | .num _ => []
 | .two _ a b => [a, b]
 | .one _ a => [a]
 | .cond a b c => [a, b, c]
 | .lete _ e b => [e, b]
 | .func _ _ _ _ e => [e]
def Yd : Ex → Nat → List Nm
 | .lete x _ _, j => if j = 1 then [x] else []
 | .func f x _ _ _, _ => [f, x]
 | _, _ => []
def Y0 (b : Nat → List Nm) : Nat → List Ex → List Nm
 | _, [] => []
 | j, k :: ks => rm (b j) (Zj k) ++ Y0 b (j + 1) ks
theorem Z5i (b : Nat → List Nm) (e : Ex) : ∀ (ks : List Ex) (j : Nat), Y0 b j (ks ++ [e]) = Y0 b j ks ++ rm (b (j + ks.length)) (Zj e)
 | [], j => by simp [Y0]
 | k :: ks, j => by
   simp only [List.cons_append, Y0, Z5i b e ks (j + 1), List.length_cons, List.append_assoc]
   rw [show j + 1 + ks.length = j + (ks.length + 1) by omega]
theorem Ql (b : Nat → List Nm) (ks : List Ex) (j : Nat) (h : j < ks.length) : Y0 b 0 (ks.take (j + 1)) = Y0 b 0 (ks.take j) ++ rm (b j) (Zj ks[j]) := by
 rw [List.take_succ_eq_append_getElem h, Z5i]
 simp [Nat.min_eq_left (Nat.le_of_lt h)]
theorem J6 (b : Nat → List Nm) : ∀ (ks : List Ex) (j i : Nat), (Y0 b i (ks.take j)) <+: (Y0 b i ks)
 | [], j, i => by simp [Y0]
 | k :: ks, 0, i => by simp [Y0]
 | k :: ks, j + 1, i => by
   simp only [List.take_succ_cons, Y0]
   exact (List.prefix_append_right_inj _).2 (J6 b ks j (i + 1))
def notName : Ex → Prop | .name _ => False | _ => True
theorem Yx : ∀ (x : Ex), notName x → Zj x = Y0 (Yd x) 0 (Zd x)
 | .name s, h => h.elim
 | .num _, _ => rfl
 | .two _ a b, _ => by simp [Zj, Zd, Y0, Yd, Kn]
 | .one _ a, _ => by simp [Zj, Zd, Y0, Yd, Kn]
 | .cond a b c, _ => by simp [Zj, Zd, Y0, Yd, Kn]
 | .lete x e b, _ => by simp [Zj, Zd, Y0, Yd, Kn]
 | .func f x _ _ e, _ => by simp [Zj, Zd, Y0, Yd, Kn]
def addF (bnd l P : List Nm) : List Nm := (rm bnd P).foldl Je l
theorem foldA_len (P : List Nm) : ∀ l : List Nm, l.length ≤ (P.foldl Je l).length ∧ (P.foldl Je l).length ≤ l.length + P.length := by
 induction P with
 | nil => intro l; simp
 | cons a P ih =>
   intro l
   have h1 := ih (Je l a)
   have h2 := addA_len l a
   simp only [List.foldl_cons, List.length_cons]
   omega
theorem size_pos : ∀ t : Tr, t.wf → 1 ≤ t.size
 | .atom a, _ => by simp [Tr.size]
 | .list ts, h => by
   cases ts with
   | nil => simp [Tr.wf] at h
   | cons a b =>
     have := size_pos a (by simp only [Tr.wf, wfs] at h; exact h.2.1)
     simp only [Tr.size, Xo]
     omega
def bindT (h : Tr) (ps : List Tr) (i : Nat) : List Nm :=
 if Z0 h = Qr ∧ i = 3 then [Z0 (ps.getD 0 default)] else if Z0 h = Qh then [Z0 (ps.getD 0 default), Z0 (ps.getD 1 default)] else []
structure KidView (h : Tr) (ps : List Tr) (x : Ex) (a : Nat) : Prop where
 at_ : Yj (Z0 h) = (a, ps.length + 1)
 pos : 1 ≤ a
 le : a ≤ ps.length + 1
 len : a + (Zd x).length = ps.length + 1
 kid : ∀ j (hj : j < (Zd x).length) (hi : a + j < (h :: ps).length), Yg ((h :: ps)[a + j]) = some ((Zd x)[j])
 bind : ∀ j, j < (Zd x).length → bindT h ps (a + j) = Yd x j
 two : (Z0 h = Qr → 2 ≤ ps.length) ∧ (Z0 h = Qh → 2 ≤ ps.length)
 nn : notName x
theorem Z3f : ∀ (ts : List Tr) (es : List Ex), Yh ts = some es → ∀ j (hj : j < ts.length) (hj2 : j < es.length), Yg ts[j] = some es[j]
 | [], es, h, j, hj, _ => by simp at hj
 | t :: ts, es, h, j, hj, hj2 => by
   simp only [Yh] at h
   split at h
   · cases h
   · rename_i e he
     split at h
     · cases h
     · rename_i es' hs
       simp only [Option.some.injEq] at h
       subst h
       cases j with
       | zero => simpa using he
       | succ j => simpa using Z3f ts es' hs j (by simpa using hj) (by simpa using hj2)
theorem mkHead_kids {h : List UInt8} {es : List Ex} {x : Ex} (e : Yi h es = some x) : Zd x = es ∧ (∀ j, Yd x j = []) ∧ notName x := by
 match es, e with
 | [], e => cases e
 | [a], e =>
   simp only [Yi, Option.map_eq_some_iff] at e
   obtain ⟨o, ho, rfl⟩ := e
   exact ⟨rfl, fun _ => rfl, trivial⟩
 | [a, b], e =>
   simp only [Yi, Option.map_eq_some_iff] at e
   obtain ⟨o, ho, rfl⟩ := e
   exact ⟨rfl, fun _ => rfl, trivial⟩
 | [a, b, c], e =>
   simp only [Yi] at e
   split at e
   · simp only [Option.some.injEq] at e
     subst e; exact ⟨rfl, fun _ => rfl, trivial⟩
   · cases e
 | _ :: _ :: _ :: _ :: _, e => cases e
theorem kidView {h : Tr} {ps : List Tr} {x : Ex} (e : Yg (.list (h :: ps)) = some x) : ∃ a, KidView h ps x a := by
 have hok := Z48 h ps
 have e2 : Qf (h :: ps) = some x := by simpa only [Yg] using e
 simp only [e2, Option.isSome_some] at hok
 have hok1 := hok.symm
 simp only [Bool.and_eq_true] at hok1
 have hoh := hok1.1
 simp only [Qw, Bool.and_eq_true, decide_eq_true_eq] at hoh
 obtain ⟨⟨⟨k0, klen⟩, _⟩, _⟩ := hoh
 simp only [Qf] at e2
 split at e2
 · rename_i hl
   unfold Q1 at e2
   split at e2
   · rename_i x0 e0 b0
     split at e2
     · split at e2
       · cases e2
       · rename_i e' he
         split at e2
         · cases e2
         · rename_i b' hb
           simp only [Option.some.injEq] at e2
           subst e2
           refine ⟨2, ⟨by rw [hl]; rfl, by omega, by simp, by simp [Zd], ?_, ?_, by simp, trivial⟩⟩
           · intro j hj hi
             match j, hj with
             | 0, _ => simpa [Zd] using he
             | 1, _ => simpa [Zd] using hb
           · intro j hj
             match j, hj with
             | 0, _ => simp [bindT, Yd, hl, Qr, Qh]
             | 1, _ => simp [bindT, Yd, hl]
     · cases e2
   · cases e2
 · rename_i hl
   split at e2
   · rename_i hf
     unfold X3 at e2
     split at e2
     · rename_i f0 x0 A0 B0 e0
       split at e2
       · split at e2
         · cases e2
         · rename_i e' he
           simp only [Option.some.injEq] at e2
           subst e2
           refine ⟨5, ⟨by rw [hf]; rfl, by omega, by simp, by simp [Zd], ?_, ?_, by simp, trivial⟩⟩
           · intro j hj hi
             match j, hj with
             | 0, _ => simpa [Zd] using he
           · intro j hj
             match j, hj with
             | 0, _ => simp [bindT, Yd, hf, hl, Qr, Qh]
       · cases e2
     · cases e2
   · rename_i hf
     cases hk : Yh ps with
     | none => simp [hk] at e2
     | some es =>
       simp only [hk, Option.bind_some] at e2
       obtain ⟨q1, q2, q3⟩ := mkHead_kids e2
       have hlen := Z0e ps es hk
       have ha : (Yj (Z0 h)).1 = 1 := by
        rcases Z11 (Z0 h) with ⟨c, k⟩ | ⟨c, k⟩ | ⟨_, _, ⟨_, _, _, k⟩ | ⟨_, _, _, k⟩ | ⟨_, _, _, k⟩ | ⟨_, _, _, k⟩⟩
        · exact absurd c hl
        · exact absurd c hf
        all_goals first | (rw [k]; done) | (rw [k] at k0; exact absurd rfl k0)
       refine ⟨1, ⟨Prod.ext ha klen.symm, Nat.le_refl _, by omega, by rw [q1]; omega, ?_, ?_, ?_, q3⟩⟩
       · intro j hj hi
         have hj2 : j < es.length := by rw [q1] at hj; exact hj
         have := Z3f ps es hk j (by omega) hj2
         simp only [q1]
         rw [← this]
         congr 1
         rw [List.getElem_cons]
         rw [dif_neg (by omega)]
         congr 1
         omega
       · intro j hj
         rw [q2]
         simp [bindT, hl, hf]
       · exact ⟨fun hh => absurd hh hl, fun hh => absurd hh hf⟩
end Go.Proofs.YtmgepnacjgbfhaaGreatDoor
