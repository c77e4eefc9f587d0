/- Numerals: what they are, and their numbers. Expressions: names, and the tree of an expression. The heads of expressions. The different atoms of a form. Free names of expressions; the kids of an expression and the names bound in them. -/
import Derived.WalkKit
import Derived.Lib.Atoi
import Derived.Shelf.Strings.Prefix
import Derived.Test.YtfknoigbkleanaaGreatDoorqB1
namespace Go.Proofs.YtfknoigbkleanaaGreatDoor
set_option maxHeartbeats 20000000
set_option linter.unusedVariables false
set_option linter.unusedSimpArgs false
def Zj : List UInt8 → List UInt8
 | [] => []
 | b :: r => if b = 45 then r else b :: r
def Vq : List UInt8 → Int
 | [] => 1
 | b :: _ => if b = 45 then -1 else 1
def Qo (l : List UInt8) : Option Int :=
 if l = [48] then some 0
 else if 1 ≤ (Zj l).length ∧ (Zj l).length ≤ 3 ∧ (Zj l).head? ≠ some 48 then (Lib.decFrom 0 (Zj l)).map (fun (m : Nat) => Vq l * (m : Int))
 else none
theorem Z61 (l : List UInt8) : (Zj l).length ≤ l.length ∧ l.length ≤ (Zj l).length + 1 := by
 cases l with
 | nil => simp [Zj]
 | cons b r => simp only [Zj]; split <;> simp
theorem Ji : ∀ (l : List UInt8) (acc k : Nat) (b : UInt8), l[k]? = some b → Lib.digitVal b = none → Lib.decFrom acc l = none
 | [], acc, k, b, h, _ => by simp at h
 | a :: l, acc, 0, b, h, hb => by
   simp only [List.getElem?_cons_zero, Option.some.injEq] at h
   subst h
   simp [Lib.decFrom, hb]
 | a :: l, acc, k + 1, b, h, hb => by
   simp only [List.getElem?_cons_succ] at h
   simp only [Lib.decFrom]
   split
   · exact Ji l _ k b h hb
   · rfl
theorem Z06 : ∀ (l : List UInt8) (acc m : Nat), Lib.decFrom acc l = some m → m < (acc + 1) * 10 ^ l.length
 | [], acc, m, h => by simp only [Lib.decFrom, Option.some.injEq] at h; subst h; simp
 | b :: l, acc, m, h => by
   simp only [Lib.decFrom] at h
   split at h
   · rename_i d hd
     have hd9 : d ≤ 9 := by
      unfold Lib.digitVal at hd
      split at hd
      · simp only [Option.some.injEq] at hd; omega
      · cases hd
     have ih := Z06 l _ m h
     have e : (acc * 10 + d + 1) ≤ (acc + 1) * 10 := by omega
     have h2 := Nat.mul_le_mul_right (10 ^ l.length) e
     rw [List.length_cons, Nat.pow_succ, Nat.mul_comm (10 ^ l.length) 10, ← Nat.mul_assoc]
     omega
   · cases h
theorem atoi_num {l : List UInt8} {m : Nat} (hne : l ≠ [48]) (hd : Zj l ≠ []) (hm : Lib.decFrom 0 (Zj l) = some m) : Lib.atoi l = some (Vq l * (m : Int)) := by
 cases l with
 | nil => simp [Zj] at hd
 | cons b r =>
   simp only [Lib.atoi, Zj, Vq] at hd hm ⊢
   by_cases h45 : b = 45
   · subst h45
     simp only [if_true] at hd hm
     have : r.isEmpty = false := by simpa using hd
     simp [Lib.decNat, this, hm]
   · rw [if_neg h45] at hd hm
     have h1 : (b == 45) = false := by simpa using h45
     have h43 : (b == 43) = false := by
      simp only [beq_eq_false_iff_ne, ne_eq]
      intro e
      subst e
      simp [Lib.decFrom, Lib.digitVal] at hm
     simp [h1, h43, Lib.decNat, hm, h45]
theorem trim_minus (l : List UInt8) : Lib.trimPrefix l [45] = Zj l := by
 cases l with
 | nil => rfl
 | cons b r =>
   by_cases h : b = 45
   · subst h; simp [Zj, Lib.trimPrefix, Lib.hasPrefix]
   · simp [Zj, Lib.trimPrefix, Lib.hasPrefix, h]; try exact fun e => h e.symm
theorem Z8p : Qo [48] = some 0 := by simp [Qo]
theorem Z0c {l : List UInt8} (h0 : l ≠ [48]) (h : ¬ (1 ≤ (Zj l).length ∧ (Zj l).length ≤ 3 ∧ (Zj l).head? ≠ some 48)) : Qo l = none := by rw [Qo, if_neg h0, if_neg h]
theorem Z4a {l : List UInt8} (h0 : l ≠ [48]) (h : 1 ≤ (Zj l).length ∧ (Zj l).length ≤ 3 ∧ (Zj l).head? ≠ some 48) : Qo l = (Lib.decFrom 0 (Zj l)).map (fun (m : Nat) => Vq l * (m : Int)) := by rw [Qo, if_neg h0, if_pos h]
end Go.Proofs.YtfknoigbkleanaaGreatDoor
namespace Go.Proofs.YtfknoigbkleanaaGreatDoor
open Go.RowKit Go.Proofs.Tryz
set_option maxRecDepth 8000
set_option maxHeartbeats 20000000
set_option linter.unusedVariables false
set_option linter.unusedSimpArgs false
def Yr : List UInt8 → Bool
 | [] => false
 | b :: r => decide (r.length ≤ 3) && (decide (97 ≤ b.toNat) && decide (b.toNat ≤ 122)) && (Lib.decFrom 0 r).isSome
inductive Op2 where | add | sub | mul | call | pair
deriving DecidableEq
inductive Op1 where | fst | snd
deriving DecidableEq
inductive Ex where
 | name (s : List UInt8)
 | num (n : Int)
 | two (o : Op2) (a b : Ex)
 | one (o : Op1) (a : Ex)
 | cond (a b c : Ex)
 | lete (x : List UInt8) (e b : Ex)
 | func (f x : List UInt8) (A B : Tr) (e : Ex)
def Q3 : List UInt8 := [108, 101, 116]
def Q1 : List UInt8 := [102, 117, 110]
def kIf : List UInt8 := [105, 102]
def Kf (h : List UInt8) : Option Op2 :=
 if h = [43] then some .add else if h = [45] then some .sub else if h = [42] then some .mul else if h = [99, 97, 108, 108] then some .call else if h = [112, 97, 105, 114] then some .pair else none
def Vi (h : List UInt8) : Option Op1 := if h = [102, 115, 116] then some .fst else if h = [115, 110, 100] then some .snd else none
def Yc (h : List UInt8) : List Ex → Option Ex
 | [a] => (Vi h).map (fun o => .one o a)
 | [a, b] => (Kf h).map (fun o => .two o a b)
 | [a, b, c] => if h = kIf then some (.cond a b c) else none
 | _ => none
def Qm (a : List UInt8) : Option Ex :=
 match Qo a with
 | some n => some (.num n)
 | none => if Yr a = true then some (.name a) else none
def Zp (t : Tr) : Bool := Xk t && decide (t.size ≤ 16)
mutual
def Y9 : Tr → Option Ex
 | .atom a => Qm a
 | .list ts => Qu ts
def Qu : List Tr → Option Ex
 | [] => none
 | h :: ps => if Z0 h = Q3 then Q6 ps else if Z0 h = Q1 then Xf ps else (Yl ps).bind (Yc (Z0 h))
def Q6 : List Tr → Option Ex
 | [x, e, b] =>
   if Yr (Z0 x) = true then
    match Y9 e with
    | none => none
    | some e' => match Y9 b with
      | none => none
      | some b' => some (.lete (Z0 x) e' b')
   else none
 | _ => none
def Xf : List Tr → Option Ex
 | [f, x, A, B, e] =>
   if (Yr (Z0 f) && Yr (Z0 x) && !(Z0 f == Z0 x) && Zp A && Zp B) = true then
    match Y9 e with
    | none => none
    | some e' => some (.func (Z0 f) (Z0 x) A B e')
   else none
 | _ => none
def Yl : List Tr → Option (List Ex)
 | [] => some []
 | t :: ts => match Y9 t with
   | none => none
   | some e => match Yl ts with
     | none => none
     | some es => some (e :: es)
end
def Yb (l : List UInt8) : Option Ex :=
 match Zv l with
 | none => none
 | some t => if t.size ≤ 120 then Y9 t else none
theorem Z0a {l : List UInt8} (h : Zv l = none) : Yb l = none := by simp [Yb, h]
theorem Jh {l : List UInt8} {t : Tr} (h : Zv l = some t) : Yb l = if t.size ≤ 120 then Y9 t else none := by simp [Yb, h]
def Yq (h : List UInt8) : Nat × Nat :=
 if h = [43] ∨ h = [45] ∨ h = [42] ∨ h = [99, 97, 108, 108] ∨ h = [112, 97, 105, 114] then (1, 3)
 else if h = kIf then (1, 4)
 else if h = Q3 then (2, 4)
 else if h = Q1 then (5, 6)
 else if h = [102, 115, 116] ∨ h = [115, 110, 100] then (1, 2)
 else (0, 0)
theorem Z4z : ∀ ts : List Tr, (Yl ts).isSome = ts.all (fun t => (Y9 t).isSome)
 | [] => by simp [Yl]
 | t :: ts => by
   have ih := Z4z ts
   simp only [Yl, List.all_cons]
   cases Y9 t with
   | none => simp
   | some e =>
     simp only [Option.isSome_some, Bool.true_and]
     rw [← ih]
     cases Yl ts <;> rfl
theorem Z1u : ∀ (ts : List Tr) (es : List Ex), Yl ts = some es → es.length = ts.length
 | [], es, h => by simp only [Yl, Option.some.injEq] at h; subst h; rfl
 | t :: ts, es, h => by
   simp only [Yl] at h
   split at h
   · cases h
   · split at h
     · cases h
     · rename_i es' hs
       simp only [Option.some.injEq] at h
       subst h
       simp [Z1u ts es' hs]
theorem mkHead_isSome (h : List UInt8) (es : List Ex) : (Yc h es).isSome = ((decide (es.length = 1) && (Vi h).isSome) || (decide (es.length = 2) && (Kf h).isSome) || (decide (es.length = 3) && decide (h = kIf))) := by
 match es with
 | [] => simp [Yc]
 | [a] => simp [Yc]
 | [a, b] => simp [Yc]
 | [a, b, c] => by_cases q : h = kIf <;> simp [Yc, q]
 | _ :: _ :: _ :: _ :: _ => simp [Yc]
def Ja (h : Tr) (ps : List Tr) : Bool :=
 decide ((Yq (Z0 h)).1 ≠ 0) && decide (ps.length + 1 = (Yq (Z0 h)).2) && (decide ((Yq (Z0 h)).1 ≤ 1) || Yr (Z0 (ps.getD 0 default))) &&
  (decide ((Yq (Z0 h)).1 ≠ 5) || (Yr (Z0 (ps.getD 1 default)) && !(Z0 (ps.getD 0 default) == Z0 (ps.getD 1 default)) && Zp (ps.getD 2 default) && Zp (ps.getD 3 default)))
theorem Z2w (h : List UInt8) : (h = Q3 ∧ Yq h = (2, 4)) ∨ (h = Q1 ∧ Yq h = (5, 6)) ∨ (h ≠ Q3 ∧ h ≠ Q1 ∧
 (((Kf h).isSome = true ∧ Vi h = none ∧ h ≠ kIf ∧ Yq h = (1, 3)) ∨ (Kf h = none ∧ Vi h = none ∧ h = kIf ∧ Yq h = (1, 4)) ∨ (Kf h = none ∧ (Vi h).isSome = true ∧ h ≠ kIf ∧ Yq h = (1, 2)) ∨ (Kf h = none ∧ Vi h = none ∧ h ≠ kIf ∧ Yq h = (0, 0)))) := by
 by_cases h1 : h = Q3
 · subst h1; exact .inl ⟨rfl, by decide⟩
 by_cases h2 : h = Q1
 · subst h2; exact .inr (.inl ⟨rfl, by decide⟩)
 refine .inr (.inr ⟨h1, h2, ?_⟩)
 by_cases a1 : h = [43]
 · subst a1; exact .inl (by decide)
 by_cases a2 : h = [45]
 · subst a2; exact .inl (by decide)
 by_cases a3 : h = [42]
 · subst a3; exact .inl (by decide)
 by_cases a4 : h = [99, 97, 108, 108]
 · subst a4; exact .inl (by decide)
 by_cases a5 : h = [112, 97, 105, 114]
 · subst a5; exact .inl (by decide)
 by_cases a6 : h = kIf
 · subst a6; exact .inr (.inl (by decide))
 by_cases a7 : h = [102, 115, 116]
 · subst a7; exact .inr (.inr (.inl (by decide)))
 by_cases a8 : h = [115, 110, 100]
 · subst a8; exact .inr (.inr (.inl (by decide)))
 · refine .inr (.inr (.inr ⟨?_, ?_, a6, ?_⟩))
   · simp [Kf, a1, a2, a3, a4, a5]
   · simp [Vi, a7, a8]
   · simp [Yq, a1, a2, a3, a4, a5, a6, a7, a8, h1, h2]
theorem Z62 (h : Tr) (ps : List Tr) : (Qu (h :: ps)).isSome = (Ja h ps && ((h :: ps).drop (Yq (Z0 h)).1).all (fun t => (Y9 t).isSome)) := by
 rcases Z2w (Z0 h) with ⟨e, k⟩ | ⟨e, k⟩ | ⟨n1, n2, r⟩
 · simp only [Qu, Ja, if_pos e, k]
   match ps with
   | [] => simp [Q6]
   | [_] => simp [Q6]
   | [_, _] => simp [Q6]
   | [x, a, b] =>
     simp only [Q6]
     cases hx : Yr (Z0 x) with
     | false => simp [hx]
     | true =>
       simp only [if_true]
       cases ha : Y9 a <;> cases hb : Y9 b <;> simp [hx, ha, hb]
   | _ :: _ :: _ :: _ :: _ => simp [Q6]
 · have hl : ¬ Z0 h = Q3 := by rw [e]; decide
   simp only [Qu, Ja, if_neg hl, if_pos e, k]
   match ps with
   | [] => simp [Xf]
   | [_] => simp [Xf]
   | [_, _] => simp [Xf]
   | [_, _, _] => simp [Xf]
   | [_, _, _, _] => simp [Xf]
   | [f, x, A, B, b] =>
     simp only [Xf]
     cases hb : (Yr (Z0 f) && Yr (Z0 x) && !(Z0 f == Z0 x) && Zp A && Zp B) with
     | false =>
       simp only [Bool.false_eq_true, if_false, Option.isSome_none, List.getD_cons_zero, List.getD_cons_succ]
       symm
       cases h1 : Yr (Z0 f) <;> cases h2 : Yr (Z0 x) <;> cases h3 : (Z0 f == Z0 x) <;> cases h4 : Zp A <;> cases h5 : Zp B <;> simp_all
     | true =>
       simp only [if_true]
       simp only [Bool.and_eq_true] at hb
       obtain ⟨⟨⟨⟨b1, b2⟩, b3⟩, b4⟩, b5⟩ := hb
       simp only [List.getD_cons_zero, List.getD_cons_succ, b1, b2, b3, b4, b5, List.drop_succ_cons, List.drop_zero, List.all_cons, List.all_nil, List.length_cons, List.length_nil]
       cases hb : Y9 b <;> simp
   | _ :: _ :: _ :: _ :: _ :: _ :: _ => simp [Xf]
 · simp only [Qu, if_neg n1, if_neg n2]
   have hk : ∀ es, Yl ps = some es → (Yc (Z0 h) es).isSome = ((decide (ps.length = 1) && (Vi (Z0 h)).isSome) || (decide (ps.length = 2) && (Kf (Z0 h)).isSome) || (decide (ps.length = 3) && decide (Z0 h = kIf))) := fun es he => by rw [mkHead_isSome, Z1u ps es he]
   have hall := Z4z ps
   have hbody : ((Yl ps).bind (Yc (Z0 h))).isSome = (((decide (ps.length = 1) && (Vi (Z0 h)).isSome) || (decide (ps.length = 2) && (Kf (Z0 h)).isSome) || (decide (ps.length = 3) && decide (Z0 h = kIf))) && ps.all (fun t => (Y9 t).isSome)) := by
    cases he : Yl ps with
    | none => rw [he] at hall; rw [← hall]; simp
    | some es => rw [he] at hall; rw [← hall, Option.bind_some, hk es he]; simp
   rw [hbody]
   rcases r with ⟨r1, r2, r3, k⟩ | ⟨r1, r2, r3, k⟩ | ⟨r1, r2, r3, k⟩ | ⟨r1, r2, r3, k⟩
   · simp [Ja, k, r1, r2, r3]
   · have r4 : decide (Z0 h = kIf) = true := by simp [r3]
     rw [Ja, k, r1, r2, r4]
     simp
   · simp [Ja, k, r1, r2, r3]
   · simp [Ja, k, r1, r2, r3]
def Z4p : List UInt8 := [110, 97, 109, 101]
def Z00 : List UInt8 := [110, 117, 109, 98, 101, 114]
def Z3c : Op2 → List UInt8
 | .add => [43] | .sub => [45] | .mul => [42] | .call => [99, 97, 108, 108] | .pair => [112, 97, 105, 114]
def Z4l : Op1 → List UInt8
 | .fst => [102, 115, 116] | .snd => [115, 110, 100]
def Q5 : Ex → List UInt8
 | .name _ => Z4p
 | .num _ => Z00
 | .two o _ _ => Z3c o
 | .one o _ => Z4l o
 | .cond _ _ _ => kIf
 | .lete _ _ _ => Q3
 | .func _ _ _ _ _ => Q1
def headT : Tr → List UInt8
 | .atom a => if Yr a = true then Z4p else Z00
 | .list [] => []
 | .list (h :: _) => Z0 h
theorem Z1l {a : List UInt8} {n : Int} (h : Qo a = some n) : Yr a = false := by
 cases a with
 | nil => rfl
 | cons b r =>
   cases hn : Yr (b :: r) with
   | false => rfl
   | true =>
     exfalso
     simp only [Yr, Bool.and_eq_true, decide_eq_true_eq] at hn
     obtain ⟨⟨_, h1, h2⟩, _⟩ := hn
     have hb45 : b ≠ 45 := fun e => by subst e; exact absurd h1 (by decide)
     have hb48 : b :: r ≠ [48] := fun e => by simp only [List.cons.injEq] at e; rw [e.1] at h1; exact absurd h1 (by decide)
     have hdg : Zj (b :: r) = b :: r := by simp [Zj, hb45]
     have hdv : Lib.digitVal b = none := by simp only [Lib.digitVal]; rw [if_neg (by omega)]
     have hnone := Ji (b :: r) 0 0 b rfl hdv
     simp only [Qo, if_neg hb48, hdg, hnone, Option.map_none] at h
     split at h <;> cases h
theorem op2Of_name {h : List UInt8} {o : Op2} (e : Kf h = some o) : Z3c o = h := by
 unfold Kf at e
 repeat' split at e
 all_goals first | (simp only [Option.some.injEq] at e; subst e; rename_i hh; simp only [Z3c]; exact hh.symm) | cases e
theorem op1Of_name {h : List UInt8} {o : Op1} (e : Vi h = some o) : Z4l o = h := by
 unfold Vi at e
 repeat' split at e
 all_goals first | (simp only [Option.some.injEq] at e; subst e; rename_i hh; simp only [Z4l]; exact hh.symm) | cases e
def Jr (l : List (List UInt8)) (a : List UInt8) : List (List UInt8) := if a ∈ l then l else l ++ [a]
mutual
def Q7 : Tr → List (List UInt8) → List (List UInt8)
 | .atom a, l => Jr l a
 | .list ts, l => Qf ts l
def Qf : List Tr → List (List UInt8) → List (List UInt8)
 | [], l => l
 | t :: ts, l => Qf ts (Q7 t l)
end
theorem Z1e (a : List UInt8) (l : List (List UInt8)) : Q7 (.atom a) l = Jr l a := by simp only [Q7]
theorem Z34 (ts : List Tr) (l : List (List UInt8)) : Q7 (.list ts) l = Qf ts l := by simp only [Q7]
theorem Z7c : ∀ (ts : List Tr) (t : Tr) (l : List (List UInt8)), Qf (ts ++ [t]) l = Q7 t (Qf ts l)
 | [], t, l => by simp only [List.nil_append, Qf]
 | a :: ts, t, l => by simp only [List.cons_append, Qf]; exact Z7c ts t _
theorem atomss_take (ts : List Tr) (l : List (List UInt8)) (k : Nat) (h : k < ts.length) : Qf (ts.take (k + 1)) l = Q7 ts[k] (Qf (ts.take k) l) := by rw [Kv _ _ h, Z7c]
theorem addA_len (l : List (List UInt8)) (a : List UInt8) : l.length ≤ (Jr l a).length ∧ (Jr l a).length ≤ l.length + 1 := by
 unfold Jr; split <;> simp
mutual
theorem atoms_len : ∀ (t : Tr) (l : List (List UInt8)), t.wf → l.length ≤ (Q7 t l).length ∧ (Q7 t l).length ≤ l.length + t.size
 | .atom a, l, _ => by rw [Z1e]; have := addA_len l a; simp only [Tr.size]; omega
 | .list ts, l, h => by rw [Z34]; have := Z33 ts l h.2; simp only [Tr.size]; omega
theorem Z33 : ∀ (ts : List Tr) (l : List (List UInt8)), wfs ts → l.length ≤ (Qf ts l).length ∧ (Qf ts l).length ≤ l.length + Yo ts
 | [], l, _ => by simp [Qf, Yo]
 | t :: ts, l, h => by
   have h1 := atoms_len t l h.1
   have h2 := Z33 ts (Q7 t l) h.2
   simp only [Qf, Yo]; omega
end
def Z0t (s : List UInt8) : Option (List (List UInt8)) := (Zv s).map (fun t => Q7 t [])
theorem atomsOf_none {s : List UInt8} (h : Zv s = none) : Z0t s = none := by simp [Z0t, h]
theorem atomsOf_some {s : List UInt8} {t : Tr} (h : Zv s = some t) : Z0t s = some (Q7 t []) := by simp [Z0t, h]
theorem wfs_take6 {ts : List Tr} (h : wfs ts) (k : Nat) : wfs (ts.take k) := by
 induction ts generalizing k with
 | nil => simp [wfs]
 | cons a ts ih => cases k with
   | zero => simp [wfs]
   | succ k => exact ⟨h.1, ih h.2 k⟩
theorem Z7q (ts : List Tr) (l : List (List UInt8)) (k : Nat) (h : wfs ts) : l.length ≤ (Qf (ts.take k) l).length ∧ (Qf (ts.take k) l).length ≤ l.length + Yo (ts.take k) := Z33 _ _ (wfs_take6 h k)
abbrev Nm := List UInt8
def rm (bs : List Nm) (l : List Nm) : List Nm := l.filter (fun n => decide (n ∉ bs))
theorem rm_append (bs l m : List Nm) : rm bs (l ++ m) = rm bs l ++ rm bs m := by simp [rm]
theorem Vg (l : List Nm) : rm [] l = l := by simp [rm]
theorem rm_rm (a b l : List Nm) : rm a (rm b l) = rm (a ++ b) l := by
 simp only [rm, List.filter_filter]
 congr 1
 funext n
 simp [List.mem_append, not_or]
theorem Z2m (a l : List Nm) : (rm a l).length ≤ l.length := List.length_filter_le _ _
def Ze : Ex → List Nm
 | .name s => [s]
 | .num _ => []
 | .two _ a b => Ze a ++ Ze b
 | .one _ a => Ze a
 | .cond a b c => Ze a ++ Ze b ++ Ze c
 | .lete x e b => Ze e ++ rm [x] (Ze b)
 | .func f x _ _ e => rm [f, x] (Ze e)
def Zc : Ex → List Ex
 | .name _ => []
 | .num _ => []
 | .two _ a b => [a, b]
 | .one _ a => [a]
 | .cond a b c => [a, b, c]
 | .lete _ e b => [e, b]
 | .func _ _ _ _ e => [e]
def Y2 : Ex → Nat → List Nm
 | .lete x _ _, j => if j = 1 then [x] else []
 | .func f x _ _ _, _ => [f, x]
 | _, _ => []
def Zz (b : Nat → List Nm) : Nat → List Ex → List Nm
 | _, [] => []
 | j, k :: ks => rm (b j) (Ze k) ++ Zz b (j + 1) ks
theorem Z78 (b : Nat → List Nm) (e : Ex) : ∀ (ks : List Ex) (j : Nat), Zz b j (ks ++ [e]) = Zz b j ks ++ rm (b (j + ks.length)) (Ze e)
 | [], j => by simp [Zz]
 | k :: ks, j => by
   simp only [List.cons_append, Zz, Z78 b e ks (j + 1), List.length_cons, List.append_assoc]
   rw [show j + 1 + ks.length = j + (ks.length + 1) by omega]
theorem Qd (b : Nat → List Nm) (ks : List Ex) (j : Nat) (h : j < ks.length) : Zz b 0 (ks.take (j + 1)) = Zz b 0 (ks.take j) ++ rm (b j) (Ze ks[j]) := by
 rw [List.take_succ_eq_append_getElem h, Z78]
 simp [Nat.min_eq_left (Nat.le_of_lt h)]
theorem Jo (b : Nat → List Nm) : ∀ (ks : List Ex) (j i : Nat), (Zz b i (ks.take j)) <+: (Zz b i ks)
 | [], j, i => by simp [Zz]
 | k :: ks, 0, i => by simp [Zz]
 | k :: ks, j + 1, i => by
   simp only [List.take_succ_cons, Zz]
   exact (List.prefix_append_right_inj _).2 (Jo b ks j (i + 1))
def notName : Ex → Prop | .name _ => False | _ => True
theorem Xc : ∀ (x : Ex), notName x → Ze x = Zz (Y2 x) 0 (Zc x)
 | .name s, h => h.elim
 | .num _, _ => rfl
 | .two _ a b, _ => by simp [Ze, Zc, Zz, Y2, Vg]
 | .one _ a, _ => by simp [Ze, Zc, Zz, Y2, Vg]
 | .cond a b c, _ => by simp [Ze, Zc, Zz, Y2, Vg]
 | .lete x e b, _ => by simp [Ze, Zc, Zz, Y2, Vg]
 | .func f x _ _ e, _ => by simp [Ze, Zc, Zz, Y2, Vg]
def Vy (bnd l P : List Nm) : List Nm := (rm bnd P).foldl Jr l
theorem addF_append (bnd l P Q : List Nm) : Vy bnd l (P ++ Q) = Vy bnd (Vy bnd l P) Q := by simp [Vy, rm_append]
theorem addF_rm (bnd b l P : List Nm) : Vy bnd l (rm b P) = Vy (bnd ++ b) l P := by rw [Vy, rm_rm]; rfl
theorem addF_nil (bnd l : List Nm) : Vy bnd l [] = l := rfl
theorem addF_one (bnd l : List Nm) (s : Nm) : Vy bnd l [s] = if s ∈ bnd ∨ s ∈ l then l else l ++ [s] := by
 unfold Vy rm
 by_cases h1 : s ∈ bnd
 · simp [h1]
 · by_cases h2 : s ∈ l
   · simp [h1, h2, Jr]
   · simp [h1, h2, Jr]
theorem Z11 (P : List Nm) : ∀ l : List Nm, l.length ≤ (P.foldl Jr l).length ∧ (P.foldl Jr l).length ≤ l.length + P.length := by
 induction P with
 | nil => intro l; simp
 | cons a P ih =>
   intro l
   have h1 := ih (Jr l a)
   have h2 := addA_len l a
   simp only [List.foldl_cons, List.length_cons]
   omega
theorem addF_len (bnd l P : List Nm) : l.length ≤ (Vy bnd l P).length ∧ (Vy bnd l P).length ≤ l.length + P.length := by
 have h1 := Z11 (rm bnd P) l
 have h2 := Z2m bnd P
 unfold Vy
 omega
theorem foldA_nil (P : List Nm) : P.foldl Jr [] = [] ↔ P = [] := by
 cases P with
 | nil => simp
 | cons a P =>
   have h := (Z11 P (Jr [] a)).1
   have h2 : (Jr [] a).length = 1 := by simp [Jr]
   constructor
   · intro e
     simp only [List.foldl_cons] at e
     rw [e] at h
     simp only [List.length_nil] at h; omega
   · intro e; cases e
theorem size_pos : ∀ t : Tr, t.wf → 1 ≤ t.size
 | .atom a, _ => by simp [Tr.size]
 | .list ts, h => by
   cases ts with
   | nil => simp [Tr.wf] at h
   | cons a b =>
     have := size_pos a (by simp only [Tr.wf, wfs] at h; exact h.2.1)
     simp only [Tr.size, Yo]
     omega
def Z0i (h : Tr) (ps : List Tr) (i : Nat) : List Nm :=
 if Z0 h = Q3 ∧ i = 3 then [Z0 (ps.getD 0 default)] else if Z0 h = Q1 then [Z0 (ps.getD 0 default), Z0 (ps.getD 1 default)] else []
structure KidView (h : Tr) (ps : List Tr) (x : Ex) (a : Nat) : Prop where
 at_ : Yq (Z0 h) = (a, ps.length + 1)
 pos : 1 ≤ a
 le : a ≤ ps.length + 1
 len : a + (Zc x).length = ps.length + 1
 kid : ∀ j (hj : j < (Zc x).length) (hi : a + j < (h :: ps).length), Y9 ((h :: ps)[a + j]) = some ((Zc x)[j])
 bind : ∀ j, j < (Zc x).length → Z0i h ps (a + j) = Y2 x j
 two : (Z0 h = Q3 → 2 ≤ ps.length) ∧ (Z0 h = Q1 → 2 ≤ ps.length)
 nn : notName x
theorem Z2v : ∀ (ts : List Tr) (es : List Ex), Yl ts = some es → ∀ j (hj : j < ts.length) (hj2 : j < es.length), Y9 ts[j] = some es[j]
 | [], es, h, j, hj, _ => by simp at hj
 | t :: ts, es, h, j, hj, hj2 => by
   simp only [Yl] at h
   split at h
   · cases h
   · rename_i e he
     split at h
     · cases h
     · rename_i es' hs
       simp only [Option.some.injEq] at h
       subst h
       cases j with
       | zero => simpa using he
       | succ j => simpa using Z2v ts es' hs j (by simpa using hj) (by simpa using hj2)
theorem Z70 {h : List UInt8} {es : List Ex} {x : Ex} (e : Yc h es = some x) : Zc x = es ∧ (∀ j, Y2 x j = []) ∧ notName x := by
 match es, e with
 | [], e => cases e
 | [a], e =>
   simp only [Yc, Option.map_eq_some_iff] at e
   obtain ⟨o, ho, rfl⟩ := e
   exact ⟨rfl, fun _ => rfl, trivial⟩
 | [a, b], e =>
   simp only [Yc, Option.map_eq_some_iff] at e
   obtain ⟨o, ho, rfl⟩ := e
   exact ⟨rfl, fun _ => rfl, trivial⟩
 | [a, b, c], e =>
   simp only [Yc] at e
   split at e
   · simp only [Option.some.injEq] at e
     subst e; exact ⟨rfl, fun _ => rfl, trivial⟩
   · cases e
 | _ :: _ :: _ :: _ :: _, e => cases e
theorem Z7v {h : Tr} {ps : List Tr} {x : Ex} (e : Y9 (.list (h :: ps)) = some x) : ∃ a, KidView h ps x a := by
 have hok := Z62 h ps
 have e2 : Qu (h :: ps) = some x := by simpa only [Y9] using e
 simp only [e2, Option.isSome_some] at hok
 have hok1 := hok.symm
 simp only [Bool.and_eq_true] at hok1
 have hoh := hok1.1
 simp only [Ja, Bool.and_eq_true, decide_eq_true_eq] at hoh
 obtain ⟨⟨⟨k0, klen⟩, _⟩, _⟩ := hoh
 simp only [Qu] at e2
 split at e2
 · rename_i hl
   unfold Q6 at e2
   split at e2
   · rename_i x0 e0 b0
     split at e2
     · split at e2
       · cases e2
       · rename_i e' he
         split at e2
         · cases e2
         · rename_i b' hb
           simp only [Option.some.injEq] at e2
           subst e2
           refine ⟨2, ⟨by rw [hl]; rfl, by omega, by simp, by simp [Zc], ?_, ?_, by simp, trivial⟩⟩
           · intro j hj hi
             match j, hj with
             | 0, _ => simpa [Zc] using he
             | 1, _ => simpa [Zc] using hb
           · intro j hj
             match j, hj with
             | 0, _ => simp [Z0i, Y2, hl, Q3, Q1]
             | 1, _ => simp [Z0i, Y2, hl]
     · cases e2
   · cases e2
 · rename_i hl
   split at e2
   · rename_i hf
     unfold Xf at e2
     split at e2
     · rename_i f0 x0 A0 B0 e0
       split at e2
       · split at e2
         · cases e2
         · rename_i e' he
           simp only [Option.some.injEq] at e2
           subst e2
           refine ⟨5, ⟨by rw [hf]; rfl, by omega, by simp, by simp [Zc], ?_, ?_, by simp, trivial⟩⟩
           · intro j hj hi
             match j, hj with
             | 0, _ => simpa [Zc] using he
           · intro j hj
             match j, hj with
             | 0, _ => simp [Z0i, Y2, hf, hl, Q3, Q1]
       · cases e2
     · cases e2
   · rename_i hf
     cases hk : Yl ps with
     | none => simp [hk] at e2
     | some es =>
       simp only [hk, Option.bind_some] at e2
       obtain ⟨q1, q2, q3⟩ := Z70 e2
       have hlen := Z1u ps es hk
       have ha : (Yq (Z0 h)).1 = 1 := by
        rcases Z2w (Z0 h) with ⟨c, k⟩ | ⟨c, k⟩ | ⟨_, _, ⟨_, _, _, k⟩ | ⟨_, _, _, k⟩ | ⟨_, _, _, k⟩ | ⟨_, _, _, k⟩⟩
        · exact absurd c hl
        · exact absurd c hf
        all_goals first | (rw [k]; done) | (rw [k] at k0; exact absurd rfl k0)
       refine ⟨1, ⟨Prod.ext ha klen.symm, Nat.le_refl _, by omega, by rw [q1]; omega, ?_, ?_, ?_, q3⟩⟩
       · intro j hj hi
         have hj2 : j < es.length := by rw [q1] at hj; exact hj
         have := Z2v ps es hk j (by omega) hj2
         simp only [q1]
         rw [← this]
         congr 1
         rw [List.getElem_cons]
         rw [dif_neg (by omega)]
         congr 1
         omega
       · intro j hj
         rw [q2]
         simp [Z0i, hl, hf]
       · exact ⟨fun hh => absurd hh hl, fun hh => absurd hh hf⟩
end Go.Proofs.YtfknoigbkleanaaGreatDoor
