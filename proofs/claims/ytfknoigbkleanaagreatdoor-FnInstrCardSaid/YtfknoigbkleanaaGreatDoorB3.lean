/- Numerals: what they are, and their numbers. Expressions: names, and the tree of an expression. The heads of expressions. The different atoms of a form. Free names of expressions; the kids of an expression and the names bound in them. -/
import Derived.WalkKit
import Derived.Lib.Atoi
import Derived.Shelf.Strings.Prefix
import Derived.Test.YtfknoigbkleanaaGreatDoorB1
namespace Go.Proofs.YtfknoigbkleanaaGreatDoor
set_option linter.unusedSimpArgs false
set_option linter.unusedVariables false
/-- The digits of a text that may begin with a minus. -/
def digitsOf : List UInt8 → List UInt8
  | [] => []
  | b :: r => if b = 45 then r else b :: r
def signOf : List UInt8 → Int
  | [] => 1
  | b :: _ => if b = 45 then -1 else 1
/-- The number of a numeral. -/
def numOf (l : List UInt8) : Option Int :=
  if l = [48] then some 0
  else if 1 ≤ (digitsOf l).length ∧ (digitsOf l).length ≤ 3 ∧ (digitsOf l).head? ≠ some 48 then (Lib.decFrom 0 (digitsOf l)).map (fun (m : Nat) => signOf l * (m : Int))
  else none
theorem digitsOf_len (l : List UInt8) : (digitsOf l).length ≤ l.length ∧ l.length ≤ (digitsOf l).length + 1 := by
  cases l with
  | nil => simp [digitsOf]
  | cons b r => simp only [digitsOf]; split <;> simp
theorem decFrom_bad : ∀ (l : List UInt8) (acc k : Nat) (b : UInt8), l[k]? = some b → Lib.digitVal b = none → Lib.decFrom acc l = none
  | [], acc, k, b, h, _ => by simp at h
  | a :: l, acc, 0, b, h, hb => by
    simp only [List.getElem?_cons_zero, Option.some.injEq] at h
    subst h
    simp [Lib.decFrom, hb]
  | a :: l, acc, k + 1, b, h, hb => by
    simp only [List.getElem?_cons_succ] at h
    simp only [Lib.decFrom]
    split
    · exact decFrom_bad l _ k b h hb
    · rfl
theorem decFrom_bound : ∀ (l : List UInt8) (acc m : Nat), Lib.decFrom acc l = some m → m < (acc + 1) * 10 ^ l.length
  | [], acc, m, h => by simp only [Lib.decFrom, Option.some.injEq] at h; subst h; simp
  | b :: l, acc, m, h => by
    simp only [Lib.decFrom] at h
    split at h
    · rename_i d hd
      have hd9 : d ≤ 9 := by
        unfold Lib.digitVal at hd
        split at hd
        · simp only [Option.some.injEq] at hd; omega
        · cases hd
      have ih := decFrom_bound l _ m h
      have e : (acc * 10 + d + 1) ≤ (acc + 1) * 10 := by omega
      have h2 := Nat.mul_le_mul_right (10 ^ l.length) e
      rw [List.length_cons, Nat.pow_succ, Nat.mul_comm (10 ^ l.length) 10, ← Nat.mul_assoc]
      omega
    · cases h
theorem atoi_num {l : List UInt8} {m : Nat} (hne : l ≠ [48]) (hd : digitsOf l ≠ []) (hm : Lib.decFrom 0 (digitsOf l) = some m) : Lib.atoi l = some (signOf l * (m : Int)) := by
  cases l with
  | nil => simp [digitsOf] at hd
  | cons b r =>
    simp only [Lib.atoi, digitsOf, signOf] at hd hm ⊢
    by_cases h45 : b = 45
    · subst h45
      simp only [if_true] at hd hm
      have : r.isEmpty = false := by simpa using hd
      simp [Lib.decNat, this, hm]
    · rw [if_neg h45] at hd hm
      have h1 : (b == 45) = false := by simpa using h45
      have h43 : (b == 43) = false := by
        simp only [beq_eq_false_iff_ne, ne_eq]
        intro e
        subst e
        simp [Lib.decFrom, Lib.digitVal] at hm
      simp [h1, h43, Lib.decNat, hm, h45]
theorem trim_minus (l : List UInt8) : Lib.trimPrefix l [45] = digitsOf l := by
  cases l with
  | nil => rfl
  | cons b r =>
    by_cases h : b = 45
    · subst h; simp [digitsOf, Lib.trimPrefix, Lib.hasPrefix]
    · simp [digitsOf, Lib.trimPrefix, Lib.hasPrefix, h]; try exact fun e => h e.symm
theorem numOf_zero : numOf [48] = some 0 := by simp [numOf]
theorem numOf_no {l : List UInt8} (h0 : l ≠ [48]) (h : ¬ (1 ≤ (digitsOf l).length ∧ (digitsOf l).length ≤ 3 ∧ (digitsOf l).head? ≠ some 48)) : numOf l = none := by rw [numOf, if_neg h0, if_neg h]
theorem numOf_yes {l : List UInt8} (h0 : l ≠ [48]) (h : 1 ≤ (digitsOf l).length ∧ (digitsOf l).length ≤ 3 ∧ (digitsOf l).head? ≠ some 48) : numOf l = (Lib.decFrom 0 (digitsOf l)).map (fun (m : Nat) => signOf l * (m : Int)) := by rw [numOf, if_neg h0, if_pos h]
theorem signOf_cases (l : List UInt8) : signOf l = 1 ∨ signOf l = -1 := by
  cases l with
  | nil => exact .inl rfl
  | cons b r => simp only [signOf]; split <;> simp
end Go.Proofs.YtfknoigbkleanaaGreatDoor
namespace Go.Proofs.YtfknoigbkleanaaGreatDoor
open Go.RowKit
set_option maxRecDepth 8000
set_option linter.unusedSimpArgs false
set_option linter.unusedVariables false
/-- A name: a small letter, then digits alone, at most four bytes. -/
def isNm : List UInt8 → Bool
  | [] => false
  | b :: r => decide (r.length ≤ 3) && (decide (97 ≤ b.toNat) && decide (b.toNat ≤ 122)) && (Lib.decFrom 0 r).isSome
inductive Op2 where | add | sub | mul | call | pair
deriving DecidableEq
inductive Op1 where | fst | snd
deriving DecidableEq
inductive Ex where
  | name (s : List UInt8)
  | num (n : Int)
  | two (o : Op2) (a b : Ex)
  | one (o : Op1) (a : Ex)
  | cond (a b c : Ex)
  | lete (x : List UInt8) (e b : Ex)
  | func (f x : List UInt8) (A B : Tr) (e : Ex)
def kLet : List UInt8 := [108, 101, 116]
def kFun : List UInt8 := [102, 117, 110]
def kIf : List UInt8 := [105, 102]
def op2Of (h : List UInt8) : Option Op2 :=
  if h = [43] then some .add else if h = [45] then some .sub else if h = [42] then some .mul else if h = [99, 97, 108, 108] then some .call else if h = [112, 97, 105, 114] then some .pair else none
def op1Of (h : List UInt8) : Option Op1 := if h = [102, 115, 116] then some .fst else if h = [115, 110, 100] then some .snd else none
/-- The expression with a head that binds no names, and its kids. -/
def mkHead (h : List UInt8) : List Ex → Option Ex
  | [a] => (op1Of h).map (fun o => .one o a)
  | [a, b] => (op2Of h).map (fun o => .two o a b)
  | [a, b, c] => if h = kIf then some (.cond a b c) else none
  | _ => none
def atomEx (a : List UInt8) : Option Ex :=
  match numOf a with
  | some n => some (.num n)
  | none => if isNm a = true then some (.name a) else none
def isTyL (t : Tr) : Bool := isTy t && decide (t.size ≤ 16)
mutual
/-- A form as an expression of any size. -/
def asEx : Tr → Option Ex
  | .atom a => atomEx a
  | .list ts => asExs ts
def asExs : List Tr → Option Ex
  | [] => none
  | h :: ps => if atomOf h = kLet then asLetE ps else if atomOf h = kFun then asFunE ps else (kidsEx ps).bind (mkHead (atomOf h))
def asLetE : List Tr → Option Ex
  | [x, e, b] =>
    if isNm (atomOf x) = true then
      match asEx e with
      | none => none
      | some e' => match asEx b with
        | none => none
        | some b' => some (.lete (atomOf x) e' b')
    else none
  | _ => none
def asFunE : List Tr → Option Ex
  | [f, x, A, B, e] =>
    if (isNm (atomOf f) && isNm (atomOf x) && !(atomOf f == atomOf x) && isTyL A && isTyL B) = true then
      match asEx e with
      | none => none
      | some e' => some (.func (atomOf f) (atomOf x) A B e')
    else none
  | _ => none
def kidsEx : List Tr → Option (List Ex)
  | [] => some []
  | t :: ts => match asEx t with
    | none => none
    | some e => match kidsEx ts with
      | none => none
      | some es => some (e :: es)
end
/-- The expression that is a text. -/
def readEx (l : List UInt8) : Option Ex :=
  match parse l with
  | none => none
  | some t => if t.size ≤ 120 then asEx t else none
theorem readEx_none {l : List UInt8} (h : parse l = none) : readEx l = none := by simp [readEx, h]
theorem readEx_some {l : List UInt8} {t : Tr} (h : parse l = some t) : readEx l = if t.size ≤ 120 then asEx t else none := by simp [readEx, h]
/-- How many parts ahead of the first expression, and how many parts, by the head. -/
def kidsAt (h : List UInt8) : Nat × Nat :=
  if h = [43] ∨ h = [45] ∨ h = [42] ∨ h = [99, 97, 108, 108] ∨ h = [112, 97, 105, 114] then (1, 3)
  else if h = kIf then (1, 4)
  else if h = kLet then (2, 4)
  else if h = kFun then (5, 6)
  else if h = [102, 115, 116] ∨ h = [115, 110, 100] then (1, 2)
  else (0, 0)
theorem kidsEx_isSome : ∀ ts : List Tr, (kidsEx ts).isSome = ts.all (fun t => (asEx t).isSome)
  | [] => by simp [kidsEx]
  | t :: ts => by
    have ih := kidsEx_isSome ts
    simp only [kidsEx, List.all_cons]
    cases asEx t with
    | none => simp
    | some e =>
      simp only [Option.isSome_some, Bool.true_and]
      rw [← ih]
      cases kidsEx ts <;> rfl
theorem kidsEx_length : ∀ (ts : List Tr) (es : List Ex), kidsEx ts = some es → es.length = ts.length
  | [], es, h => by simp only [kidsEx, Option.some.injEq] at h; subst h; rfl
  | t :: ts, es, h => by
    simp only [kidsEx] at h
    split at h
    · cases h
    · split at h
      · cases h
      · rename_i es' hs
        simp only [Option.some.injEq] at h
        subst h
        simp [kidsEx_length ts es' hs]
theorem mkHead_isSome (h : List UInt8) (es : List Ex) : (mkHead h es).isSome = ((decide (es.length = 1) && (op1Of h).isSome) || (decide (es.length = 2) && (op2Of h).isSome) || (decide (es.length = 3) && decide (h = kIf))) := by
  match es with
  | [] => simp [mkHead]
  | [a] => simp [mkHead]
  | [a, b] => simp [mkHead]
  | [a, b, c] => by_cases q : h = kIf <;> simp [mkHead, q]
  | _ :: _ :: _ :: _ :: _ => simp [mkHead]
/-- What the head asks of the other parts, but for those that are expressions. -/
def okHead (h : Tr) (ps : List Tr) : Bool :=
  decide ((kidsAt (atomOf h)).1 ≠ 0) && decide (ps.length + 1 = (kidsAt (atomOf h)).2) && (decide ((kidsAt (atomOf h)).1 ≤ 1) || isNm (atomOf (ps.getD 0 default))) &&
    (decide ((kidsAt (atomOf h)).1 ≠ 5) || (isNm (atomOf (ps.getD 1 default)) && !(atomOf (ps.getD 0 default) == atomOf (ps.getD 1 default)) && isTyL (ps.getD 2 default) && isTyL (ps.getD 3 default)))
theorem kidsAt_cases (h : List UInt8) : (h = kLet ∧ kidsAt h = (2, 4)) ∨ (h = kFun ∧ kidsAt h = (5, 6)) ∨ (h ≠ kLet ∧ h ≠ kFun ∧
    (((op2Of h).isSome = true ∧ op1Of h = none ∧ h ≠ kIf ∧ kidsAt h = (1, 3)) ∨ (op2Of h = none ∧ op1Of h = none ∧ h = kIf ∧ kidsAt h = (1, 4)) ∨ (op2Of h = none ∧ (op1Of h).isSome = true ∧ h ≠ kIf ∧ kidsAt h = (1, 2)) ∨ (op2Of h = none ∧ op1Of h = none ∧ h ≠ kIf ∧ kidsAt h = (0, 0)))) := by
  by_cases h1 : h = kLet
  · subst h1; exact .inl ⟨rfl, by decide⟩
  by_cases h2 : h = kFun
  · subst h2; exact .inr (.inl ⟨rfl, by decide⟩)
  refine .inr (.inr ⟨h1, h2, ?_⟩)
  by_cases a1 : h = [43]
  · subst a1; exact .inl (by decide)
  by_cases a2 : h = [45]
  · subst a2; exact .inl (by decide)
  by_cases a3 : h = [42]
  · subst a3; exact .inl (by decide)
  by_cases a4 : h = [99, 97, 108, 108]
  · subst a4; exact .inl (by decide)
  by_cases a5 : h = [112, 97, 105, 114]
  · subst a5; exact .inl (by decide)
  by_cases a6 : h = kIf
  · subst a6; exact .inr (.inl (by decide))
  by_cases a7 : h = [102, 115, 116]
  · subst a7; exact .inr (.inr (.inl (by decide)))
  by_cases a8 : h = [115, 110, 100]
  · subst a8; exact .inr (.inr (.inl (by decide)))
  · refine .inr (.inr (.inr ⟨?_, ?_, a6, ?_⟩))
    · simp [op2Of, a1, a2, a3, a4, a5]
    · simp [op1Of, a7, a8]
    · simp [kidsAt, a1, a2, a3, a4, a5, a6, a7, a8, h1, h2]
theorem asExs_isSome (h : Tr) (ps : List Tr) : (asExs (h :: ps)).isSome = (okHead h ps && ((h :: ps).drop (kidsAt (atomOf h)).1).all (fun t => (asEx t).isSome)) := by
  rcases kidsAt_cases (atomOf h) with ⟨e, k⟩ | ⟨e, k⟩ | ⟨n1, n2, r⟩
  · simp only [asExs, okHead, if_pos e, k]
    match ps with
    | [] => simp [asLetE]
    | [_] => simp [asLetE]
    | [_, _] => simp [asLetE]
    | [x, a, b] =>
      simp only [asLetE]
      cases hx : isNm (atomOf x) with
      | false => simp [hx]
      | true =>
        simp only [if_true]
        cases ha : asEx a <;> cases hb : asEx b <;> simp [hx, ha, hb]
    | _ :: _ :: _ :: _ :: _ => simp [asLetE]
  · have hl : ¬ atomOf h = kLet := by rw [e]; decide
    simp only [asExs, okHead, if_neg hl, if_pos e, k]
    match ps with
    | [] => simp [asFunE]
    | [_] => simp [asFunE]
    | [_, _] => simp [asFunE]
    | [_, _, _] => simp [asFunE]
    | [_, _, _, _] => simp [asFunE]
    | [f, x, A, B, b] =>
      simp only [asFunE]
      cases hb : (isNm (atomOf f) && isNm (atomOf x) && !(atomOf f == atomOf x) && isTyL A && isTyL B) with
      | false =>
        simp only [Bool.false_eq_true, if_false, Option.isSome_none, List.getD_cons_zero, List.getD_cons_succ]
        symm
        cases h1 : isNm (atomOf f) <;> cases h2 : isNm (atomOf x) <;> cases h3 : (atomOf f == atomOf x) <;> cases h4 : isTyL A <;> cases h5 : isTyL B <;> simp_all
      | true =>
        simp only [if_true]
        simp only [Bool.and_eq_true] at hb
        obtain ⟨⟨⟨⟨b1, b2⟩, b3⟩, b4⟩, b5⟩ := hb
        simp only [List.getD_cons_zero, List.getD_cons_succ, b1, b2, b3, b4, b5, List.drop_succ_cons, List.drop_zero, List.all_cons, List.all_nil, List.length_cons, List.length_nil]
        cases hb : asEx b <;> simp
    | _ :: _ :: _ :: _ :: _ :: _ :: _ => simp [asFunE]
  · simp only [asExs, if_neg n1, if_neg n2]
    have hk : ∀ es, kidsEx ps = some es → (mkHead (atomOf h) es).isSome = ((decide (ps.length = 1) && (op1Of (atomOf h)).isSome) || (decide (ps.length = 2) && (op2Of (atomOf h)).isSome) || (decide (ps.length = 3) && decide (atomOf h = kIf))) := fun es he => by rw [mkHead_isSome, kidsEx_length ps es he]
    have hall := kidsEx_isSome ps
    have hbody : ((kidsEx ps).bind (mkHead (atomOf h))).isSome = (((decide (ps.length = 1) && (op1Of (atomOf h)).isSome) || (decide (ps.length = 2) && (op2Of (atomOf h)).isSome) || (decide (ps.length = 3) && decide (atomOf h = kIf))) && ps.all (fun t => (asEx t).isSome)) := by
      cases he : kidsEx ps with
      | none => rw [he] at hall; rw [← hall]; simp
      | some es => rw [he] at hall; rw [← hall, Option.bind_some, hk es he]; simp
    rw [hbody]
    rcases r with ⟨r1, r2, r3, k⟩ | ⟨r1, r2, r3, k⟩ | ⟨r1, r2, r3, k⟩ | ⟨r1, r2, r3, k⟩
    · simp [okHead, k, r1, r2, r3]
    · have r4 : decide (atomOf h = kIf) = true := by simp [r3]
      rw [okHead, k, r1, r2, r4]
      simp
    · simp [okHead, k, r1, r2, r3]
    · simp [okHead, k, r1, r2, r3]
end Go.Proofs.YtfknoigbkleanaaGreatDoor
namespace Go.Proofs.YtfknoigbkleanaaGreatDoor
open Go.RowKit
set_option linter.unusedSimpArgs false
set_option linter.unusedVariables false
def sName : List UInt8 := [110, 97, 109, 101]
def sNumber : List UInt8 := [110, 117, 109, 98, 101, 114]
def op2N : Op2 → List UInt8
  | .add => [43] | .sub => [45] | .mul => [42] | .call => [99, 97, 108, 108] | .pair => [112, 97, 105, 114]
def op1N : Op1 → List UInt8
  | .fst => [102, 115, 116] | .snd => [115, 110, 100]
def headOf : Ex → List UInt8
  | .name _ => sName
  | .num _ => sNumber
  | .two o _ _ => op2N o
  | .one o _ => op1N o
  | .cond _ _ _ => kIf
  | .lete _ _ _ => kLet
  | .func _ _ _ _ _ => kFun
/-- The head of an expression, by its tree. -/
def headT : Tr → List UInt8
  | .atom a => if isNm a = true then sName else sNumber
  | .list [] => []
  | .list (h :: _) => atomOf h
theorem numOf_notNm {a : List UInt8} {n : Int} (h : numOf a = some n) : isNm a = false := by
  cases a with
  | nil => rfl
  | cons b r =>
    cases hn : isNm (b :: r) with
    | false => rfl
    | true =>
      exfalso
      simp only [isNm, Bool.and_eq_true, decide_eq_true_eq] at hn
      obtain ⟨⟨_, h1, h2⟩, _⟩ := hn
      have hb45 : b ≠ 45 := fun e => by subst e; exact absurd h1 (by decide)
      have hb48 : b :: r ≠ [48] := fun e => by simp only [List.cons.injEq] at e; rw [e.1] at h1; exact absurd h1 (by decide)
      have hdg : digitsOf (b :: r) = b :: r := by simp [digitsOf, hb45]
      have hdv : Lib.digitVal b = none := by simp only [Lib.digitVal]; rw [if_neg (by omega)]
      have hnone := decFrom_bad (b :: r) 0 0 b rfl hdv
      simp only [numOf, if_neg hb48, hdg, hnone, Option.map_none] at h
      split at h <;> cases h
theorem op2Of_name {h : List UInt8} {o : Op2} (e : op2Of h = some o) : op2N o = h := by
  unfold op2Of at e
  repeat' split at e
  all_goals first | (simp only [Option.some.injEq] at e; subst e; rename_i hh; simp only [op2N]; exact hh.symm) | cases e
theorem op1Of_name {h : List UInt8} {o : Op1} (e : op1Of h = some o) : op1N o = h := by
  unfold op1Of at e
  repeat' split at e
  all_goals first | (simp only [Option.some.injEq] at e; subst e; rename_i hh; simp only [op1N]; exact hh.symm) | cases e
theorem mkHead_head {h : List UInt8} {es : List Ex} {x : Ex} (e : mkHead h es = some x) : headOf x = h := by
  match es, e with
  | [], e => cases e
  | [a], e =>
    simp only [mkHead, Option.map_eq_some_iff] at e
    obtain ⟨o, ho, rfl⟩ := e
    exact op1Of_name ho
  | [a, b], e =>
    simp only [mkHead, Option.map_eq_some_iff] at e
    obtain ⟨o, ho, rfl⟩ := e
    exact op2Of_name ho
  | [a, b, c], e =>
    simp only [mkHead] at e
    split at e
    · rename_i hh
      simp only [Option.some.injEq] at e
      subst e; exact hh.symm
    · cases e
  | _ :: _ :: _ :: _ :: _, e => cases e
theorem asEx_head : ∀ {t : Tr} {x : Ex}, asEx t = some x → headOf x = headT t
  | .atom a, x, h => by
    simp only [asEx, atomEx] at h
    cases hn : numOf a with
    | some n =>
      simp only [hn, Option.some.injEq] at h
      subst h
      simp [headOf, headT, numOf_notNm hn]
    | none =>
      simp only [hn] at h
      split at h
      · rename_i hm
        simp only [Option.some.injEq] at h
        subst h
        simp [headOf, headT, hm]
      · cases h
  | .list [], x, h => by simp [asEx, asExs] at h
  | .list (h0 :: ps), x, h => by
    simp only [asEx, asExs] at h
    split at h
    · rename_i hl
      unfold asLetE at h
      repeat' split at h
      all_goals first | (simp only [Option.some.injEq] at h; subst h; show kLet = atomOf h0; exact hl.symm) | cases h
    · split at h
      · rename_i hl
        unfold asFunE at h
        repeat' split at h
        all_goals first | (simp only [Option.some.injEq] at h; subst h; show kFun = atomOf h0; exact hl.symm) | cases h
      · cases hk : kidsEx ps with
        | none => simp [hk] at h
        | some es => simp only [hk, Option.bind_some] at h; simp only [headT]; exact mkHead_head h
end Go.Proofs.YtfknoigbkleanaaGreatDoor
namespace Go.Proofs.YtfknoigbkleanaaGreatDoor
open Go.RowKit
set_option linter.unusedSimpArgs false
set_option linter.unusedVariables false
def addA (l : List (List UInt8)) (a : List UInt8) : List (List UInt8) := if a ∈ l then l else l ++ [a]
mutual
def atoms : Tr → List (List UInt8) → List (List UInt8)
  | .atom a, l => addA l a
  | .list ts, l => atomss ts l
def atomss : List Tr → List (List UInt8) → List (List UInt8)
  | [], l => l
  | t :: ts, l => atomss ts (atoms t l)
end
theorem atoms_atom (a : List UInt8) (l : List (List UInt8)) : atoms (.atom a) l = addA l a := by simp only [atoms]
theorem atoms_list (ts : List Tr) (l : List (List UInt8)) : atoms (.list ts) l = atomss ts l := by simp only [atoms]
theorem atomss_snoc : ∀ (ts : List Tr) (t : Tr) (l : List (List UInt8)), atomss (ts ++ [t]) l = atoms t (atomss ts l)
  | [], t, l => by simp only [List.nil_append, atomss]
  | a :: ts, t, l => by simp only [List.cons_append, atomss]; exact atomss_snoc ts t _
theorem atomss_take (ts : List Tr) (l : List (List UInt8)) (k : Nat) (h : k < ts.length) : atomss (ts.take (k + 1)) l = atoms ts[k] (atomss (ts.take k) l) := by rw [take_snoc' _ _ h, atomss_snoc]
theorem addA_len (l : List (List UInt8)) (a : List UInt8) : l.length ≤ (addA l a).length ∧ (addA l a).length ≤ l.length + 1 := by
  unfold addA; split <;> simp
mutual
theorem atoms_len : ∀ (t : Tr) (l : List (List UInt8)), t.wf → l.length ≤ (atoms t l).length ∧ (atoms t l).length ≤ l.length + t.size
  | .atom a, l, _ => by rw [atoms_atom]; have := addA_len l a; simp only [Tr.size]; omega
  | .list ts, l, h => by rw [atoms_list]; have := atomss_len ts l h.2; simp only [Tr.size]; omega
theorem atomss_len : ∀ (ts : List Tr) (l : List (List UInt8)), wfs ts → l.length ≤ (atomss ts l).length ∧ (atomss ts l).length ≤ l.length + sizes ts
  | [], l, _ => by simp [atomss, sizes]
  | t :: ts, l, h => by
    have h1 := atoms_len t l h.1
    have h2 := atomss_len ts (atoms t l) h.2
    simp only [atomss, sizes]; omega
end
/-- The different atoms of a text that is a form. -/
def atomsOf (s : List UInt8) : Option (List (List UInt8)) := (parse s).map (fun t => atoms t [])
theorem atomsOf_none {s : List UInt8} (h : parse s = none) : atomsOf s = none := by simp [atomsOf, h]
theorem atomsOf_some {s : List UInt8} {t : Tr} (h : parse s = some t) : atomsOf s = some (atoms t []) := by simp [atomsOf, h]
theorem wfs_take6 {ts : List Tr} (h : wfs ts) (k : Nat) : wfs (ts.take k) := by
  induction ts generalizing k with
  | nil => simp [wfs]
  | cons a ts ih => cases k with
    | zero => simp [wfs]
    | succ k => exact ⟨h.1, ih h.2 k⟩
theorem atomss_take_len (ts : List Tr) (l : List (List UInt8)) (k : Nat) (h : wfs ts) : l.length ≤ (atomss (ts.take k) l).length ∧ (atomss (ts.take k) l).length ≤ l.length + sizes (ts.take k) := atomss_len _ _ (wfs_take6 h k)
end Go.Proofs.YtfknoigbkleanaaGreatDoor
namespace Go.Proofs.YtfknoigbkleanaaGreatDoor
open Go.RowKit
set_option linter.unusedSimpArgs false
set_option linter.unusedVariables false
abbrev Nm := List UInt8
/-- A list without some names. -/
def rm (bs : List Nm) (l : List Nm) : List Nm := l.filter (fun n => decide (n ∉ bs))
theorem rm_append (bs l m : List Nm) : rm bs (l ++ m) = rm bs l ++ rm bs m := by simp [rm]
theorem rm_nil (l : List Nm) : rm [] l = l := by simp [rm]
theorem rm_rm (a b l : List Nm) : rm a (rm b l) = rm (a ++ b) l := by
  simp only [rm, List.filter_filter]
  congr 1
  funext n
  simp [List.mem_append, not_or]
theorem rm_len (a l : List Nm) : (rm a l).length ≤ l.length := List.length_filter_le _ _
theorem rm_count (a l : List Nm) (n : Nm) : (rm a l).count n = if n ∈ a then 0 else l.count n := by
  induction l with
  | nil => simp [rm]
  | cons b l ih =>
    have ih' : (l.filter (fun n => decide (n ∉ a))).count n = if n ∈ a then 0 else l.count n := ih
    simp only [rm, List.filter_cons]
    by_cases hb : b ∈ a
    · rw [if_neg (by simpa using hb), ih']
      by_cases hn : n ∈ a
      · rw [if_pos hn, if_pos hn]
      · rw [if_neg hn, if_neg hn, List.count_cons]
        have hne : (b == n) = false := by simp; intro e; subst e; exact hn hb
        simp [hne]
    · rw [if_pos (by simpa using hb), List.count_cons, ih', List.count_cons]
      by_cases hn : n ∈ a
      · rw [if_pos hn, if_pos hn]
        have hne : (b == n) = false := by simp; intro e; subst e; exact hb hn
        simp [hne]
      · rw [if_neg hn, if_neg hn]
/-- The places where names stand free, in order. -/
def freeP : Ex → List Nm
  | .name s => [s]
  | .num _ => []
  | .two _ a b => freeP a ++ freeP b
  | .one _ a => freeP a
  | .cond a b c => freeP a ++ freeP b ++ freeP c
  | .lete x e b => freeP e ++ rm [x] (freeP b)
  | .func f x _ _ e => rm [f, x] (freeP e)
def kidsE : Ex → List Ex
  | .name _ => []
  | .num _ => []
  | .two _ a b => [a, b]
  | .one _ a => [a]
  | .cond a b c => [a, b, c]
  | .lete _ e b => [e, b]
  | .func _ _ _ _ e => [e]
def bindE : Ex → Nat → List Nm
  | .lete x _ _, j => if j = 1 then [x] else []
  | .func f x _ _ _, _ => [f, x]
  | _, _ => []
def freeKs (b : Nat → List Nm) : Nat → List Ex → List Nm
  | _, [] => []
  | j, k :: ks => rm (b j) (freeP k) ++ freeKs b (j + 1) ks
theorem freeKs_snoc (b : Nat → List Nm) (e : Ex) : ∀ (ks : List Ex) (j : Nat), freeKs b j (ks ++ [e]) = freeKs b j ks ++ rm (b (j + ks.length)) (freeP e)
  | [], j => by simp [freeKs]
  | k :: ks, j => by
    simp only [List.cons_append, freeKs, freeKs_snoc b e ks (j + 1), List.length_cons, List.append_assoc]
    rw [show j + 1 + ks.length = j + (ks.length + 1) by omega]
theorem freeKs_take (b : Nat → List Nm) (ks : List Ex) (j : Nat) (h : j < ks.length) : freeKs b 0 (ks.take (j + 1)) = freeKs b 0 (ks.take j) ++ rm (b j) (freeP ks[j]) := by
  rw [List.take_succ_eq_append_getElem h, freeKs_snoc]
  simp [Nat.min_eq_left (Nat.le_of_lt h)]
theorem freeKs_pre (b : Nat → List Nm) : ∀ (ks : List Ex) (j i : Nat), (freeKs b i (ks.take j)) <+: (freeKs b i ks)
  | [], j, i => by simp [freeKs]
  | k :: ks, 0, i => by simp [freeKs]
  | k :: ks, j + 1, i => by
    simp only [List.take_succ_cons, freeKs]
    exact (List.prefix_append_right_inj _).2 (freeKs_pre b ks j (i + 1))
def notName : Ex → Prop | .name _ => False | _ => True
theorem freeP_kids : ∀ (x : Ex), notName x → freeP x = freeKs (bindE x) 0 (kidsE x)
  | .name s, h => h.elim
  | .num _, _ => rfl
  | .two _ a b, _ => by simp [freeP, kidsE, freeKs, bindE, rm_nil]
  | .one _ a, _ => by simp [freeP, kidsE, freeKs, bindE, rm_nil]
  | .cond a b c, _ => by simp [freeP, kidsE, freeKs, bindE, rm_nil]
  | .lete x e b, _ => by simp [freeP, kidsE, freeKs, bindE, rm_nil]
  | .func f x _ _ e, _ => by simp [freeP, kidsE, freeKs, bindE, rm_nil]
/-- Free names each once, those in 'bnd' left out, behind a list. -/
def addF (bnd l P : List Nm) : List Nm := (rm bnd P).foldl addA l
theorem addF_append (bnd l P Q : List Nm) : addF bnd l (P ++ Q) = addF bnd (addF bnd l P) Q := by simp [addF, rm_append]
theorem addF_rm (bnd b l P : List Nm) : addF bnd l (rm b P) = addF (bnd ++ b) l P := by rw [addF, rm_rm]; rfl
theorem addF_nil (bnd l : List Nm) : addF bnd l [] = l := rfl
theorem addF_one (bnd l : List Nm) (s : Nm) : addF bnd l [s] = if s ∈ bnd ∨ s ∈ l then l else l ++ [s] := by
  unfold addF rm
  by_cases h1 : s ∈ bnd
  · simp [h1]
  · by_cases h2 : s ∈ l
    · simp [h1, h2, addA]
    · simp [h1, h2, addA]
theorem foldA_len (P : List Nm) : ∀ l : List Nm, l.length ≤ (P.foldl addA l).length ∧ (P.foldl addA l).length ≤ l.length + P.length := by
  induction P with
  | nil => intro l; simp
  | cons a P ih =>
    intro l
    have h1 := ih (addA l a)
    have h2 := addA_len l a
    simp only [List.foldl_cons, List.length_cons]
    omega
theorem addF_len (bnd l P : List Nm) : l.length ≤ (addF bnd l P).length ∧ (addF bnd l P).length ≤ l.length + P.length := by
  have h1 := foldA_len (rm bnd P) l
  have h2 := rm_len bnd P
  unfold addF
  omega
theorem foldA_nil (P : List Nm) : P.foldl addA [] = [] ↔ P = [] := by
  cases P with
  | nil => simp
  | cons a P =>
    have h := (foldA_len P (addA [] a)).1
    have h2 : (addA [] a).length = 1 := by simp [addA]
    constructor
    · intro e
      simp only [List.foldl_cons] at e
      rw [e] at h
      simp only [List.length_nil] at h; omega
    · intro e; cases e
theorem size_pos : ∀ t : Tr, t.wf → 1 ≤ t.size
  | .atom a, _ => by simp [Tr.size]
  | .list ts, h => by
    cases ts with
    | nil => simp [Tr.wf] at h
    | cons a b =>
      have := size_pos a (by simp only [Tr.wf, wfs] at h; exact h.2.1)
      simp only [Tr.size, sizes]
      omega
/-- The names that the reference model takes for bound in the part with an index. -/
def bindT (h : Tr) (ps : List Tr) (i : Nat) : List Nm :=
  if atomOf h = kLet ∧ i = 3 then [atomOf (ps.getD 0 default)] else if atomOf h = kFun then [atomOf (ps.getD 0 default), atomOf (ps.getD 1 default)] else []
/-- An expression's parts, as the reference model goes through them. -/
structure KidView (h : Tr) (ps : List Tr) (x : Ex) (a : Nat) : Prop where
  at_ : kidsAt (atomOf h) = (a, ps.length + 1)
  pos : 1 ≤ a
  le : a ≤ ps.length + 1
  len : a + (kidsE x).length = ps.length + 1
  kid : ∀ j (hj : j < (kidsE x).length) (hi : a + j < (h :: ps).length), asEx ((h :: ps)[a + j]) = some ((kidsE x)[j])
  bind : ∀ j, j < (kidsE x).length → bindT h ps (a + j) = bindE x j
  two : (atomOf h = kLet → 2 ≤ ps.length) ∧ (atomOf h = kFun → 2 ≤ ps.length)
  nn : notName x
theorem kidsEx_get : ∀ (ts : List Tr) (es : List Ex), kidsEx ts = some es → ∀ j (hj : j < ts.length) (hj2 : j < es.length), asEx ts[j] = some es[j]
  | [], es, h, j, hj, _ => by simp at hj
  | t :: ts, es, h, j, hj, hj2 => by
    simp only [kidsEx] at h
    split at h
    · cases h
    · rename_i e he
      split at h
      · cases h
      · rename_i es' hs
        simp only [Option.some.injEq] at h
        subst h
        cases j with
        | zero => simpa using he
        | succ j => simpa using kidsEx_get ts es' hs j (by simpa using hj) (by simpa using hj2)
theorem mkHead_kids {h : List UInt8} {es : List Ex} {x : Ex} (e : mkHead h es = some x) : kidsE x = es ∧ (∀ j, bindE x j = []) ∧ notName x := by
  match es, e with
  | [], e => cases e
  | [a], e =>
    simp only [mkHead, Option.map_eq_some_iff] at e
    obtain ⟨o, ho, rfl⟩ := e
    exact ⟨rfl, fun _ => rfl, trivial⟩
  | [a, b], e =>
    simp only [mkHead, Option.map_eq_some_iff] at e
    obtain ⟨o, ho, rfl⟩ := e
    exact ⟨rfl, fun _ => rfl, trivial⟩
  | [a, b, c], e =>
    simp only [mkHead] at e
    split at e
    · simp only [Option.some.injEq] at e
      subst e; exact ⟨rfl, fun _ => rfl, trivial⟩
    · cases e
  | _ :: _ :: _ :: _ :: _, e => cases e
theorem kidView {h : Tr} {ps : List Tr} {x : Ex} (e : asEx (.list (h :: ps)) = some x) : ∃ a, KidView h ps x a := by
  have hok := asExs_isSome h ps
  have e2 : asExs (h :: ps) = some x := by simpa only [asEx] using e
  simp only [e2, Option.isSome_some] at hok
  have hok1 := hok.symm
  simp only [Bool.and_eq_true] at hok1
  have hoh := hok1.1
  simp only [okHead, Bool.and_eq_true, decide_eq_true_eq] at hoh
  obtain ⟨⟨⟨k0, klen⟩, _⟩, _⟩ := hoh
  simp only [asExs] at e2
  split at e2
  · rename_i hl
    unfold asLetE at e2
    split at e2
    · rename_i x0 e0 b0
      split at e2
      · split at e2
        · cases e2
        · rename_i e' he
          split at e2
          · cases e2
          · rename_i b' hb
            simp only [Option.some.injEq] at e2
            subst e2
            refine ⟨2, ⟨by rw [hl]; rfl, by omega, by simp, by simp [kidsE], ?_, ?_, by simp, trivial⟩⟩
            · intro j hj hi
              match j, hj with
              | 0, _ => simpa [kidsE] using he
              | 1, _ => simpa [kidsE] using hb
            · intro j hj
              match j, hj with
              | 0, _ => simp [bindT, bindE, hl, kLet, kFun]
              | 1, _ => simp [bindT, bindE, hl]
      · cases e2
    · cases e2
  · rename_i hl
    split at e2
    · rename_i hf
      unfold asFunE at e2
      split at e2
      · rename_i f0 x0 A0 B0 e0
        split at e2
        · split at e2
          · cases e2
          · rename_i e' he
            simp only [Option.some.injEq] at e2
            subst e2
            refine ⟨5, ⟨by rw [hf]; rfl, by omega, by simp, by simp [kidsE], ?_, ?_, by simp, trivial⟩⟩
            · intro j hj hi
              match j, hj with
              | 0, _ => simpa [kidsE] using he
            · intro j hj
              match j, hj with
              | 0, _ => simp [bindT, bindE, hf, hl, kLet, kFun]
        · cases e2
      · cases e2
    · rename_i hf
      cases hk : kidsEx ps with
      | none => simp [hk] at e2
      | some es =>
        simp only [hk, Option.bind_some] at e2
        obtain ⟨q1, q2, q3⟩ := mkHead_kids e2
        have hlen := kidsEx_length ps es hk
        have ha : (kidsAt (atomOf h)).1 = 1 := by
          rcases kidsAt_cases (atomOf h) with ⟨c, k⟩ | ⟨c, k⟩ | ⟨_, _, ⟨_, _, _, k⟩ | ⟨_, _, _, k⟩ | ⟨_, _, _, k⟩ | ⟨_, _, _, k⟩⟩
          · exact absurd c hl
          · exact absurd c hf
          all_goals first | (rw [k]; done) | (rw [k] at k0; exact absurd rfl k0)
        refine ⟨1, ⟨Prod.ext ha klen.symm, Nat.le_refl _, by omega, by rw [q1]; omega, ?_, ?_, ?_, q3⟩⟩
        · intro j hj hi
          have hj2 : j < es.length := by rw [q1] at hj; exact hj
          have := kidsEx_get ps es hk j (by omega) hj2
          simp only [q1]
          rw [← this]
          congr 1
          rw [List.getElem_cons]
          rw [dif_neg (by omega)]
          congr 1
          omega
        · intro j hj
          rw [q2]
          simp [bindT, hl, hf]
        · exact ⟨fun hh => absurd hh hl, fun hh => absurd hh hf⟩
theorem sizes_get {ts : List Tr} {i : Nat} (h : i < ts.length) : ts[i].size ≤ sizes ts := by
  induction ts generalizing i with
  | nil => simp at h
  | cons t ts ih =>
    simp only [sizes]
    cases i with
    | zero => simp
    | succ i => have := ih (i := i) (by simpa using h); simp only [List.getElem_cons_succ]; omega
end Go.Proofs.YtfknoigbkleanaaGreatDoor
