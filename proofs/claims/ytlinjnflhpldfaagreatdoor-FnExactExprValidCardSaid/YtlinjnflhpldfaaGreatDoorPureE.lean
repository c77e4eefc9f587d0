/- Expressions: names, and the tree of an expression. -/
import Derived.Test.YtlinjnflhpldfaaGreatDoorPure3
import Derived.Test.YtlinjnflhpldfaaGreatDoorMem
import Derived.Test.YtlinjnflhpldfaaGreatDoorPureN
namespace Go.Proofs.YtlinjnflhpldfaaGreatDoor
open Go.RowKit
set_option maxRecDepth 8000
set_option linter.unusedSimpArgs false
set_option linter.unusedVariables false
/-- A name: a small letter, then digits alone, at most four bytes. -/
def isNm : List UInt8 → Bool
  | [] => false
  | b :: r => decide (r.length ≤ 3) && (decide (97 ≤ b.toNat) && decide (b.toNat ≤ 122)) && (Lib.decFrom 0 r).isSome
inductive Op2 where | add | sub | mul | call | pair
deriving DecidableEq
inductive Op1 where | fst | snd
deriving DecidableEq
inductive Ex where
  | name (s : List UInt8)
  | num (n : Int)
  | two (o : Op2) (a b : Ex)
  | one (o : Op1) (a : Ex)
  | cond (a b c : Ex)
  | lete (x : List UInt8) (e b : Ex)
  | func (f x : List UInt8) (A B : Tr) (e : Ex)
def kLet : List UInt8 := [108, 101, 116]
def kFun : List UInt8 := [102, 117, 110]
def kIf : List UInt8 := [105, 102]
def op2Of (h : List UInt8) : Option Op2 :=
  if h = [43] then some .add else if h = [45] then some .sub else if h = [42] then some .mul else if h = [99, 97, 108, 108] then some .call else if h = [112, 97, 105, 114] then some .pair else none
def op1Of (h : List UInt8) : Option Op1 := if h = [102, 115, 116] then some .fst else if h = [115, 110, 100] then some .snd else none
/-- The expression with a head that binds no names, and its kids. -/
def mkHead (h : List UInt8) : List Ex → Option Ex
  | [a] => (op1Of h).map (fun o => .one o a)
  | [a, b] => (op2Of h).map (fun o => .two o a b)
  | [a, b, c] => if h = kIf then some (.cond a b c) else none
  | _ => none
def atomEx (a : List UInt8) : Option Ex :=
  match numOf a with
  | some n => some (.num n)
  | none => if isNm a = true then some (.name a) else none
def isTyL (t : Tr) : Bool := isTy t && decide (t.size ≤ 16)
mutual
/-- A form as an expression of any size. -/
def asEx : Tr → Option Ex
  | .atom a => atomEx a
  | .list ts => asExs ts
def asExs : List Tr → Option Ex
  | [] => none
  | h :: ps => if atomOf h = kLet then asLetE ps else if atomOf h = kFun then asFunE ps else (kidsEx ps).bind (mkHead (atomOf h))
def asLetE : List Tr → Option Ex
  | [x, e, b] =>
    if isNm (atomOf x) = true then
      match asEx e with
      | none => none
      | some e' => match asEx b with
        | none => none
        | some b' => some (.lete (atomOf x) e' b')
    else none
  | _ => none
def asFunE : List Tr → Option Ex
  | [f, x, A, B, e] =>
    if (isNm (atomOf f) && isNm (atomOf x) && !(atomOf f == atomOf x) && isTyL A && isTyL B) = true then
      match asEx e with
      | none => none
      | some e' => some (.func (atomOf f) (atomOf x) A B e')
    else none
  | _ => none
def kidsEx : List Tr → Option (List Ex)
  | [] => some []
  | t :: ts => match asEx t with
    | none => none
    | some e => match kidsEx ts with
      | none => none
      | some es => some (e :: es)
end
/-- The expression that is a text. -/
def readEx (l : List UInt8) : Option Ex :=
  match parse l with
  | none => none
  | some t => if t.size ≤ 120 then asEx t else none
theorem readEx_none {l : List UInt8} (h : parse l = none) : readEx l = none := by simp [readEx, h]
theorem readEx_some {l : List UInt8} {t : Tr} (h : parse l = some t) : readEx l = if t.size ≤ 120 then asEx t else none := by simp [readEx, h]
/-- How many parts ahead of the first expression, and how many parts, by the head. -/
def kidsAt (h : List UInt8) : Nat × Nat :=
  if h = [43] ∨ h = [45] ∨ h = [42] ∨ h = [99, 97, 108, 108] ∨ h = [112, 97, 105, 114] then (1, 3)
  else if h = kIf then (1, 4)
  else if h = kLet then (2, 4)
  else if h = kFun then (5, 6)
  else if h = [102, 115, 116] ∨ h = [115, 110, 100] then (1, 2)
  else (0, 0)
theorem kidsEx_isSome : ∀ ts : List Tr, (kidsEx ts).isSome = ts.all (fun t => (asEx t).isSome)
  | [] => by simp [kidsEx]
  | t :: ts => by
    have ih := kidsEx_isSome ts
    simp only [kidsEx, List.all_cons]
    cases asEx t with
    | none => simp
    | some e =>
      simp only [Option.isSome_some, Bool.true_and]
      rw [← ih]
      cases kidsEx ts <;> rfl
theorem kidsEx_length : ∀ (ts : List Tr) (es : List Ex), kidsEx ts = some es → es.length = ts.length
  | [], es, h => by simp only [kidsEx, Option.some.injEq] at h; subst h; rfl
  | t :: ts, es, h => by
    simp only [kidsEx] at h
    split at h
    · cases h
    · split at h
      · cases h
      · rename_i es' hs
        simp only [Option.some.injEq] at h
        subst h
        simp [kidsEx_length ts es' hs]
theorem mkHead_isSome (h : List UInt8) (es : List Ex) : (mkHead h es).isSome = ((decide (es.length = 1) && (op1Of h).isSome) || (decide (es.length = 2) && (op2Of h).isSome) || (decide (es.length = 3) && decide (h = kIf))) := by
  match es with
  | [] => simp [mkHead]
  | [a] => simp [mkHead]
  | [a, b] => simp [mkHead]
  | [a, b, c] => by_cases q : h = kIf <;> simp [mkHead, q]
  | _ :: _ :: _ :: _ :: _ => simp [mkHead]
/-- What the head asks of the other parts, but for those that are expressions. -/
def okHead (h : Tr) (ps : List Tr) : Bool :=
  decide ((kidsAt (atomOf h)).1 ≠ 0) && decide (ps.length + 1 = (kidsAt (atomOf h)).2) && (decide ((kidsAt (atomOf h)).1 ≤ 1) || isNm (atomOf (ps.getD 0 default))) &&
    (decide ((kidsAt (atomOf h)).1 ≠ 5) || (isNm (atomOf (ps.getD 1 default)) && !(atomOf (ps.getD 0 default) == atomOf (ps.getD 1 default)) && isTyL (ps.getD 2 default) && isTyL (ps.getD 3 default)))
theorem kidsAt_cases (h : List UInt8) : (h = kLet ∧ kidsAt h = (2, 4)) ∨ (h = kFun ∧ kidsAt h = (5, 6)) ∨ (h ≠ kLet ∧ h ≠ kFun ∧
    (((op2Of h).isSome = true ∧ op1Of h = none ∧ h ≠ kIf ∧ kidsAt h = (1, 3)) ∨ (op2Of h = none ∧ op1Of h = none ∧ h = kIf ∧ kidsAt h = (1, 4)) ∨ (op2Of h = none ∧ (op1Of h).isSome = true ∧ h ≠ kIf ∧ kidsAt h = (1, 2)) ∨ (op2Of h = none ∧ op1Of h = none ∧ h ≠ kIf ∧ kidsAt h = (0, 0)))) := by
  by_cases h1 : h = kLet
  · subst h1; exact .inl ⟨rfl, by decide⟩
  by_cases h2 : h = kFun
  · subst h2; exact .inr (.inl ⟨rfl, by decide⟩)
  refine .inr (.inr ⟨h1, h2, ?_⟩)
  by_cases a1 : h = [43]
  · subst a1; exact .inl (by decide)
  by_cases a2 : h = [45]
  · subst a2; exact .inl (by decide)
  by_cases a3 : h = [42]
  · subst a3; exact .inl (by decide)
  by_cases a4 : h = [99, 97, 108, 108]
  · subst a4; exact .inl (by decide)
  by_cases a5 : h = [112, 97, 105, 114]
  · subst a5; exact .inl (by decide)
  by_cases a6 : h = kIf
  · subst a6; exact .inr (.inl (by decide))
  by_cases a7 : h = [102, 115, 116]
  · subst a7; exact .inr (.inr (.inl (by decide)))
  by_cases a8 : h = [115, 110, 100]
  · subst a8; exact .inr (.inr (.inl (by decide)))
  · refine .inr (.inr (.inr ⟨?_, ?_, a6, ?_⟩))
    · simp [op2Of, a1, a2, a3, a4, a5]
    · simp [op1Of, a7, a8]
    · simp [kidsAt, a1, a2, a3, a4, a5, a6, a7, a8, h1, h2]
theorem asExs_isSome (h : Tr) (ps : List Tr) : (asExs (h :: ps)).isSome = (okHead h ps && ((h :: ps).drop (kidsAt (atomOf h)).1).all (fun t => (asEx t).isSome)) := by
  rcases kidsAt_cases (atomOf h) with ⟨e, k⟩ | ⟨e, k⟩ | ⟨n1, n2, r⟩
  · simp only [asExs, okHead, if_pos e, k]
    match ps with
    | [] => simp [asLetE]
    | [_] => simp [asLetE]
    | [_, _] => simp [asLetE]
    | [x, a, b] =>
      simp only [asLetE]
      cases hx : isNm (atomOf x) with
      | false => simp [hx]
      | true =>
        simp only [if_true]
        cases ha : asEx a <;> cases hb : asEx b <;> simp [hx, ha, hb]
    | _ :: _ :: _ :: _ :: _ => simp [asLetE]
  · have hl : ¬ atomOf h = kLet := by rw [e]; decide
    simp only [asExs, okHead, if_neg hl, if_pos e, k]
    match ps with
    | [] => simp [asFunE]
    | [_] => simp [asFunE]
    | [_, _] => simp [asFunE]
    | [_, _, _] => simp [asFunE]
    | [_, _, _, _] => simp [asFunE]
    | [f, x, A, B, b] =>
      simp only [asFunE]
      cases hb : (isNm (atomOf f) && isNm (atomOf x) && !(atomOf f == atomOf x) && isTyL A && isTyL B) with
      | false =>
        simp only [Bool.false_eq_true, if_false, Option.isSome_none, List.getD_cons_zero, List.getD_cons_succ]
        symm
        cases h1 : isNm (atomOf f) <;> cases h2 : isNm (atomOf x) <;> cases h3 : (atomOf f == atomOf x) <;> cases h4 : isTyL A <;> cases h5 : isTyL B <;> simp_all
      | true =>
        simp only [if_true]
        simp only [Bool.and_eq_true] at hb
        obtain ⟨⟨⟨⟨b1, b2⟩, b3⟩, b4⟩, b5⟩ := hb
        simp only [List.getD_cons_zero, List.getD_cons_succ, b1, b2, b3, b4, b5, List.drop_succ_cons, List.drop_zero, List.all_cons, List.all_nil, List.length_cons, List.length_nil]
        cases hb : asEx b <;> simp
    | _ :: _ :: _ :: _ :: _ :: _ :: _ => simp [asFunE]
  · simp only [asExs, if_neg n1, if_neg n2]
    have hk : ∀ es, kidsEx ps = some es → (mkHead (atomOf h) es).isSome = ((decide (ps.length = 1) && (op1Of (atomOf h)).isSome) || (decide (ps.length = 2) && (op2Of (atomOf h)).isSome) || (decide (ps.length = 3) && decide (atomOf h = kIf))) := fun es he => by rw [mkHead_isSome, kidsEx_length ps es he]
    have hall := kidsEx_isSome ps
    have hbody : ((kidsEx ps).bind (mkHead (atomOf h))).isSome = (((decide (ps.length = 1) && (op1Of (atomOf h)).isSome) || (decide (ps.length = 2) && (op2Of (atomOf h)).isSome) || (decide (ps.length = 3) && decide (atomOf h = kIf))) && ps.all (fun t => (asEx t).isSome)) := by
      cases he : kidsEx ps with
      | none => rw [he] at hall; rw [← hall]; simp
      | some es => rw [he] at hall; rw [← hall, Option.bind_some, hk es he]; simp
    rw [hbody]
    rcases r with ⟨r1, r2, r3, k⟩ | ⟨r1, r2, r3, k⟩ | ⟨r1, r2, r3, k⟩ | ⟨r1, r2, r3, k⟩
    · simp [okHead, k, r1, r2, r3]
    · have r4 : decide (atomOf h = kIf) = true := by simp [r3]
      rw [okHead, k, r1, r2, r4]
      simp
    · simp [okHead, k, r1, r2, r3]
    · simp [okHead, k, r1, r2, r3]
end Go.Proofs.YtlinjnflhpldfaaGreatDoor
