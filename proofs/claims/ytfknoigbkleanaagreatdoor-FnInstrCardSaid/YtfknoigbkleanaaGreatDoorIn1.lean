/- Instructions, plain: what stands behind each head, as the reference and as the program ask for it. -/
import Derived.Test.YtfknoigbkleanaaGreatDoorTg1
import Derived.Test.YtfknoigbkleanaaGreatDoorB3
namespace Go.Proofs.YtfknoigbkleanaaGreatDoor
open Go.RowKit
set_option maxRecDepth 8000
set_option linter.unusedSimpArgs false
set_option linter.unusedVariables false
def kConst : List UInt8 := [99, 111, 110, 115, 116]
def kMov : List UInt8 := [109, 111, 118]
def kOpen : List UInt8 := [111, 112, 101, 110]
def kAdd : List UInt8 := [97, 100, 100]
def kSub : List UInt8 := [115, 117, 98]
def kMul : List UInt8 := [109, 117, 108]
def kNew : List UInt8 := [110, 101, 119]
def kGet : List UInt8 := [103, 101, 116]
def kLab : List UInt8 := [108, 97, 98]
def kPack : List UInt8 := [112, 97, 99, 107]
def kZero : List UInt8 := [122, 101, 114, 111]
def kJump : List UInt8 := [106, 117, 109, 112]
def kHalt : List UInt8 := [104, 97, 108, 116]
/-- A register's number. -/
def regZ (a : List UInt8) : Option Int := (numOf a).filter (fun n => decide (0 ≤ n ∧ n ≤ 39))
def regB (t : Tr) : Bool := (regZ (atomOf t)).isSome
def numB (t : Tr) : Bool := (numOf (atomOf t)).isSome
def idxB (t : Tr) : Bool := (numOf (atomOf t)).any (fun n => decide (0 ≤ n))
def isLo (c : UInt8) : Bool := decide (97 ≤ c.toNat) && decide (c.toNat ≤ 122)
def isDg (c : UInt8) : Bool := decide (48 ≤ c.toNat) && decide (c.toNat ≤ 57)
def labB : List UInt8 → Bool
  | [] => false
  | c :: r => isLo c && r.all (fun d => isLo d || isDg d)
/-- The head of a form. -/
def hdT : Tr → List UInt8
  | .list (h :: _) => atomOf h
  | _ => []
def pkB (t : Tr) : Bool := decide (hdT t = [101]) && tgt noU false t
/-- An operand by the reference's letter. -/
def partB (c : UInt8) (t : Tr) : Bool := if c = 114 ∨ c = 42 then regB t else if c = 110 then numB t else if c = 108 then labB (atomOf t) else if c = 101 then pkB t else tgt noU false t
/-- An operand by the program's letter. -/
def opB (c : UInt8) (t : Tr) : Bool := if c = 100 ∨ c = 115 then regB t else if c = 110 then numB t else if c = 120 then idxB t else if c = 108 then labB (atomOf t) else if c = 69 then pkB t else if c = 87 then tgt noU false t else false
def shapeOf (h : List UInt8) : List UInt8 :=
  if h = kConst then [114, 110] else if h = kMov ∨ h = kOpen then [114, 114] else if h = kAdd ∨ h = kSub ∨ h = kMul then [114, 114, 114] else if h = kNew then [114, 42] else if h = kGet then [114, 114, 110] else if h = kLab ∨ h = kZero then [114, 108] else if h = kPack then [114, 114, 101, 119] else if h = kJump ∨ h = kHalt then [114] else []
def lettersOf (h : List UInt8) (n : Nat) : List UInt8 :=
  if h = kConst then [100, 110] else if h = kMov ∨ h = kOpen then [100, 115] else if h = kAdd ∨ h = kSub ∨ h = kMul then [100, 115, 115] else if h = kNew then 100 :: List.replicate (n - 1) 115 else if h = kGet then [100, 115, 120] else if h = kLab then [100, 108] else if h = kPack then [100, 115, 69, 87] else if h = kZero then [115, 108] else if h = kJump ∨ h = kHalt then [115] else []
def kindAt (sh : List UInt8) (j : Nat) : UInt8 := sh.getD (min (j + 1) sh.length - 1) 0
def okR (sh : List UInt8) (ts : List Tr) (j : Nat) : Bool := partB (kindAt sh j) (ts.getD j (.atom []))
def okI (ls : List UInt8) (ts : List Tr) (j : Nat) : Bool := opB (ls.getD j 0) (ts.getD j (.atom []))
def allB (f : Nat → Bool) (n : Nat) : Bool := (List.range n).all f
theorem allB_bad {f : Nat → Bool} {n j : Nat} (hj : j < n) (h : f j = false) : allB f n = false := by
  unfold allB
  rw [Bool.eq_false_iff]
  intro h2
  rw [List.all_eq_true] at h2
  rw [h2 j (List.mem_range.2 hj)] at h
  cases h
theorem allB_all {f : Nat → Bool} {n : Nat} (h : ∀ j, j < n → f j = true) : allB f n = true := by
  unfold allB
  rw [List.all_eq_true]
  exact fun j hj => h j (List.mem_range.1 hj)
theorem allB_eq {f g : Nat → Bool} {n : Nat} (h : ∀ j, j < n → f j = g j) : allB f n = allB g n := by
  cases hg : allB g n with
  | true =>
    refine allB_all fun j hj => ?_
    rw [h j hj]
    unfold allB at hg
    rw [List.all_eq_true] at hg
    exact hg j (List.mem_range.2 hj)
  | false =>
    rw [Bool.eq_false_iff] at hg ⊢
    intro hf
    apply hg
    refine allB_all fun j hj => ?_
    rw [← h j hj]
    unfold allB at hf
    rw [List.all_eq_true] at hf
    exact hf j (List.mem_range.2 hj)
/-- An instruction's parts, as the program asks. -/
def insT (h : List UInt8) (ts : List Tr) : Bool := !(lettersOf h ts.length).isEmpty && (decide ((lettersOf h ts.length).length = ts.length) && allB (okI (lettersOf h ts.length) ts) ts.length)
/-- An instruction's parts, as the reference asks. -/
def refT (h : List UInt8) (ts : List Tr) : Bool := !(shapeOf h).isEmpty && ((decide (shapeOf h = [114, 42]) || decide (ts.length = (shapeOf h).length)) && (decide (1 ≤ ts.length) && (allB (okR (shapeOf h) ts) ts.length && (!decide (h = kGet) || idxB (ts.getD 2 (.atom []))))))
theorem ins_fix {h : List UInt8} {ts : List Tr} {sh ls : List UInt8} (h1 : shapeOf h = sh) (h2 : lettersOf h ts.length = ls) (h3 : sh.length = ls.length) (h4 : 1 ≤ ls.length) (h5 : sh ≠ [114, 42]) (h6 : h ≠ kGet) (h7 : ∀ j, j < ls.length → okR sh ts j = okI ls ts j) : refT h ts = insT h ts := by
  unfold refT insT
  rw [h1, h2]
  have e1 : sh.isEmpty = false := by cases sh with | nil => simp at h3; omega | cons a b => rfl
  have e2 : ls.isEmpty = false := by cases ls with | nil => simp at h4 | cons a b => rfl
  have e3 : decide (sh = [114, 42]) = false := by simpa using h5
  have e4 : decide (h = kGet) = false := by simpa using h6
  rw [e1, e2, e3, e4]
  by_cases hl : ts.length = sh.length
  · have d1 : decide (ts.length = sh.length) = true := by simpa using hl
    have d2 : decide (ls.length = ts.length) = true := by simp; omega
    have d3 : decide (1 ≤ ts.length) = true := by simp; omega
    rw [d1, d2, d3, allB_eq (f := okR sh ts) (g := okI ls ts) (fun j hj => h7 j (by omega))]
    simp
  · have d1 : decide (ts.length = sh.length) = false := by simpa using hl
    have d2 : decide (ls.length = ts.length) = false := by simp; omega
    rw [d1, d2]
    rfl
theorem okRI {sh ls : List UInt8} {ts : List Tr} {j : Nat} {a b : UInt8} (h1 : kindAt sh j = a) (h2 : ls.getD j 0 = b) (h3 : ∀ t, partB a t = opB b t) : okR sh ts j = okI ls ts j := by unfold okR okI; rw [h1, h2, h3]
theorem pb_d (t : Tr) : partB 114 t = opB 100 t := by simp [partB, opB]
theorem pb_s (t : Tr) : partB 114 t = opB 115 t := by simp [partB, opB]
theorem pb_s2 (t : Tr) : partB 42 t = opB 115 t := by simp [partB, opB]
theorem pb_n (t : Tr) : partB 110 t = opB 110 t := by simp [partB, opB]
theorem pb_l (t : Tr) : partB 108 t = opB 108 t := by simp [partB, opB]
theorem pb_E (t : Tr) : partB 101 t = opB 69 t := by simp [partB, opB]
theorem pb_W (t : Tr) : partB 119 t = opB 87 t := by simp [partB, opB]
theorem pb_x (t : Tr) : (partB 110 t && idxB t) = opB 120 t := by
  simp only [partB, opB]
  simp [numB, idxB]
  cases numOf (atomOf t) <;> simp
theorem refT_eq (h : List UInt8) (ts : List Tr) : refT h ts = insT h ts := by
  by_cases h1 : h = kConst
  · subst h1
    refine ins_fix (sh := [114, 110]) (ls := [100, 110]) rfl rfl rfl (by decide) (by decide) (by decide) (fun j hj => ?_)
    match j, hj with
    | 0, _ => exact okRI rfl rfl pb_d
    | 1, _ => exact okRI rfl rfl pb_n
  by_cases h2 : h = kMov
  · subst h2
    refine ins_fix (sh := [114, 114]) (ls := [100, 115]) rfl rfl rfl (by decide) (by decide) (by decide) (fun j hj => ?_)
    match j, hj with
    | 0, _ => exact okRI rfl rfl pb_d
    | 1, _ => exact okRI rfl rfl pb_s
  by_cases h3 : h = kOpen
  · subst h3
    refine ins_fix (sh := [114, 114]) (ls := [100, 115]) rfl rfl rfl (by decide) (by decide) (by decide) (fun j hj => ?_)
    match j, hj with
    | 0, _ => exact okRI rfl rfl pb_d
    | 1, _ => exact okRI rfl rfl pb_s
  by_cases h4 : h = kAdd
  · subst h4
    refine ins_fix (sh := [114, 114, 114]) (ls := [100, 115, 115]) rfl rfl rfl (by decide) (by decide) (by decide) (fun j hj => ?_)
    match j, hj with
    | 0, _ => exact okRI rfl rfl pb_d
    | 1, _ => exact okRI rfl rfl pb_s
    | 2, _ => exact okRI rfl rfl pb_s
  by_cases h5 : h = kSub
  · subst h5
    refine ins_fix (sh := [114, 114, 114]) (ls := [100, 115, 115]) rfl rfl rfl (by decide) (by decide) (by decide) (fun j hj => ?_)
    match j, hj with
    | 0, _ => exact okRI rfl rfl pb_d
    | 1, _ => exact okRI rfl rfl pb_s
    | 2, _ => exact okRI rfl rfl pb_s
  by_cases h6 : h = kMul
  · subst h6
    refine ins_fix (sh := [114, 114, 114]) (ls := [100, 115, 115]) rfl rfl rfl (by decide) (by decide) (by decide) (fun j hj => ?_)
    match j, hj with
    | 0, _ => exact okRI rfl rfl pb_d
    | 1, _ => exact okRI rfl rfl pb_s
    | 2, _ => exact okRI rfl rfl pb_s
  by_cases h7 : h = kNew
  · subst h7
    have e1 : shapeOf kNew = [114, 42] := rfl
    have e2 : lettersOf kNew ts.length = 100 :: List.replicate (ts.length - 1) 115 := rfl
    unfold refT insT
    rw [e1, e2]
    by_cases hl : 1 ≤ ts.length
    · have d2 : decide ((100 :: List.replicate (ts.length - 1) (115 : UInt8)).length = ts.length) = true := by simp; omega
      have d3 : decide (1 ≤ ts.length) = true := by simpa using hl
      rw [d2, d3, allB_eq (f := okR [114, 42] ts) (g := okI (100 :: List.replicate (ts.length - 1) 115) ts) (fun j hj => by
        cases j with
        | zero => exact okRI rfl rfl pb_d
        | succ j =>
          refine okRI (a := 42) (b := 115) ?_ ?_ pb_s2
          · unfold kindAt
            rw [show min (j + 1 + 1) ([114, 42] : List UInt8).length - 1 = 1 by simp]
            rfl
          · rw [List.getD_eq_getElem?_getD, List.getElem?_cons_succ, List.getElem?_replicate, if_pos (by omega)]; rfl)]
      have d4 : decide (kNew = kGet) = false := by decide
      rw [d4]
      simp
    · have d2 : decide ((100 :: List.replicate (ts.length - 1) (115 : UInt8)).length = ts.length) = false := by simp; omega
      have d3 : decide (1 ≤ ts.length) = false := by simpa using hl
      rw [d2, d3]
      simp
  by_cases h8 : h = kGet
  · subst h8
    have e1 : shapeOf kGet = [114, 114, 110] := rfl
    have e2 : lettersOf kGet ts.length = [100, 115, 120] := rfl
    unfold refT insT
    rw [e1, e2]
    by_cases hl : ts.length = 3
    · have o0 : okR [114, 114, 110] ts 0 = okI [100, 115, 120] ts 0 := okRI rfl rfl pb_d
      have o1 : okR [114, 114, 110] ts 1 = okI [100, 115, 120] ts 1 := okRI rfl rfl pb_s
      have o2 : (okR [114, 114, 110] ts 2 && idxB (ts.getD 2 (.atom []))) = okI [100, 115, 120] ts 2 := pb_x _
      rw [hl]
      have a1 : ∀ f : Nat → Bool, allB f 3 = (f 0 && (f 1 && f 2)) := fun f => by simp [allB, show List.range 3 = [0, 1, 2] from rfl]
      rw [a1, a1, ← o2, ← o1, ← o0]
      cases okR [114, 114, 110] ts 0 <;> cases okR [114, 114, 110] ts 1 <;> cases okR [114, 114, 110] ts 2 <;> cases idxB (ts.getD 2 (.atom [])) <;> decide
    · have d1 : decide (ts.length = ([114, 114, 110] : List UInt8).length) = false := by simpa using hl
      have d2 : decide (([100, 115, 120] : List UInt8).length = ts.length) = false := by simp; omega
      rw [d1, d2]
      rfl
  by_cases h9 : h = kLab
  · subst h9
    refine ins_fix (sh := [114, 108]) (ls := [100, 108]) rfl rfl rfl (by decide) (by decide) (by decide) (fun j hj => ?_)
    match j, hj with
    | 0, _ => exact okRI rfl rfl pb_d
    | 1, _ => exact okRI rfl rfl pb_l
  by_cases h10 : h = kPack
  · subst h10
    refine ins_fix (sh := [114, 114, 101, 119]) (ls := [100, 115, 69, 87]) rfl rfl rfl (by decide) (by decide) (by decide) (fun j hj => ?_)
    match j, hj with
    | 0, _ => exact okRI rfl rfl pb_d
    | 1, _ => exact okRI rfl rfl pb_s
    | 2, _ => exact okRI rfl rfl pb_E
    | 3, _ => exact okRI rfl rfl pb_W
  by_cases h11 : h = kZero
  · subst h11
    refine ins_fix (sh := [114, 108]) (ls := [115, 108]) rfl rfl rfl (by decide) (by decide) (by decide) (fun j hj => ?_)
    match j, hj with
    | 0, _ => exact okRI rfl rfl pb_s
    | 1, _ => exact okRI rfl rfl pb_l
  by_cases h12 : h = kJump
  · subst h12
    refine ins_fix (sh := [114]) (ls := [115]) rfl rfl rfl (by decide) (by decide) (by decide) (fun j hj => ?_)
    match j, hj with
    | 0, _ => exact okRI rfl rfl pb_s
  by_cases h13 : h = kHalt
  · subst h13
    refine ins_fix (sh := [114]) (ls := [115]) rfl rfl rfl (by decide) (by decide) (by decide) (fun j hj => ?_)
    match j, hj with
    | 0, _ => exact okRI rfl rfl pb_s
  · have e1 : shapeOf h = [] := by simp [shapeOf, h1, h2, h3, h4, h5, h6, h7, h8, h9, h10, h11, h12, h13]
    have e2 : lettersOf h ts.length = [] := by simp [lettersOf, h1, h2, h3, h4, h5, h6, h7, h8, h9, h10, h11, h12, h13]
    unfold refT insT
    rw [e1, e2]
    rfl
/-- An instruction, as a form and as a text. -/
def insF : Tr → Bool
  | .list (h :: ts) => insT (atomOf h) ts
  | _ => false
def insOf (l : List UInt8) : Bool := match parse l with | none => false | some t => insF t
def lastH (h : List UInt8) : Bool := decide (h = kJump) || decide (h = kHalt)
def lastOf (l : List UInt8) : Bool := match parse l with | none => false | some t => insF t && lastH (hdT t)
end Go.Proofs.YtfknoigbkleanaaGreatDoor
