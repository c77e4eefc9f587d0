/- The form that an expression is written as; numerals are written as they are read. Both types of a type with a head. The plain mathematics of chapter 3: environments, types of expressions, the first fault. The type of a text, the plain mathematics. Expressions that are written as what is read as them. -/
import Derived.Test.YtfknoigbkleanaaGreatDoorB3
import Derived.Lib.ItoaNum
import Derived.Test.YtfknoigbkleanaaGreatDoorB1
namespace Go.Proofs.YtfknoigbkleanaaGreatDoor
open Go.RowKit
set_option maxRecDepth 8000
set_option linter.unusedSimpArgs false
set_option linter.unusedVariables false
def formOf : Ex → Tr
  | .name s => .atom s
  | .num n => .atom (Lib.itoa n)
  | .two o a b => .list [.atom (op2N o), formOf a, formOf b]
  | .one o a => .list [.atom (op1N o), formOf a]
  | .cond a b c => .list [.atom kIf, formOf a, formOf b, formOf c]
  | .lete x e b => .list [.atom kLet, .atom x, formOf e, formOf b]
  | .func f x A B e => .list [.atom kFun, .atom f, .atom x, A, B, formOf e]
theorem dd1 (u : Nat) (h : u < 10) : Lib.decDigits u = [UInt8.ofNat (48 + u)] := by rw [Lib.decDigits, dif_pos h]
theorem dd2 (d1 d2 : Nat) (h1 : 1 ≤ d1) (h1' : d1 < 10) (h2 : d2 < 10) : Lib.decDigits (d1 * 10 + d2) = [UInt8.ofNat (48 + d1), UInt8.ofNat (48 + d2)] := by
  rw [Lib.decDigits, dif_neg (by omega), show (d1 * 10 + d2) / 10 = d1 by omega, show (d1 * 10 + d2) % 10 = d2 by omega, dd1 d1 h1']; rfl
theorem dd3 (d1 d2 d3 : Nat) (h1 : 1 ≤ d1) (h1' : d1 < 10) (h2 : d2 < 10) (h3 : d3 < 10) : Lib.decDigits ((d1 * 10 + d2) * 10 + d3) = [UInt8.ofNat (48 + d1), UInt8.ofNat (48 + d2), UInt8.ofNat (48 + d3)] := by
  rw [Lib.decDigits, dif_neg (by omega), show ((d1 * 10 + d2) * 10 + d3) / 10 = d1 * 10 + d2 by omega, show ((d1 * 10 + d2) * 10 + d3) % 10 = d3 by omega, dd2 d1 d2 h1 h1' h2]; rfl
theorem digit_back {b : UInt8} {d : Nat} (h : Lib.digitVal b = some d) : d < 10 ∧ UInt8.ofNat (48 + d) = b := by
  unfold Lib.digitVal at h
  split at h
  · rename_i hb
    simp only [Option.some.injEq] at h
    refine ⟨by omega, ?_⟩
    rw [← h, show 48 + (b.toNat - 48) = b.toNat by omega]
    exact UInt8.ofNat_toNat
  · cases h
theorem dec_back {l : List UInt8} {m : Nat} (h1 : 1 ≤ l.length) (h3 : l.length ≤ 3) (h0 : l.head? ≠ some 48) (h : Lib.decFrom 0 l = some m) : Lib.decDigits m = l ∧ 1 ≤ m := by
  match l, h1, h3 with
  | [a], _, _ =>
    simp only [Lib.decFrom] at h
    cases ha : Lib.digitVal a with
    | none => simp [ha] at h
    | some d =>
      simp only [ha, Option.some.injEq] at h
      obtain ⟨e1, e2⟩ := digit_back ha
      have hd : d ≠ 0 := fun e => by subst e; apply h0; rw [← e2]; rfl
      subst h
      rw [show 0 * 10 + d = d by omega, dd1 d e1, e2]
      exact ⟨rfl, by omega⟩
  | [a, b], _, _ =>
    simp only [Lib.decFrom] at h
    cases ha : Lib.digitVal a with
    | none => simp [ha] at h
    | some d =>
      cases hb : Lib.digitVal b with
      | none => simp [ha, hb] at h
      | some f =>
        simp only [ha, hb, Option.some.injEq] at h
        obtain ⟨e1, e2⟩ := digit_back ha
        obtain ⟨f1, f2⟩ := digit_back hb
        have hd : d ≠ 0 := fun e => by subst e; apply h0; rw [← e2]; rfl
        subst h
        rw [show (0 * 10 + d) * 10 + f = d * 10 + f by omega, dd2 d f (by omega) e1 f1, e2, f2]
        exact ⟨rfl, by omega⟩
  | [a, b, c], _, _ =>
    simp only [Lib.decFrom] at h
    cases ha : Lib.digitVal a with
    | none => simp [ha] at h
    | some d =>
      cases hb : Lib.digitVal b with
      | none => simp [ha, hb] at h
      | some f =>
        cases hc : Lib.digitVal c with
        | none => simp [ha, hb, hc] at h
        | some g =>
          simp only [ha, hb, hc, Option.some.injEq] at h
          obtain ⟨e1, e2⟩ := digit_back ha
          obtain ⟨f1, f2⟩ := digit_back hb
          obtain ⟨g1, g2⟩ := digit_back hc
          have hd : d ≠ 0 := fun e => by subst e; apply h0; rw [← e2]; rfl
          subst h
          rw [show ((0 * 10 + d) * 10 + f) * 10 + g = (d * 10 + f) * 10 + g by omega, dd3 d f g (by omega) e1 f1 g1, e2, f2, g2]
          exact ⟨rfl, by omega⟩
theorem numOf_itoa {a : List UInt8} {n : Int} (h : numOf a = some n) : Lib.itoa n = a := by
  unfold numOf at h
  split at h
  · rename_i ha
    simp only [Option.some.injEq] at h
    subst h; subst ha
    rw [Lib.itoa, if_neg (by omega)]
    exact dd1 0 (by omega)
  · split at h
    · rename_i hd
      simp only [Option.map_eq_some_iff] at h
      obtain ⟨m, hm, rfl⟩ := h
      obtain ⟨e1, e2⟩ := dec_back hd.1 hd.2.1 hd.2.2 hm
      cases a with
      | nil => simp [digitsOf] at hd
      | cons b r =>
        simp only [digitsOf, signOf] at e1 ⊢
        by_cases hb : b = 45
        · subst hb
          simp only [if_true] at e1 ⊢
          rw [Lib.itoa, if_pos (by omega), show (-1 * (m : Int)).natAbs = m by omega, e1]
        · rw [if_neg hb] at e1 ⊢
          rw [Lib.itoa, if_neg (by omega), show (1 * (m : Int)).toNat = m by omega, e1]
    · cases h
theorem numOf_range {a : List UInt8} {n : Int} (h : numOf a = some n) : -1000 < n ∧ n < 1000 := by
  unfold numOf at h
  split at h
  · simp only [Option.some.injEq] at h; omega
  · split at h
    · rename_i hd
      simp only [Option.map_eq_some_iff] at h
      obtain ⟨m, hm, rfl⟩ := h
      have hb := decFrom_bound _ _ _ hm
      have hl : 10 ^ (digitsOf a).length ≤ 10 ^ 3 := Nat.pow_le_pow_right (by omega) hd.2.1
      have : m < 1000 := by omega
      unfold signOf
      split
      · omega
      · split <;> omega
    · cases h
theorem atom_of {t : Tr} (h : atomOf t ≠ []) : t = .atom (atomOf t) := by
  cases t with
  | atom a => rfl
  | list ts => exact absurd rfl h
theorem nm_ne {a : List UInt8} (h : isNm a = true) : a ≠ [] := fun e => by subst e; cases h
theorem op2N_ne (o : Op2) : op2N o ≠ [] := by cases o <;> simp [op2N]
theorem op1N_ne (o : Op1) : op1N o ≠ [] := by cases o <;> simp [op1N]
mutual
theorem formOf_eq : ∀ (t : Tr) (x : Ex), asEx t = some x → formOf x = t
  | .atom a, x, h => by
    simp only [asEx, atomEx] at h
    cases hn : numOf a with
    | some n =>
      simp only [hn, Option.some.injEq] at h
      subst h
      simp only [formOf, numOf_itoa hn]
    | none =>
      simp only [hn] at h
      split at h
      · simp only [Option.some.injEq] at h; subst h; rfl
      · cases h
  | .list [], x, h => by simp [asEx, asExs] at h
  | .list (h0 :: ps), x, h => by
    simp only [asEx, asExs] at h
    split at h
    · rename_i hl
      have hh := atom_of (t := h0) (by rw [hl]; simp [kLet])
      rw [hl] at hh
      subst hh
      match ps, h with
      | [x0, e0, b0], h =>
        simp only [asLetE] at h
        split at h
        · rename_i hx
          split at h
          · cases h
          · rename_i e' he
            split at h
            · cases h
            · rename_i b' hb
              simp only [Option.some.injEq] at h
              subst h
              simp only [formOf, formOf_eq e0 e' he, formOf_eq b0 b' hb]
              rw [← atom_of (nm_ne hx)]
        · cases h
      | [], h => cases h
      | [_], h => cases h
      | [_, _], h => cases h
      | _ :: _ :: _ :: _ :: _, h => cases h
    · split at h
      · rename_i hl
        have hh := atom_of (t := h0) (by rw [hl]; simp [kFun])
        rw [hl] at hh
        subst hh
        match ps, h with
        | [f0, x0, A0, B0, e0], h =>
          simp only [asFunE] at h
          split at h
          · rename_i hx
            simp only [Bool.and_eq_true] at hx
            split at h
            · cases h
            · rename_i e' he
              simp only [Option.some.injEq] at h
              subst h
              simp only [formOf, formOf_eq e0 e' he]
              rw [← atom_of (nm_ne hx.1.1.1.1), ← atom_of (nm_ne hx.1.1.1.2)]
          · cases h
        | [], h => cases h
        | [_], h => cases h
        | [_, _], h => cases h
        | [_, _, _], h => cases h
        | [_, _, _, _], h => cases h
        | _ :: _ :: _ :: _ :: _ :: _ :: _, h => cases h
      · cases hk : kidsEx ps with
        | none => simp [hk] at h
        | some es =>
          simp only [hk, Option.bind_some] at h
          have hp := formsOf_eq ps es hk
          match es, h, hp with
          | [], h, hp => cases h
          | [a], h, hp =>
            simp only [mkHead, Option.map_eq_some_iff] at h
            obtain ⟨o, ho, rfl⟩ := h
            have hn := op1Of_name ho
            have hh := atom_of (t := h0) (by rw [← hn]; exact op1N_ne o)
            rw [hh, ← hp, ← hn]; rfl
          | [a, b], h, hp =>
            simp only [mkHead, Option.map_eq_some_iff] at h
            obtain ⟨o, ho, rfl⟩ := h
            have hn := op2Of_name ho
            have hh := atom_of (t := h0) (by rw [← hn]; exact op2N_ne o)
            rw [hh, ← hp, ← hn]; rfl
          | [a, b, c], h, hp =>
            simp only [mkHead] at h
            split at h
            · rename_i hi
              simp only [Option.some.injEq] at h
              subst h
              have hh := atom_of (t := h0) (by rw [hi]; simp [kIf])
              rw [hh, ← hp, hi]; rfl
            · cases h
          | _ :: _ :: _ :: _ :: _, h, hp => cases h
theorem formsOf_eq : ∀ (ts : List Tr) (es : List Ex), kidsEx ts = some es → es.map formOf = ts
  | [], es, h => by simp only [kidsEx, Option.some.injEq] at h; subst h; rfl
  | t :: ts, es, h => by
    simp only [kidsEx] at h
    split at h
    · cases h
    · rename_i e he
      split at h
      · cases h
      · rename_i es' hs
        simp only [Option.some.injEq] at h
        subst h
        simp only [List.map_cons, formOf_eq t e he, formsOf_eq ts es' hs]
end
end Go.Proofs.YtfknoigbkleanaaGreatDoor
namespace Go.Proofs.YtfknoigbkleanaaGreatDoor
open Go.RowKit
set_option maxRecDepth 8000
def sidesTr (c : UInt8) : Tr → Option (Tr × Tr)
  | .list [x, a, b] => if atomOf x = [c] then some (a, b) else none
  | _ => none
theorem sidesTr_atom (c : UInt8) (a : List UInt8) : sidesTr c (.atom a) = none := rfl
theorem sidesTr_yes {c : UInt8} {x a b : Tr} (h : atomOf x = [c]) : sidesTr c (.list [x, a, b]) = some (a, b) := by simp [sidesTr, h]
theorem sidesTr_no {c : UInt8} {x a b : Tr} (h : ¬ atomOf x = [c]) : sidesTr c (.list [x, a, b]) = none := by simp [sidesTr, h]
end Go.Proofs.YtfknoigbkleanaaGreatDoor
namespace Go.Proofs.YtfknoigbkleanaaGreatDoor
open Go.RowKit
set_option maxRecDepth 8000
set_option linter.unusedSimpArgs false
set_option linter.unusedVariables false
abbrev Env := List (Nm × Tr)
/-- The type of a name; the innermost comes first. -/
def lookE : List (Nm × Tr) → Nm → Option Tr
  | [], _ => none
  | (n, t) :: env, s => if n = s then some t else lookE env s
def tI : Tr := .atom [105]
def isNumT : Tr → Bool
  | .atom _ => true
  | .list _ => false
def mkT (c : UInt8) (a b : Tr) : Option Tr := if 1 + a.size + b.size ≤ 16 then some (.list [.atom [c], a, b]) else none
def join2 (o : Op2) (a b : Tr) : Option Tr :=
  match o with
  | .call => match sidesTr 62 a with | some (x, y) => if x.text = b.text then some y else none | none => none
  | .pair => mkT 42 a b
  | _ => if isNumT a = true ∧ isNumT b = true then some tI else none
def join1 (o : Op1) (a : Tr) : Option Tr :=
  match o with
  | .fst => (sidesTr 42 a).map (fun p => p.1)
  | .snd => (sidesTr 42 a).map (fun p => p.2)
def orBad (x : Ex) : Option Tr → Except Ex Tr
  | some t => .ok t
  | none => .error x
/-- The type of an expression, or the first fault. -/
def tyR (env : List (Nm × Tr)) : Ex → Except Ex Tr
  | .name s => orBad (.name s) (lookE env s)
  | .num n => .ok tI
  | .two o a b => match tyR env a with | .error f => .error f | .ok ta => match tyR env b with | .error f => .error f | .ok tb => orBad (.two o a b) (join2 o ta tb)
  | .one o a => match tyR env a with | .error f => .error f | .ok ta => orBad (.one o a) (join1 o ta)
  | .cond a b c => match tyR env a with | .error f => .error f | .ok ta => match tyR env b with | .error f => .error f | .ok tb => match tyR env c with | .error f => .error f | .ok tc => orBad (.cond a b c) (if isNumT ta = true ∧ tb.text = tc.text then some tb else none)
  | .lete x e b => match tyR env e with | .error f => .error f | .ok t => tyR ((x, t) :: env) b
  | .func f x A B e => match mkT 62 A B with | none => .error (.func f x A B e) | some T => match tyR ((x, A) :: (f, T) :: env) e with | .error g => .error g | .ok t => orBad (.func f x A B e) (if t.text = B.text then some T else none)
/-- The types that stand in an expression are types. -/
def tyEx : Ex → Prop
  | .name _ => True
  | .num _ => True
  | .two _ a b => tyEx a ∧ tyEx b
  | .one _ a => tyEx a
  | .cond a b c => tyEx a ∧ tyEx b ∧ tyEx c
  | .lete _ e b => tyEx e ∧ tyEx b
  | .func _ _ A B e => isTyL A = true ∧ isTyL B = true ∧ tyEx e
def envOK (env : List (Nm × Tr)) : Prop := ∀ p ∈ env, isTyL p.2 = true
theorem envOK.cons {env : List (Nm × Tr)} {s : Nm} {t : Tr} (h : envOK env) (ht : isTyL t = true) : envOK ((s, t) :: env) := fun p hp => by
  rcases List.mem_cons.1 hp with rfl | hp
  · exact ht
  · exact h p hp
theorem envOK_nil : envOK [] := fun p hp => by cases hp
theorem lookE_ok {env : List (Nm × Tr)} (h : envOK env) {s : Nm} {t : Tr} (hl : lookE env s = some t) : isTyL t = true := by
  induction env with
  | nil => cases hl
  | cons p env ih =>
    obtain ⟨n, u⟩ := p
    simp only [lookE] at hl
    split at hl
    · simp only [Option.some.injEq] at hl; subst hl; exact h (n, u) (by simp)
    · exact ih (fun q hq => h q (by simp [hq])) hl
theorem isTyL_got {t : Tr} (h : isTyL t = true) : isTy t = true ∧ t.size ≤ 16 := by simpa [isTyL] using h
theorem isTyL_small {t : Tr} (h : isTyL t = true) : t.wf ∧ t.bytes ≤ 80 ∧ t.depth ≤ 16 ∧ t.size ≤ 16 ∧ isTy t = true := by
  obtain ⟨h1, h2⟩ := isTyL_got h
  obtain ⟨a, b, c⟩ := isTy_small _ _ (Nat.le_refl _) h1
  exact ⟨c, by omega, by omega, h2, h1⟩
theorem tI_ok : isTyL tI = true := by decide
theorem mkT_ok {c : UInt8} (hc : c = 62 ∨ c = 42) {a b t : Tr} (ha : isTyL a = true) (hb : isTyL b = true) (h : mkT c a b = some t) : isTyL t = true := by
  unfold mkT at h
  split at h
  · rename_i hs
    simp only [Option.some.injEq] at h
    subst h
    have hsz : (Tr.list [.atom [c], a, b]).size = 1 + (a.size + (b.size + 0)) := by simp only [Tr.size, sizes]
    have hty := made_ty hc (isTyL_got ha).1 (isTyL_got hb).1
    unfold isTyL
    rw [hty, hsz, Bool.true_and, decide_eq_true_eq]
    omega
  · cases h
theorem sidesTr_got {c : UInt8} {t a b : Tr} (h : sidesTr c t = some (a, b)) : ∃ x, t = .list [x, a, b] ∧ atomOf x = [c] := by
  unfold sidesTr at h
  split at h
  · split at h
    · rename_i hx
      simp only [Option.some.injEq, Prod.mk.injEq] at h
      obtain ⟨rfl, rfl⟩ := h
      exact ⟨_, rfl, hx⟩
    · cases h
  · cases h
theorem sidesTr_ok {c : UInt8} {t a b : Tr} (ht : isTyL t = true) (h : sidesTr c t = some (a, b)) : isTyL a = true ∧ isTyL b = true := by
  obtain ⟨x, rfl, hx⟩ := sidesTr_got h
  obtain ⟨h1, h2⟩ := isTyL_got ht
  rw [isTy_three] at h1
  simp only [Bool.and_eq_true] at h1
  simp only [Tr.size, sizes] at h2
  simp only [isTyL, Bool.and_eq_true, decide_eq_true_eq]
  exact ⟨⟨h1.1.2, by omega⟩, h1.2, by omega⟩
theorem join2_ok {o : Op2} {a b t : Tr} (ha : isTyL a = true) (hb : isTyL b = true) (h : join2 o a b = some t) : isTyL t = true := by
  cases o <;> simp only [join2] at h
  · split at h
    · simp only [Option.some.injEq] at h; subst h; exact tI_ok
    · cases h
  · split at h
    · simp only [Option.some.injEq] at h; subst h; exact tI_ok
    · cases h
  · split at h
    · simp only [Option.some.injEq] at h; subst h; exact tI_ok
    · cases h
  · split at h
    · rename_i x y hs
      split at h
      · simp only [Option.some.injEq] at h; subst h; exact (sidesTr_ok ha hs).2
      · cases h
    · cases h
  · exact mkT_ok (.inr rfl) ha hb h
theorem join1_ok {o : Op1} {a t : Tr} (ha : isTyL a = true) (h : join1 o a = some t) : isTyL t = true := by
  cases o <;> simp only [join1, Option.map_eq_some_iff] at h
  · obtain ⟨⟨x, y⟩, hs, rfl⟩ := h; exact (sidesTr_ok ha hs).1
  · obtain ⟨⟨x, y⟩, hs, rfl⟩ := h; exact (sidesTr_ok ha hs).2
theorem orBad_ok {x : Ex} {o : Option Tr} {t : Tr} : orBad x o = .ok t ↔ o = some t := by cases o <;> simp [orBad]
theorem tyR_ok : ∀ (x : Ex) (env : List (Nm × Tr)) (t : Tr), envOK env → tyEx x → tyR env x = .ok t → isTyL t = true
  | .name s, env, t, he, hx, h => by simp only [tyR, orBad_ok] at h; exact lookE_ok he h
  | .num n, env, t, he, hx, h => by simp only [tyR, Except.ok.injEq] at h; subst h; exact tI_ok
  | .two o a b, env, t, he, hx, h => by
    simp only [tyR] at h
    split at h
    · cases h
    · rename_i ta h1
      split at h
      · cases h
      · rename_i tb h2
        rw [orBad_ok] at h
        exact join2_ok (tyR_ok a env ta he hx.1 h1) (tyR_ok b env tb he hx.2 h2) h
  | .one o a, env, t, he, hx, h => by
    simp only [tyR] at h
    split at h
    · cases h
    · rename_i ta h1
      rw [orBad_ok] at h
      exact join1_ok (tyR_ok a env ta he hx h1) h
  | .cond a b c, env, t, he, hx, h => by
    simp only [tyR] at h
    split at h
    · cases h
    · split at h
      · cases h
      · rename_i tb h2
        split at h
        · cases h
        · rw [orBad_ok] at h
          split at h
          · simp only [Option.some.injEq] at h; subst h; exact tyR_ok b env _ he hx.2.1 h2
          · cases h
  | .lete x e b, env, t, he, hx, h => by
    simp only [tyR] at h
    split at h
    · cases h
    · rename_i te h1
      exact tyR_ok b _ t (he.cons (tyR_ok e env te he hx.1 h1)) hx.2 h
  | .func f x A B e, env, t, he, hx, h => by
    simp only [tyR] at h
    split at h
    · cases h
    · rename_i T h1
      split at h
      · cases h
      · rw [orBad_ok] at h
        split at h
        · simp only [Option.some.injEq] at h; subst h; exact mkT_ok (.inl rfl) hx.1 hx.2.1 h1
        · cases h
/-- What has a type has its free names in the environment. -/
theorem lookE_cons {env : List (Nm × Tr)} {n s : Nm} {t : Tr} (h : s ≠ n) : lookE ((n, t) :: env) s = lookE env s := by simp only [lookE]; rw [if_neg (fun e => h e.symm)]
theorem mem_rm {bl l : List Nm} {s : Nm} (h : s ∈ rm bl l) : s ∈ l ∧ s ∉ bl := by simpa [rm] using h
theorem tyR_free : ∀ (x : Ex) (env : List (Nm × Tr)) (t : Tr), tyR env x = .ok t → ∀ s ∈ freeP x, lookE env s ≠ none
  | .name s, env, t, h, n, hn => by
    simp only [tyR, orBad_ok] at h
    simp only [freeP, List.mem_singleton] at hn
    subst hn; rw [h]; simp
  | .num n, env, t, h, s, hs => by simp [freeP] at hs
  | .two o a b, env, t, h, s, hs => by
    simp only [tyR] at h
    split at h
    · cases h
    · rename_i ta h1
      split at h
      · cases h
      · rename_i tb h2
        simp only [freeP, List.mem_append] at hs
        rcases hs with hs | hs
        · exact tyR_free a env ta h1 s hs
        · exact tyR_free b env tb h2 s hs
  | .one o a, env, t, h, s, hs => by
    simp only [tyR] at h
    split at h
    · cases h
    · rename_i ta h1
      exact tyR_free a env ta h1 s hs
  | .cond a b c, env, t, h, s, hs => by
    simp only [tyR] at h
    split at h
    · cases h
    · rename_i ta h1
      split at h
      · cases h
      · rename_i tb h2
        split at h
        · cases h
        · rename_i tc h3
          simp only [freeP, List.mem_append] at hs
          rcases hs with (hs | hs) | hs
          · exact tyR_free a env ta h1 s hs
          · exact tyR_free b env tb h2 s hs
          · exact tyR_free c env tc h3 s hs
  | .lete x e b, env, t, h, s, hs => by
    simp only [tyR] at h
    split at h
    · cases h
    · rename_i te h1
      simp only [freeP, List.mem_append] at hs
      rcases hs with hs | hs
      · exact tyR_free e env te h1 s hs
      · obtain ⟨q1, q2⟩ := mem_rm hs
        have := tyR_free b _ t h s q1
        rwa [lookE_cons (by simpa using q2)] at this
  | .func f x A B e, env, t, h, s, hs => by
    simp only [tyR] at h
    split at h
    · cases h
    · rename_i T h1
      split at h
      · cases h
      · rename_i te h2
        obtain ⟨q1, q2⟩ := mem_rm hs
        simp only [List.mem_cons, List.not_mem_nil, or_false, not_or] at q2
        have := tyR_free e _ te h2 s q1
        rwa [lookE_cons q2.2, lookE_cons q2.1] at this
theorem tyR_closed {x : Ex} {t : Tr} (h : tyR [] x = .ok t) : freeP x = [] := by
  cases hf : freeP x with
  | nil => rfl
  | cons s l => exact absurd rfl (tyR_free x [] t h s (by rw [hf]; simp))
mutual
theorem asEx_tyEx : ∀ (t : Tr) (x : Ex), asEx t = some x → tyEx x
  | .atom a, x, h => by
    simp only [asEx, atomEx] at h
    split at h
    · simp only [Option.some.injEq] at h; subst h; trivial
    · split at h
      · simp only [Option.some.injEq] at h; subst h; trivial
      · cases h
  | .list [], x, h => by simp [asEx, asExs] at h
  | .list (h0 :: ps), x, h => by
    simp only [asEx, asExs] at h
    split at h
    · match ps, h with
      | [s, e, b], h =>
        simp only [asLetE] at h
        split at h
        · split at h
          · cases h
          · rename_i e' he
            split at h
            · cases h
            · rename_i b' hb
              simp only [Option.some.injEq] at h; subst h
              exact ⟨asEx_tyEx e e' he, asEx_tyEx b b' hb⟩
        · cases h
    · split at h
      · match ps, h with
        | [f, s, A, B, e], h =>
          simp only [asFunE] at h
          split at h
          · rename_i hz
            split at h
            · cases h
            · rename_i e' he
              simp only [Option.some.injEq] at h; subst h
              simp only [Bool.and_eq_true] at hz
              exact ⟨hz.1.2, hz.2, asEx_tyEx e e' he⟩
          · cases h
      · simp only [Option.bind_eq_some_iff] at h
        obtain ⟨es, h1, h2⟩ := h
        have hk := kidsEx_tyEx ps es h1
        match es, h2 with
        | [a], h2 =>
          simp only [mkHead, Option.map_eq_some_iff] at h2
          obtain ⟨o, ho, rfl⟩ := h2
          exact hk a (by simp)
        | [a, b], h2 =>
          simp only [mkHead, Option.map_eq_some_iff] at h2
          obtain ⟨o, ho, rfl⟩ := h2
          exact ⟨hk a (by simp), hk b (by simp)⟩
        | [a, b, c], h2 =>
          simp only [mkHead] at h2
          split at h2
          · simp only [Option.some.injEq] at h2; subst h2
            exact ⟨hk a (by simp), hk b (by simp), hk c (by simp)⟩
          · cases h2
theorem kidsEx_tyEx : ∀ (ts : List Tr) (es : List Ex), kidsEx ts = some es → ∀ e ∈ es, tyEx e
  | [], es, h, e, he => by simp only [kidsEx, Option.some.injEq] at h; subst h; cases he
  | t :: ts, es, h, e, he => by
    simp only [kidsEx] at h
    split at h
    · cases h
    · rename_i e' h1
      split at h
      · cases h
      · rename_i es' h2
        simp only [Option.some.injEq] at h
        subst h
        rcases List.mem_cons.1 he with rfl | he
        · exact asEx_tyEx t _ h1
        · exact kidsEx_tyEx ts es' h2 e he
end
theorem readEx_tyEx {l : List UInt8} {x : Ex} (h : readEx l = some x) : tyEx x := by
  cases hp : parse l with
  | none => rw [readEx_none hp] at h; cases h
  | some t =>
    rw [readEx_some hp] at h
    split at h
    · exact asEx_tyEx t x h
    · cases h
/-- Texts tell trees. -/
theorem text_inj {a b : Tr} (ha : a.wf) (hb : b.wf) (h : a.text = b.text) : a = b := by
  have e1 := read_text (a.depth + b.depth + 1) a ha (by omega) [] (fun _ _ c r' e => by cases e)
  have e2 := read_text (a.depth + b.depth + 1) b hb (by omega) [] (fun _ _ c r' e => by cases e)
  rw [← h, e1] at e2
  simpa using e2
theorem text_ne {t : Tr} (h : t.wf) : t.text ≠ [] := by
  have h1 := size_le t h
  have h2 := text_length t h
  intro e
  rw [e] at h2
  simp only [List.length_nil] at h2
  omega
theorem readTy_text {t : Tr} (h : isTyL t = true) : readTy t.text = some t := by
  obtain ⟨h1, h2, h3, h4, h5⟩ := isTyL_small h
  rw [readTy_some (parse_text h1 (by omega) (by omega)), h5]
  simp [h4]
/-- The environment of two lists of texts, if they are one. -/
def envAdd : List (Nm × Tr) → List Nm → List (List UInt8) → Option (List (Nm × Tr))
  | env, n :: ns, t :: ts => match readTy t with | none => none | some u => if isNm n = true then envAdd ((n, u) :: env) ns ts else none
  | env, [], [] => some env
  | _, _, _ => none
def envOf (ns : List Nm) (ts : List (List UInt8)) : Option (List (Nm × Tr)) := if ns.length ≤ 8 ∧ ns.length = ts.length then envAdd [] ns ts else none
theorem envAdd_snoc : ∀ (ns : List Nm) (ts : List (List UInt8)) (env : List (Nm × Tr)) (n : Nm) (t : List UInt8), ns.length = ts.length →
    envAdd env (ns ++ [n]) (ts ++ [t]) = (envAdd env ns ts).bind (fun e => match readTy t with | none => none | some u => if isNm n = true then some ((n, u) :: e) else none)
  | [], [], env, n, t, _ => by
    simp only [List.nil_append, envAdd, Option.bind_some]
  | m :: ns, s :: ts, env, n, t, h => by
    simp only [List.cons_append, envAdd]
    cases readTy s with
    | none => simp
    | some u =>
      by_cases hm : isNm m = true
      · simp only [hm, if_true]
        exact envAdd_snoc ns ts _ n t (by simpa using h)
      · simp [hm]
  | [], _ :: _, env, n, t, h => by simp at h
  | _ :: _, [], env, n, t, h => by simp at h
theorem envAdd_ok : ∀ (ns : List Nm) (ts : List (List UInt8)) (env e : List (Nm × Tr)), envOK env → envAdd env ns ts = some e → envOK e
  | [], [], env, e, he, h => by simp only [envAdd, Option.some.injEq] at h; subst h; exact he
  | [], _ :: _, env, e, he, h => by simp [envAdd] at h
  | _ :: _, [], env, e, he, h => by simp [envAdd] at h
  | n :: ns, t :: ts, env, e, he, h => by
    simp only [envAdd] at h
    split at h
    · cases h
    · rename_i u hu
      split at h
      · exact envAdd_ok ns ts _ e (he.cons (by obtain ⟨_, _, _, _, q1, q2⟩ := readTy_got hu; simp [isTyL, q1, q2])) h
      · cases h
theorem envOf_ok {ns : List Nm} {ts : List (List UInt8)} {e : List (Nm × Tr)} (h : envOf ns ts = some e) : envOK e := by
  unfold envOf at h
  split at h
  · exact envAdd_ok ns ts [] e envOK_nil h
  · cases h
/-- What is looked up. -/
def lookOf (ns : List Nm) (ts : List (List UInt8)) (s : Nm) : Option (List UInt8) := (envOf ns ts).bind (fun e => (lookE e s).map Tr.text)
/-- The two lists of an environment. -/
def envN (env : List (Nm × Tr)) : List Nm := (env.map (fun p => p.1)).reverse
def envT (env : List (Nm × Tr)) : List (List UInt8) := (env.map (fun p => p.2.text)).reverse
theorem envN_cons (n : Nm) (t : Tr) (env : List (Nm × Tr)) : envN ((n, t) :: env) = envN env ++ [n] := by simp [envN]
theorem envT_cons (n : Nm) (t : Tr) (env : List (Nm × Tr)) : envT ((n, t) :: env) = envT env ++ [t.text] := by simp [envT]
theorem envN_len (env : List (Nm × Tr)) : (envN env).length = env.length := by simp [envN]
theorem envT_len (env : List (Nm × Tr)) : (envT env).length = env.length := by simp [envT]
theorem envAdd_lists : ∀ (ns : List Nm) (ts : List (List UInt8)) (env e : List (Nm × Tr)), envAdd env ns ts = some e → envN e = envN env ++ ns ∧ envT e = envT env ++ ts
  | [], [], env, e, h => by simp only [envAdd, Option.some.injEq] at h; subst h; simp
  | [], _ :: _, env, e, h => by simp [envAdd] at h
  | _ :: _, [], env, e, h => by simp [envAdd] at h
  | n :: ns, t :: ts, env, e, h => by
    simp only [envAdd] at h
    split at h
    · cases h
    · rename_i u hu
      split at h
      · obtain ⟨h1, h2⟩ := envAdd_lists ns ts _ e h
        have ht := (readTy_got hu).2.2.2.1
        rw [h1, h2, envN_cons, envT_cons, ← ht]
        simp
      · cases h
theorem envOf_lists {ns : List Nm} {ts : List (List UInt8)} {e : List (Nm × Tr)} (h : envOf ns ts = some e) : ns = envN e ∧ ts = envT e ∧ ns.length = ts.length ∧ ns.length ≤ 8 := by
  unfold envOf at h
  split at h
  · rename_i hl
    obtain ⟨h1, h2⟩ := envAdd_lists ns ts [] e h
    exact ⟨by simpa [envN] using h1.symm, by simpa [envT] using h2.symm, hl.2, hl.1⟩
  · cases h
theorem envAdd_isSome : ∀ (ns : List Nm) (ts : List (List UInt8)) (env : List (Nm × Tr)), ns.length = ts.length → (envAdd env ns ts).isSome = (ns.all isNm && ts.all (fun t => (readTy t).isSome))
  | [], [], env, _ => by simp [envAdd]
  | [], _ :: _, env, h => by simp at h
  | _ :: _, [], env, h => by simp at h
  | n :: ns, t :: ts, env, h => by
    simp only [envAdd, List.all_cons]
    cases readTy t with
    | none => simp
    | some u =>
      by_cases hn : isNm n = true
      · simp only [hn, if_true, Option.isSome_some, Bool.true_and]
        exact envAdd_isSome ns ts _ (by simpa using h)
      · simp [hn]
theorem envOf_isSome (ns : List Nm) (ts : List (List UInt8)) : (envOf ns ts).isSome = (ns.all isNm && ts.all (fun t => (readTy t).isSome) && decide (ns.length = ts.length) && decide (ns.length ≤ 8)) := by
  unfold envOf
  by_cases h : ns.length ≤ 8 ∧ ns.length = ts.length
  · rw [if_pos h, envAdd_isSome _ _ _ h.2, decide_eq_true h.2, decide_eq_true h.1]; simp
  · rw [if_neg h]
    by_cases h1 : ns.length = ts.length
    · have : ¬ ns.length ≤ 8 := fun q => h ⟨q, h1⟩
      simp [this]
    · simp [h1]
/-- The last one of a name, of the first k. -/
def lookK (ns : List Nm) (ts : List (List UInt8)) (s : Nm) : Nat → List UInt8
  | 0 => []
  | k + 1 => if ns.getD k [] = s then ts.getD k [] else lookK ns ts s k
theorem lookK_app (ns : List Nm) (ts : List (List UInt8)) (s n : Nm) (t : List UInt8) (h : ns.length = ts.length) : ∀ k, k ≤ ns.length → lookK (ns ++ [n]) (ts ++ [t]) s k = lookK ns ts s k
  | 0, _ => rfl
  | k + 1, hk => by
    simp only [lookK]
    rw [lookK_app ns ts s n t h k (by omega)]
    rw [List.getD_eq_getElem?_getD, List.getD_eq_getElem?_getD, List.getD_eq_getElem?_getD, List.getD_eq_getElem?_getD, List.getElem?_append_left (by omega), List.getElem?_append_left (by omega)]
theorem lookK_env (s : Nm) : ∀ env : List (Nm × Tr), lookK (envN env) (envT env) s env.length = ((lookE env s).map Tr.text).getD []
  | [] => rfl
  | (n, t) :: env => by
    have h1 := envN_len env
    have h2 := envT_len env
    rw [envN_cons, envT_cons, List.length_cons]
    simp only [lookK]
    rw [lookK_app _ _ _ _ _ (by omega) _ (by omega), lookK_env s env]
    rw [List.getD_eq_getElem?_getD, List.getD_eq_getElem?_getD, List.getElem?_append_right (by omega), List.getElem?_append_right (by omega), h1, h2]
    simp only [Nat.sub_self, List.getElem?_cons_zero, Option.getD_some, lookE]
    by_cases h : n = s
    · simp [h]
    · simp [h]
theorem lookOf_none {ns : List Nm} {ts : List (List UInt8)} (s : Nm) (h : envOf ns ts = none) : lookOf ns ts s = none := by simp [lookOf, h]
theorem lookOf_some {ns : List Nm} {ts : List (List UInt8)} {e : List (Nm × Tr)} (s : Nm) (h : envOf ns ts = some e) : lookOf ns ts s = (lookE e s).map Tr.text := by simp [lookOf, h]
end Go.Proofs.YtfknoigbkleanaaGreatDoor
namespace Go.Proofs.YtfknoigbkleanaaGreatDoor
open Go.RowKit
set_option maxRecDepth 8000
set_option linter.unusedSimpArgs false
set_option linter.unusedVariables false
/-- The type of a text in an environment. -/
def tyOf (ns : List Nm) (ts : List (List UInt8)) (l : List UInt8) : Option (List UInt8) :=
  match envOf ns ts with
  | none => none
  | some env => match readEx l with
    | none => none
    | some x => match tyR env x with
      | .error _ => none
      | .ok t => some t.text
theorem tyOf_env {ns : List Nm} {ts : List (List UInt8)} {l : List UInt8} (h : envOf ns ts = none) : tyOf ns ts l = none := by simp [tyOf, h]
theorem tyOf_ex {ns : List Nm} {ts : List (List UInt8)} {l : List UInt8} (h : readEx l = none) : tyOf ns ts l = none := by
  simp only [tyOf, h]; split <;> rfl
theorem tyOf_bad {ns : List Nm} {ts : List (List UInt8)} {l : List UInt8} {env : List (Nm × Tr)} {x f : Ex} (h : envOf ns ts = some env) (hx : readEx l = some x) (hf : tyR env x = .error f) : tyOf ns ts l = none := by simp [tyOf, h, hx, hf]
theorem tyOf_good {ns : List Nm} {ts : List (List UInt8)} {l : List UInt8} {env : List (Nm × Tr)} {x : Ex} {t : Tr} (h : envOf ns ts = some env) (hx : readEx l = some x) (hf : tyR env x = .ok t) : tyOf ns ts l = some t.text := by simp [tyOf, h, hx, hf]
/-- Whether a text has a type without names. -/
def typedOf (l : List UInt8) : Bool := (tyOf [] [] l).isSome
end Go.Proofs.YtfknoigbkleanaaGreatDoor
namespace Go.Proofs.YtfknoigbkleanaaGreatDoor
open Go.RowKit
set_option maxRecDepth 8000
set_option linter.unusedSimpArgs false
set_option linter.unusedVariables false
theorem good_two (o : Op2) (p q : Ex) : asEx (formOf (.two o p q)) = some (.two o p q) ↔ asEx (formOf p) = some p ∧ asEx (formOf q) = some q := by
  have h1 : op2N o ≠ kLet := by cases o <;> decide
  have h2 : op2N o ≠ kFun := by cases o <;> decide
  simp only [formOf, asEx, asExs]
  rw [if_neg (show ¬ atomOf (Tr.atom (op2N o)) = kLet from h1), if_neg (show ¬ atomOf (Tr.atom (op2N o)) = kFun from h2)]
  simp only [kidsEx, atomOf]
  cases asEx (formOf p) <;> cases asEx (formOf q) <;> cases o <;> simp [mkHead, op2Of, op2N]
theorem good_one (o : Op1) (p : Ex) : asEx (formOf (.one o p)) = some (.one o p) ↔ asEx (formOf p) = some p := by
  have h1 : op1N o ≠ kLet := by cases o <;> decide
  have h2 : op1N o ≠ kFun := by cases o <;> decide
  simp only [formOf, asEx, asExs]
  rw [if_neg (show ¬ atomOf (Tr.atom (op1N o)) = kLet from h1), if_neg (show ¬ atomOf (Tr.atom (op1N o)) = kFun from h2)]
  simp only [kidsEx, atomOf]
  cases asEx (formOf p) <;> cases o <;> simp [mkHead, op1Of, op1N]
theorem good_cond (p q r : Ex) : asEx (formOf (.cond p q r)) = some (.cond p q r) ↔ asEx (formOf p) = some p ∧ asEx (formOf q) = some q ∧ asEx (formOf r) = some r := by
  have h1 : kIf ≠ kLet := by decide
  have h2 : kIf ≠ kFun := by decide
  simp only [formOf, asEx, asExs]
  rw [if_neg (show ¬ atomOf (Tr.atom kIf) = kLet from h1), if_neg (show ¬ atomOf (Tr.atom kIf) = kFun from h2)]
  simp only [kidsEx, atomOf]
  cases asEx (formOf p) <;> cases asEx (formOf q) <;> cases asEx (formOf r) <;> simp [mkHead]
theorem good_lete (s : Nm) (p q : Ex) : asEx (formOf (.lete s p q)) = some (.lete s p q) ↔ isNm s = true ∧ asEx (formOf p) = some p ∧ asEx (formOf q) = some q := by
  simp only [formOf, asEx, asExs]
  rw [if_pos (show atomOf (Tr.atom kLet) = kLet from rfl)]
  simp only [asLetE, atomOf]
  cases asEx (formOf p) <;> cases asEx (formOf q) <;> by_cases hz : isNm s = true <;> simp [hz]
theorem good_func (f s : Nm) (A B : Tr) (p : Ex) : asEx (formOf (.func f s A B p)) = some (.func f s A B p) ↔ (isNm f && isNm s && !(f == s) && isTyL A && isTyL B) = true ∧ asEx (formOf p) = some p := by
  have h1 : kFun ≠ kLet := by decide
  simp only [formOf, asEx, asExs]
  rw [if_neg (show ¬ atomOf (Tr.atom kFun) = kLet from h1), if_pos (show atomOf (Tr.atom kFun) = kFun from rfl)]
  simp only [asFunE]
  show (if (isNm f && isNm s && !(f == s) && isTyL A && isTyL B) = true then (match asEx (formOf p) with | none => none | some e' => some (Ex.func f s A B e')) else none) = some (Ex.func f s A B p) ↔ _
  split
  · rename_i hz
    cases asEx (formOf p) with
    | none => simp
    | some v =>
      simp only [Option.some.injEq, Ex.func.injEq, true_and]
      exact ⟨fun h => ⟨hz, h⟩, fun h => h.2⟩
  · rename_i hz
    exact ⟨(fun h => by cases h), fun h => absurd h.1 hz⟩
/-- An expression that is written as what is read as it. -/
def good (x : Ex) : Prop := asEx (formOf x) = some x
theorem good_nm {s : Nm} (h : good (.name s)) : isNm s = true := by
  unfold good at h
  simp only [formOf, asEx, atomEx] at h
  cases hn : numOf s with
  | some n => simp [hn] at h
  | none =>
    simp only [hn] at h
    split at h
    · assumption
    · cases h
theorem good_num {n : Int} (h : good (.num n)) : isNm (Lib.itoa n) = false ∧ numOf (Lib.itoa n) = some n := by
  unfold good at h
  simp only [formOf, asEx, atomEx] at h
  cases hn : numOf (Lib.itoa n) with
  | some m =>
    simp only [hn, Option.some.injEq, Ex.num.injEq] at h
    subst h
    exact ⟨numOf_notNm hn, rfl⟩
  | none =>
    simp only [hn] at h
    split at h <;> cases h
theorem good_of {t : Tr} {x : Ex} (h : asEx t = some x) : good x := by unfold good; rw [formOf_eq _ _ h]; exact h
end Go.Proofs.YtfknoigbkleanaaGreatDoor
