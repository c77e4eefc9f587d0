/- Plain expressions are as large as before and have the same type; types lean on free names only; where the first fault stands. -/
import Derived.Test.YtjncmmnbdabjnaaGreatDoorPureX
namespace Go.Proofs.YtjncmmnbdabjnaaGreatDoor
open Go.RowKit
set_option maxRecDepth 8000
set_option linter.unusedSimpArgs false
set_option linter.unusedVariables false
theorem numA_len {l : List UInt8} {n : Int} (h : numOf l = some n) : l.length ≤ 4 := by
  by_cases h0 : l = [48]
  · subst h0; decide
  · by_cases hc : 1 ≤ (digitsOf l).length ∧ (digitsOf l).length ≤ 3 ∧ (digitsOf l).head? ≠ some 48
    · have hl := digitsOf_len l
      omega
    · rw [numOf_no h0 hc] at h; cases h
theorem nmA_len {l : List UInt8} (h : isNm l = true) : 1 ≤ l.length ∧ l.length ≤ 4 := by
  cases l with
  | nil => simp [isNm] at h
  | cons b r =>
    simp only [isNm, Bool.and_eq_true, decide_eq_true_eq] at h
    simp only [List.length_cons]
    omega
theorem tyA_bytes {t : Tr} (h : isTyL t = true) : t.bytes + 1 ≤ 8 * t.size := by
  have h2 := isTyL_got h
  have h3 := (isTy_small _ _ (Nat.le_refl _) h2.1).1
  have h4 : 1 ≤ t.size := by
    cases t with
    | atom a => simp [Tr.size]
    | list ts =>
      obtain ⟨x, a, b, rfl, hx, -, -⟩ := isTy_list h2.1
      cases x with
      | atom a => simp only [Tr.size, sizes]; omega
      | list s => simp [atomOf] at hx
  omega
/-- Expressions of few atoms have few bytes. -/
theorem good_bytes : ∀ x : Ex, good x → (formOf x).bytes + 1 ≤ 8 * (formOf x).size
  | .name s, h => by
    have := nmA_len (good_nm h)
    simp only [formOf, Tr.bytes, Tr.size]; omega
  | .num n, h => by
    have := numA_len (good_num h).2
    simp only [formOf, Tr.bytes, Tr.size]; omega
  | .two o a b, h => by
    obtain ⟨h1, h2⟩ := (good_two _ _ _).1 h
    have k1 := good_bytes a h1
    have k2 := good_bytes b h2
    have k3 : (op2N o).length ≤ 4 := by cases o <;> simp [op2N]
    simp only [formOf, Tr.bytes, bytess, Tr.size, sizes]; omega
  | .one o a, h => by
    have k1 := good_bytes a ((good_one _ _).1 h)
    have k3 : (op1N o).length ≤ 4 := by cases o <;> simp [op1N]
    simp only [formOf, Tr.bytes, bytess, Tr.size, sizes]; omega
  | .cond a b c, h => by
    obtain ⟨h1, h2, h3⟩ := (good_cond _ _ _).1 h
    have k1 := good_bytes a h1
    have k2 := good_bytes b h2
    have k4 := good_bytes c h3
    have k3 : kIf.length ≤ 4 := by simp [kIf]
    simp only [formOf, Tr.bytes, bytess, Tr.size, sizes]; omega
  | .lete s a b, h => by
    obtain ⟨h1, h2, h3⟩ := (good_lete _ _ _).1 h
    have k0 := nmA_len h1
    have k1 := good_bytes a h2
    have k2 := good_bytes b h3
    have k3 : kLet.length ≤ 4 := by simp [kLet]
    simp only [formOf, Tr.bytes, bytess, Tr.size, sizes]; omega
  | .func f s A B e, h => by
    obtain ⟨h1, h2⟩ := (good_func _ _ _ _ _).1 h
    simp only [Bool.and_eq_true] at h1
    have k0 := nmA_len h1.1.1.1.1
    have k1 := nmA_len h1.1.1.1.2
    have k2 := tyA_bytes h1.1.2
    have k4 := tyA_bytes h1.2
    have k5 := good_bytes e h2
    have k3 : kFun.length ≤ 4 := by simp [kFun]
    simp only [formOf, Tr.bytes, bytess, Tr.size, sizes]; omega
theorem nmA_wf {l : List UInt8} (h : isNm l = true) : (Tr.atom l).wf := by
  cases l with
  | nil => simp [isNm] at h
  | cons b r =>
    simp only [isNm, Bool.and_eq_true, decide_eq_true_eq] at h
    obtain ⟨⟨h1, h2, h3⟩, h4⟩ := h
    obtain ⟨m, hm⟩ := Option.isSome_iff_exists.1 h4
    refine ⟨by simp, fun c hc => ?_⟩
    rcases List.mem_cons.1 hc with rfl | hc
    · have : ∀ d : Nat, 97 ≤ d → d ≤ 122 → isAB (UInt8.ofNat d) = true := by
        intro d e1 e2
        have : ∀ k : Fin 26, isAB (UInt8.ofNat (97 + k.val)) = true := by decide
        have h5 := this ⟨d - 97, by omega⟩
        rwa [show 97 + (d - 97) = d by omega] at h5
      have h5 := this c.toNat h2 h3
      rwa [UInt8.ofNat_toNat] at h5
    · obtain ⟨k, hk, rfl⟩ := List.getElem_of_mem hc
      cases hv : Lib.digitVal r[k] with
      | none =>
        rw [decFrom_bad r 0 k _ (List.getElem?_eq_getElem hk) hv] at hm
        cases hm
      | some d =>
        have h5 := digit_back hv
        rw [← h5.2]
        have : ∀ d : Nat, d < 10 → isAB (UInt8.ofNat (48 + d)) = true := by decide
        exact this d h5.1
theorem numA_wf {l : List UInt8} {n : Int} (h : numOf l = some n) : (Tr.atom l).wf := by
  by_cases h0 : l = [48]
  · subst h0; exact ⟨by decide, by decide⟩
  · by_cases hc : 1 ≤ (digitsOf l).length ∧ (digitsOf l).length ≤ 3 ∧ (digitsOf l).head? ≠ some 48
    · rw [numOf_yes h0 hc] at h
      refine ⟨fun e => by subst e; simp [digitsOf] at hc, ?_⟩
      have hall : ∀ b ∈ digitsOf l, isAB b = true := fun b hb => by
        obtain ⟨k, hk, rfl⟩ := List.getElem_of_mem hb
        cases hv : Lib.digitVal (digitsOf l)[k] with
        | none =>
          rw [decFrom_bad (digitsOf l) 0 k _ (List.getElem?_eq_getElem hk) hv] at h
          cases h
        | some d =>
          have h2 := (digit_back hv)
          rw [← h2.2]
          have h3 := h2.1
          have : ∀ d : Nat, d < 10 → isAB (UInt8.ofNat (48 + d)) = true := by decide
          exact this d h3
      intro b hb
      cases l with
      | nil => cases hb
      | cons c r =>
        simp only [digitsOf] at hall
        split at hall
        · rename_i hc45
          rcases List.mem_cons.1 hb with rfl | hb
          · rw [hc45]; decide
          · exact hall b hb
        · exact hall b hb
    · rw [numOf_no h0 hc] at h; cases h
theorem good_wf : ∀ x : Ex, good x → (formOf x).wf
  | .name s, h => nmA_wf (good_nm h)
  | .num n, h => numA_wf (good_num h).2
  | .two o a b, h => by
    obtain ⟨h1, h2⟩ := (good_two _ _ _).1 h
    have k3 : (Tr.atom (op2N o)).wf := by cases o <;> exact ⟨by decide, by decide⟩
    simp only [formOf, Tr.wf, wfs]
    exact ⟨by simp, k3, good_wf a h1, good_wf b h2, trivial⟩
  | .one o a, h => by
    have k3 : (Tr.atom (op1N o)).wf := by cases o <;> exact ⟨by decide, by decide⟩
    simp only [formOf, Tr.wf, wfs]
    exact ⟨by simp, k3, good_wf a ((good_one _ _).1 h), trivial⟩
  | .cond a b c, h => by
    obtain ⟨h1, h2, h3⟩ := (good_cond _ _ _).1 h
    have k3 : (Tr.atom kIf).wf := ⟨by decide, by decide⟩
    simp only [formOf, Tr.wf, wfs]
    exact ⟨by simp, k3, good_wf a h1, good_wf b h2, good_wf c h3, trivial⟩
  | .lete s a b, h => by
    obtain ⟨h1, h2, h3⟩ := (good_lete _ _ _).1 h
    have k3 : (Tr.atom kLet).wf := ⟨by decide, by decide⟩
    simp only [formOf, Tr.wf, wfs]
    exact ⟨by simp, k3, nmA_wf h1, good_wf a h2, good_wf b h3, trivial⟩
  | .func f s A B e, h => by
    obtain ⟨h1, h2⟩ := (good_func _ _ _ _ _).1 h
    simp only [Bool.and_eq_true] at h1
    have k3 : (Tr.atom kFun).wf := ⟨by decide, by decide⟩
    simp only [formOf, Tr.wf, wfs]
    exact ⟨by simp, k3, nmA_wf h1.1.1.1.1, nmA_wf h1.1.1.1.2, (isTyL_small h1.1.2).1, (isTyL_small h1.2).1, good_wf e h2, trivial⟩
theorem readA_all {l : List UInt8} {x : Ex} (h : readEx l = some x) : parse l = some (formOf x) ∧ l = (formOf x).text ∧ (formOf x).size ≤ 120 ∧ (formOf x).bytes ≤ 12000 ∧ (formOf x).depth ≤ 60 ∧ (formOf x).wf ∧ good x := by
  unfold readEx at h
  cases hp : parse l with
  | none => simp [hp] at h
  | some t =>
    simp only [hp] at h
    split at h
    · rename_i hs
      have g := parse_got hp
      have e := formOf_eq _ _ h
      rw [e]
      exact ⟨rfl, g.2.2.2, hs, g.2.1, g.2.2.1, g.1, good_of h⟩
    · cases h
theorem readA_made {x : Ex} (h1 : (formOf x).size ≤ 120) (h3 : (formOf x).depth ≤ 60) (h5 : good x) : readEx (formOf x).text = some x := by
  have h2 := good_bytes x h5
  rw [readEx_some (parse_text (good_wf x h5) (by omega) h3), if_pos h1]
  exact h5
theorem depth_two (o : Op2) (a b : Ex) : (formOf (.two o a b)).depth = max (1 + (formOf a).depth) (1 + (formOf b).depth) := by simp only [formOf, Tr.depth, depths]; omega
/-- A plain expression is as large as before. -/
theorem plE_same (free : List Nm) : ∀ (x : Ex) (m : List (Nm × Nm)) (k : Nat), (formOf (plE free m k x).1).size = (formOf x).size ∧ (formOf (plE free m k x).1).depth = (formOf x).depth
  | .name s, m, k => by simp [plE, formOf, Tr.size, Tr.depth]
  | .num n, m, k => by simp [plE]
  | .two o a b, m, k => by
    obtain ⟨h1, h2⟩ := plE_same free a m k
    obtain ⟨h3, h4⟩ := plE_same free b m (plE free m k a).2
    simp only [plE, formOf, Tr.size, sizes, Tr.depth, depths, h1, h2, h3, h4, and_self]
  | .one o a, m, k => by
    obtain ⟨h1, h2⟩ := plE_same free a m k
    simp only [plE, formOf, Tr.size, sizes, Tr.depth, depths, h1, h2, and_self]
  | .cond a b c, m, k => by
    obtain ⟨h1, h2⟩ := plE_same free a m k
    obtain ⟨h3, h4⟩ := plE_same free b m (plE free m k a).2
    obtain ⟨h5, h6⟩ := plE_same free c m (plE free m (plE free m k a).2 b).2
    simp only [plE, formOf, Tr.size, sizes, Tr.depth, depths, h1, h2, h3, h4, h5, h6, and_self]
  | .lete x e b, m, k => by
    obtain ⟨h1, h2⟩ := plE_same free e m (fresh free k + 1)
    obtain ⟨h3, h4⟩ := plE_same free b ((x, xName (fresh free k)) :: m) (plE free m (fresh free k + 1) e).2
    simp only [plE, formOf, Tr.size, sizes, Tr.depth, depths, h1, h2, h3, h4, and_self]
  | .func f x A B e, m, k => by
    obtain ⟨h1, h2⟩ := plE_same free e ((x, xName (fresh free (fresh free k + 1))) :: (f, xName (fresh free k)) :: m) (fresh free (fresh free k + 1) + 1)
    simp only [plE, formOf, Tr.size, sizes, Tr.depth, depths, h1, h2, and_self]
theorem digA_val (d : Nat) (h : d < 10) : Lib.digitVal (UInt8.ofNat (48 + d)) = some d := by
  have : ∀ d : Fin 10, Lib.digitVal (UInt8.ofNat (48 + d.val)) = some d.val := by decide
  exact this ⟨d, h⟩
theorem xName_nm {i : Nat} (h : i ≤ 200) : isNm (xName i) = true := by
  unfold xName Lib.itoa
  rw [if_neg (by omega)]
  simp only [Int.toNat_natCast]
  by_cases h1 : i < 10
  · rw [dd1 i h1]
    have e : Lib.decFrom 0 [UInt8.ofNat (48 + i)] = some (0 * 10 + i) := by simp only [Lib.decFrom, digA_val i h1]
    simp only [isNm, e]
    rfl
  · by_cases h2 : i < 100
    · obtain ⟨d1, d2, e, k1, k2, k3⟩ : ∃ d1 d2, i = d1 * 10 + d2 ∧ 1 ≤ d1 ∧ d1 < 10 ∧ d2 < 10 := ⟨i / 10, i % 10, by omega, by omega, by omega, by omega⟩
      rw [e, dd2 d1 d2 k1 k2 k3]
      have e : Lib.decFrom 0 [UInt8.ofNat (48 + d1), UInt8.ofNat (48 + d2)] = some ((0 * 10 + d1) * 10 + d2) := by simp only [Lib.decFrom, digA_val d1 k2, digA_val d2 k3]
      simp only [isNm, e]
      rfl
    · obtain ⟨d1, d2, d3, e, k1, k2, k3, k4⟩ : ∃ d1 d2 d3, i = (d1 * 10 + d2) * 10 + d3 ∧ 1 ≤ d1 ∧ d1 < 10 ∧ d2 < 10 ∧ d3 < 10 := ⟨i / 100, i / 10 % 10, i % 10, by omega, by omega, by omega, by omega, by omega⟩
      rw [e, dd3 d1 d2 d3 k1 k2 k3 k4]
      have e : Lib.decFrom 0 [UInt8.ofNat (48 + d1), UInt8.ofNat (48 + d2), UInt8.ofNat (48 + d3)] = some (((0 * 10 + d1) * 10 + d2) * 10 + d3) := by simp only [Lib.decFrom, digA_val d1 k2, digA_val d2 k3, digA_val d3 k4]
      simp only [isNm, e]
      rfl
theorem lookR_nm {s : Nm} (hs : isNm s = true) : ∀ {m : List (Nm × Nm)}, (∀ q ∈ m, isNm q.2 = true) → isNm (lookR m s) = true
  | [], _ => hs
  | (a, b) :: m, h => by
    simp only [lookR]
    split
    · exact h (a, b) (by simp)
    · exact lookR_nm hs (fun q hq => h q (by simp [hq]))
/-- A plain expression is an expression. -/
theorem plE_good (free : List Nm) : ∀ (x : Ex) (m : List (Nm × Nm)) (k : Nat), (∀ q ∈ m, isNm q.2 = true) → good x → (plE free m k x).2 ≤ 200 → good (plE free m k x).1
  | .name s, m, k, hm, hg, h2 => by
    have h := lookR_nm (good_nm hg) hm
    unfold good
    simp only [plE, formOf, asEx, atomEx]
    cases hn : numOf (lookR m s) with
    | some n => have := numOf_notNm hn; rw [h] at this; cases this
    | none => simp [h]
  | .num n, m, k, hm, hg, h2 => hg
  | .two o a b, m, k, hm, hg, h2 => by
    obtain ⟨g1, g2⟩ := (good_two _ _ _).1 hg
    simp only [plE] at h2 ⊢
    have u := (plE_used free b m (plE free m k a).2).1
    exact (good_two _ _ _).2 ⟨plE_good free a m k hm g1 (by omega), plE_good free b m _ hm g2 h2⟩
  | .one o a, m, k, hm, hg, h2 => by
    simp only [plE] at h2 ⊢
    exact (good_one _ _).2 (plE_good free a m k hm ((good_one _ _).1 hg) h2)
  | .cond a b c, m, k, hm, hg, h2 => by
    obtain ⟨g1, g2, g3⟩ := (good_cond _ _ _).1 hg
    simp only [plE] at h2 ⊢
    have u := (plE_used free b m (plE free m k a).2).1
    have v := (plE_used free c m (plE free m (plE free m k a).2 b).2).1
    exact (good_cond _ _ _).2 ⟨plE_good free a m k hm g1 (by omega), plE_good free b m _ hm g2 (by omega), plE_good free c m _ hm g3 h2⟩
  | .lete x e b, m, k, hm, hg, h2 => by
    obtain ⟨g1, g2, g3⟩ := (good_lete _ _ _).1 hg
    simp only [plE] at h2 ⊢
    have u := (plE_used free e m (fresh free k + 1)).1
    have v := (plE_used free b ((x, xName (fresh free k)) :: m) (plE free m (fresh free k + 1) e).2).1
    have hx := xName_nm (i := fresh free k) (by omega)
    exact (good_lete _ _ _).2 ⟨hx, plE_good free e m _ hm g2 (by omega), plE_good free b _ _ (fun q hq => by
      rcases List.mem_cons.1 hq with rfl | hq
      · exact hx
      · exact hm q hq) g3 h2⟩
  | .func f x A B e, m, k, hm, hg, h2 => by
    obtain ⟨g1, g2⟩ := (good_func _ _ _ _ _).1 hg
    simp only [plE] at h2 ⊢
    have u := (plE_used free e ((x, xName (fresh free (fresh free k + 1))) :: (f, xName (fresh free k)) :: m) (fresh free (fresh free k + 1) + 1)).1
    have v := (fresh_le free (fresh free k + 1)).1
    have hx := xName_nm (i := fresh free k) (by omega)
    have hy := xName_nm (i := fresh free (fresh free k + 1)) (by omega)
    simp only [Bool.and_eq_true] at g1
    refine (good_func _ _ _ _ _).2 ⟨?_, plE_good free e _ _ (fun q hq => by
      rcases List.mem_cons.1 hq with rfl | hq
      · exact hy
      · rcases List.mem_cons.1 hq with rfl | hq
        · exact hx
        · exact hm q hq) g2 h2⟩
    have hne : (xName (fresh free k) == xName (fresh free (fresh free k + 1))) = false := by
      rw [beq_eq_false_iff_ne]
      intro e
      have := xName_inj e
      omega
    simp [hx, hy, hne, g1.1.2, g1.2]
/-- The type of an expression, if it has one. -/
def tyT (env : List (Nm × Tr)) (x : Ex) : Option Tr := match tyR env x with | .ok t => some t | .error _ => none
theorem tyT_ok {env : List (Nm × Tr)} {x : Ex} {t : Tr} : tyR env x = .ok t ↔ tyT env x = some t := by
  unfold tyT; cases tyR env x <;> simp
theorem tyT_bad (x : Ex) (o : Option Tr) : (match orBad x o with | .ok t => some t | .error _ => none) = o := by cases o <;> rfl
theorem tyT_name (env : List (Nm × Tr)) (s : Nm) : tyT env (.name s) = lookE env s := by unfold tyT; simp only [tyR]; exact tyT_bad _ _
theorem tyT_two (env : List (Nm × Tr)) (o : Op2) (a b : Ex) : tyT env (.two o a b) = (tyT env a).bind fun ta => (tyT env b).bind fun tb => join2 o ta tb := by
  unfold tyT; simp only [tyR]
  cases tyR env a <;> cases tyR env b <;> simp [tyT_bad]
theorem tyT_one (env : List (Nm × Tr)) (o : Op1) (a : Ex) : tyT env (.one o a) = (tyT env a).bind fun ta => join1 o ta := by
  unfold tyT; simp only [tyR]
  cases tyR env a <;> simp [tyT_bad]
theorem tyT_cond (env : List (Nm × Tr)) (a b c : Ex) : tyT env (.cond a b c) = (tyT env a).bind fun ta => (tyT env b).bind fun tb => (tyT env c).bind fun tc => if isNumT ta = true ∧ tb.text = tc.text then some tb else none := by
  unfold tyT; simp only [tyR]
  cases tyR env a <;> cases tyR env b <;> cases tyR env c <;> simp [tyT_bad]
theorem tyT_lete (env : List (Nm × Tr)) (x : Nm) (e b : Ex) : tyT env (.lete x e b) = (tyT env e).bind fun t => tyT ((x, t) :: env) b := by
  unfold tyT; simp only [tyR]
  cases tyR env e <;> simp
theorem tyT_func (env : List (Nm × Tr)) (f x : Nm) (A B : Tr) (e : Ex) : tyT env (.func f x A B e) = (mkT 62 A B).bind fun T => (tyT ((x, A) :: (f, T) :: env) e).bind fun t => if t.text = B.text then some T else none := by
  unfold tyT; simp only [tyR]
  cases mkT 62 A B with
  | none => simp
  | some T => cases h : tyR ((x, A) :: (f, T) :: env) e <;> simp [tyT_bad, h]
theorem inRm {bs l : List Nm} {s : Nm} : s ∈ rm bs l ↔ s ∈ l ∧ s ∉ bs := by simp [rm]
/-- A plain expression has the type that the expression has. -/
theorem plE_ty (free : List Nm) : ∀ (x : Ex) (m : List (Nm × Nm)) (k : Nat) (e1 e2 : List (Nm × Tr)), (∀ s ∈ freeP x, lookE e2 (lookR m s) = lookE e1 s) → (∀ s ∈ freeP x, lookR m s ∈ free ∨ ∃ j, j < k ∧ lookR m s = xName j) → tyT e2 (plE free m k x).1 = tyT e1 x
  | .name s, m, k, e1, e2, h1, h2 => by
    simp only [plE, tyT_name]
    exact h1 s (by simp [freeP])
  | .num n, m, k, e1, e2, h1, h2 => by simp [plE, tyT, tyR]
  | .two o a b, m, k, e1, e2, h1, h2 => by
    have u := (plE_used free a m k).1
    simp only [plE, tyT_two]
    rw [plE_ty free a m k e1 e2 (fun s hs => h1 s (by simp [freeP, hs])) (fun s hs => h2 s (by simp [freeP, hs])),
      plE_ty free b m _ e1 e2 (fun s hs => h1 s (by simp [freeP, hs])) (fun s hs => (h2 s (by simp [freeP, hs])).imp id fun ⟨j, hj, e⟩ => ⟨j, by omega, e⟩)]
  | .one o a, m, k, e1, e2, h1, h2 => by
    simp only [plE, tyT_one]
    rw [plE_ty free a m k e1 e2 h1 h2]
  | .cond a b c, m, k, e1, e2, h1, h2 => by
    have u := (plE_used free a m k).1
    have v := (plE_used free b m (plE free m k a).2).1
    simp only [plE, tyT_cond]
    rw [plE_ty free a m k e1 e2 (fun s hs => h1 s (by simp [freeP, hs])) (fun s hs => h2 s (by simp [freeP, hs])),
      plE_ty free b m _ e1 e2 (fun s hs => h1 s (by simp [freeP, hs])) (fun s hs => (h2 s (by simp [freeP, hs])).imp id fun ⟨j, hj, e⟩ => ⟨j, by omega, e⟩),
      plE_ty free c m _ e1 e2 (fun s hs => h1 s (by simp [freeP, hs])) (fun s hs => (h2 s (by simp [freeP, hs])).imp id fun ⟨j, hj, e⟩ => ⟨j, by omega, e⟩)]
  | .lete x e b, m, k, e1, e2, h1, h2 => by
    have u := (plE_used free e m (fresh free k + 1)).1
    have hk := (fresh_le free k).1
    have hn := fresh_new free k
    simp only [plE, tyT_lete]
    rw [plE_ty free e m _ e1 e2 (fun s hs => h1 s (by simp [freeP, hs])) (fun s hs => (h2 s (by simp [freeP, hs])).imp id fun ⟨j, hj, e⟩ => ⟨j, by omega, e⟩)]
    cases tyT e1 e with
    | none => rfl
    | some t =>
      simp only [Option.bind_some]
      refine plE_ty free b _ _ _ _ (fun s hs => ?_) (fun s hs => ?_)
      · by_cases hx : x = s
        · subst hx; simp [lookR, lookE]
        · have hs2 : s ∈ freeP (.lete x e b) := by simp only [freeP, List.mem_append, inRm, List.mem_singleton]; exact .inr ⟨hs, fun e => hx e.symm⟩
          have hne : xName (fresh free k) ≠ lookR m s := fun q => by
            rcases h2 s hs2 with h | ⟨j, hj, h⟩
            · rw [← q] at h; exact hn h
            · rw [← q] at h; have := xName_inj h; omega
          simp only [lookR, if_neg hx, lookE, if_neg hne]
          exact h1 s hs2
      · by_cases hx : x = s
        · exact .inr ⟨fresh free k, by omega, by simp [lookR, hx]⟩
        · have hs2 : s ∈ freeP (.lete x e b) := by simp only [freeP, List.mem_append, inRm, List.mem_singleton]; exact .inr ⟨hs, fun e => hx e.symm⟩
          simp only [lookR, if_neg hx]
          exact (h2 s hs2).imp id fun ⟨j, hj, e⟩ => ⟨j, by omega, e⟩
  | .func f x A B e, m, k, e1, e2, h1, h2 => by
    have hk := (fresh_le free k).1
    have hk2 := (fresh_le free (fresh free k + 1)).1
    have hn := fresh_new free k
    have hn2 := fresh_new free (fresh free k + 1)
    simp only [plE, tyT_func]
    cases mkT 62 A B with
    | none => rfl
    | some T =>
      simp only [Option.bind_some]
      have hfx : xName (fresh free (fresh free k + 1)) ≠ xName (fresh free k) := fun q => by have := xName_inj q; omega
      rw [plE_ty free e _ _ ((x, A) :: (f, T) :: e1) ((xName (fresh free (fresh free k + 1)), A) :: (xName (fresh free k), T) :: e2) (fun s hs => ?_) (fun s hs => ?_)]
      · by_cases hx : x = s
        · subst hx; simp [lookR, lookE]
        · by_cases hf : f = s
          · subst hf
            simp only [lookR, if_neg hx, if_true, lookE, if_neg hfx]
          · have hs2 : s ∈ freeP (.func f x A B e) := by simp only [freeP, inRm, List.mem_cons, List.not_mem_nil, or_false]; exact ⟨hs, fun q => by rcases q with q | q; exact hf q.symm; exact hx q.symm⟩
            have hne : xName (fresh free k) ≠ lookR m s := fun q => by
              rcases h2 s hs2 with h | ⟨j, hj, h⟩
              · rw [← q] at h; exact hn h
              · rw [← q] at h; have := xName_inj h; omega
            have hne2 : xName (fresh free (fresh free k + 1)) ≠ lookR m s := fun q => by
              rcases h2 s hs2 with h | ⟨j, hj, h⟩
              · rw [← q] at h; exact hn2 h
              · rw [← q] at h; have := xName_inj h; omega
            simp only [lookR, if_neg hx, if_neg hf, lookE, if_neg hne, if_neg hne2]
            exact h1 s hs2
      · by_cases hx : x = s
        · exact .inr ⟨fresh free (fresh free k + 1), by omega, by simp [lookR, hx]⟩
        · by_cases hf : f = s
          · exact .inr ⟨fresh free k, by omega, by simp [lookR, hx, hf]⟩
          · have hs2 : s ∈ freeP (.func f x A B e) := by simp only [freeP, inRm, List.mem_cons, List.not_mem_nil, or_false]; exact ⟨hs, fun q => by rcases q with q | q; exact hf q.symm; exact hx q.symm⟩
            simp only [lookR, if_neg hx, if_neg hf]
            exact (h2 s hs2).imp id fun ⟨j, hj, e⟩ => ⟨j, by omega, e⟩
theorem memA_foldA (n : Nm) : ∀ (P l : List Nm), n ∈ P.foldl addA l ↔ n ∈ l ∨ n ∈ P
  | [], l => by simp
  | a :: P, l => by
    simp only [List.foldl_cons, memA_foldA n P, List.mem_cons]
    unfold addA
    split
    · rename_i h
      constructor
      · rintro (h2 | h2); exact .inl h2; exact .inr (.inr h2)
      · rintro (h2 | rfl | h2); exact .inl h2; exact .inl h; exact .inr h2
    · simp [or_assoc]
/-- The type leans on the free names only. -/
theorem tyR_ext : ∀ (x : Ex) (e1 e2 : List (Nm × Tr)), (∀ s ∈ freeP x, lookE e1 s = lookE e2 s) → tyR e1 x = tyR e2 x
  | .name s, e1, e2, h => by simp only [tyR]; rw [h s (by simp [freeP])]
  | .num n, e1, e2, h => rfl
  | .two o a b, e1, e2, h => by
    simp only [tyR]
    rw [tyR_ext a e1 e2 (fun s hs => h s (by simp [freeP, hs])), tyR_ext b e1 e2 (fun s hs => h s (by simp [freeP, hs]))]
  | .one o a, e1, e2, h => by simp only [tyR]; rw [tyR_ext a e1 e2 h]
  | .cond a b c, e1, e2, h => by
    simp only [tyR]
    rw [tyR_ext a e1 e2 (fun s hs => h s (by simp [freeP, hs])), tyR_ext b e1 e2 (fun s hs => h s (by simp [freeP, hs])), tyR_ext c e1 e2 (fun s hs => h s (by simp [freeP, hs]))]
  | .lete x e b, e1, e2, h => by
    simp only [tyR]
    rw [tyR_ext e e1 e2 (fun s hs => h s (by simp [freeP, hs]))]
    cases tyR e2 e with
    | error f => rfl
    | ok t =>
      refine tyR_ext b _ _ (fun s hs => ?_)
      by_cases hx : x = s
      · simp [lookE, hx]
      · simp only [lookE, if_neg hx]
        exact h s (by simp only [freeP, List.mem_append, inRm, List.mem_singleton]; exact .inr ⟨hs, fun e => hx e.symm⟩)
  | .func f x A B e, e1, e2, h => by
    simp only [tyR]
    cases mkT 62 A B with
    | none => rfl
    | some T =>
      have : tyR ((x, A) :: (f, T) :: e1) e = tyR ((x, A) :: (f, T) :: e2) e := by
        refine tyR_ext e _ _ (fun s hs => ?_)
        by_cases hx : x = s
        · simp [lookE, hx]
        · by_cases hf : f = s
          · simp [lookE, hx, hf]
          · simp only [lookE, if_neg hx, if_neg hf]
            exact h s (by simp only [freeP, inRm, List.mem_cons, List.not_mem_nil, or_false]; exact ⟨hs, fun q => by rcases q with q | q; exact hf q.symm; exact hx q.symm⟩)
      simp only [this]
/-- What has a type has its free names in the environment. -/
theorem tyT_free : ∀ (x : Ex) (env : List (Nm × Tr)), (tyT env x).isSome = true → ∀ s ∈ freeP x, (lookE env s).isSome = true
  | .name s, env, h, n, hn => by
    simp only [freeP, List.mem_singleton] at hn
    subst hn
    rwa [tyT_name] at h
  | .num n, env, h, s, hs => by simp [freeP] at hs
  | .two o a b, env, h, s, hs => by
    rw [tyT_two] at h
    cases ha : tyT env a with
    | none => simp [ha] at h
    | some ta =>
      cases hb : tyT env b with
      | none => simp [ha, hb] at h
      | some tb =>
        simp only [freeP, List.mem_append] at hs
        rcases hs with hs | hs
        · exact tyT_free a env (by simp [ha]) s hs
        · exact tyT_free b env (by simp [hb]) s hs
  | .one o a, env, h, s, hs => by
    rw [tyT_one] at h
    cases ha : tyT env a with
    | none => simp [ha] at h
    | some ta => exact tyT_free a env (by simp [ha]) s hs
  | .cond a b c, env, h, s, hs => by
    rw [tyT_cond] at h
    cases ha : tyT env a with
    | none => simp [ha] at h
    | some ta =>
      cases hb : tyT env b with
      | none => simp [ha, hb] at h
      | some tb =>
        cases hc : tyT env c with
        | none => simp [ha, hb, hc] at h
        | some tc =>
          simp only [freeP, List.mem_append] at hs
          rcases hs with (hs | hs) | hs
          · exact tyT_free a env (by simp [ha]) s hs
          · exact tyT_free b env (by simp [hb]) s hs
          · exact tyT_free c env (by simp [hc]) s hs
  | .lete x e b, env, h, s, hs => by
    rw [tyT_lete] at h
    cases he : tyT env e with
    | none => simp [he] at h
    | some t =>
      simp only [he, Option.bind_some] at h
      simp only [freeP, List.mem_append, inRm, List.mem_singleton] at hs
      rcases hs with hs | ⟨hs, hx⟩
      · exact tyT_free e env (by simp [he]) s hs
      · have := tyT_free b _ h s hs
        simpa only [lookE, if_neg (fun q : x = s => hx q.symm)] using this
  | .func f x A B e, env, h, s, hs => by
    rw [tyT_func] at h
    cases hT : mkT 62 A B with
    | none => simp [hT] at h
    | some T =>
      simp only [hT, Option.bind_some] at h
      cases he : tyT ((x, A) :: (f, T) :: env) e with
      | none => simp [he] at h
      | some t =>
        simp only [freeP, inRm, List.mem_cons, List.not_mem_nil, or_false, not_or] at hs
        have := tyT_free e _ (by rw [he]; rfl) s hs.1
        simpa only [lookE, if_neg (fun q : x = s => hs.2.2 q.symm), if_neg (fun q : f = s => hs.2.1 q.symm)] using this
/-- The first fault is a part that has no type where it stands. -/
theorem err_at (P : Ex → Prop) (hP : ∀ y k, P y → k ∈ kidsE y → P k) : ∀ (x : Ex) (env : List (Nm × Tr)) (f : Ex), tyR env x = .error f → P x → (∀ s ∈ freeP x, (lookE env s).isSome = true) → P f ∧ ∃ env', tyR env' f = .error f ∧ ∀ s ∈ freeP f, (lookE env' s).isSome = true
  | .name s, env, f, h, hp, hf => by
    simp only [tyR] at h
    have := hf s (by simp [freeP])
    obtain ⟨t, ht⟩ := Option.isSome_iff_exists.1 this
    rw [ht] at h; cases h
  | .num n, env, f, h, hp, hf => by simp [tyR] at h
  | .two o a b, env, f, h, hp, hf => by
    have h' := h
    simp only [tyR] at h
    cases ha : tyR env a with
    | error g =>
      simp only [ha] at h
      injection h with h; subst h
      exact err_at P hP a env g ha (hP _ _ hp (by simp [kidsE])) (fun s hs => hf s (by simp [freeP, hs]))
    | ok ta =>
      cases hb : tyR env b with
      | error g =>
        simp only [ha, hb] at h
        injection h with h; subst h
        exact err_at P hP b env g hb (hP _ _ hp (by simp [kidsE])) (fun s hs => hf s (by simp [freeP, hs]))
      | ok tb =>
        simp only [ha, hb] at h
        cases hj : join2 o ta tb with
        | some t => rw [hj] at h; cases h
        | none =>
          rw [hj] at h
          injection h with h; subst h
          exact ⟨hp, env, h', hf⟩
  | .one o a, env, f, h, hp, hf => by
    have h' := h
    simp only [tyR] at h
    cases ha : tyR env a with
    | error g =>
      simp only [ha] at h
      injection h with h; subst h
      exact err_at P hP a env g ha (hP _ _ hp (by simp [kidsE])) (fun s hs => hf s (by simp [freeP, hs]))
    | ok ta =>
      simp only [ha] at h
      cases hj : join1 o ta with
      | some t => rw [hj] at h; cases h
      | none =>
        rw [hj] at h
        injection h with h; subst h
        exact ⟨hp, env, h', hf⟩
  | .cond a b c, env, f, h, hp, hf => by
    have h' := h
    simp only [tyR] at h
    cases ha : tyR env a with
    | error g =>
      simp only [ha] at h
      injection h with h; subst h
      exact err_at P hP a env g ha (hP _ _ hp (by simp [kidsE])) (fun s hs => hf s (by simp [freeP, hs]))
    | ok ta =>
      cases hb : tyR env b with
      | error g =>
        simp only [ha, hb] at h
        injection h with h; subst h
        exact err_at P hP b env g hb (hP _ _ hp (by simp [kidsE])) (fun s hs => hf s (by simp [freeP, hs]))
      | ok tb =>
        cases hc : tyR env c with
        | error g =>
          simp only [ha, hb, hc] at h
          injection h with h; subst h
          exact err_at P hP c env g hc (hP _ _ hp (by simp [kidsE])) (fun s hs => hf s (by simp [freeP, hs]))
        | ok tc =>
          simp only [ha, hb, hc] at h
          generalize (if isNumT ta = true ∧ tb.text = tc.text then some tb else none) = r at h
          cases r with
          | some t => cases h
          | none =>
            injection h with h; subst h
            exact ⟨hp, env, h', hf⟩
  | .lete x e b, env, f, h, hp, hf => by
    simp only [tyR] at h
    cases he : tyR env e with
    | error g =>
      simp only [he] at h
      injection h with h; subst h
      exact err_at P hP e env g he (hP _ _ hp (by simp [kidsE])) (fun s hs => hf s (by simp [freeP, hs]))
    | ok t =>
      simp only [he] at h
      refine err_at P hP b _ f h (hP _ _ hp (by simp [kidsE])) (fun s hs => ?_)
      by_cases hx : x = s
      · simp [lookE, hx]
      · simp only [lookE, if_neg hx]
        exact hf s (by simp only [freeP, List.mem_append, inRm, List.mem_singleton]; exact .inr ⟨hs, fun e => hx e.symm⟩)
  | .func g x A B e, env, f, h, hp, hf => by
    have h' := h
    simp only [tyR] at h
    cases hT : mkT 62 A B with
    | none =>
      simp only [hT] at h
      injection h with h; subst h
      exact ⟨hp, env, h', hf⟩
    | some T =>
      simp only [hT] at h
      cases he : tyR ((x, A) :: (g, T) :: env) e with
      | error u =>
        simp only [he] at h
        injection h with h; subst h
        refine err_at P hP e _ u he (hP _ _ hp (by simp [kidsE])) (fun s hs => ?_)
        by_cases hx : x = s
        · simp [lookE, hx]
        · by_cases hg : g = s
          · simp [lookE, hx, hg]
          · simp only [lookE, if_neg hx, if_neg hg]
            exact hf s (by simp only [freeP, inRm, List.mem_cons, List.not_mem_nil, or_false]; exact ⟨hs, fun q => by rcases q with q | q; exact hg q.symm; exact hx q.symm⟩)
      | ok t =>
        simp only [he] at h
        generalize (if t.text = B.text then some T else none) = r at h
        cases r with
        | some t => cases h
        | none =>
          injection h with h; subst h
          exact ⟨hp, env, h', hf⟩
end Go.Proofs.YtjncmmnbdabjnaaGreatDoor
