/- The plain mathematics of chapter 5: bare, simple and normal expressions; how many bindings; the way from binding to binding. -/
import Derived.Test.YtjfjlfhckfoehaaGreatDoorPureG
namespace Go.Proofs.YtjfjlfhckfoehaaGreatDoor
open Go.RowKit
set_option maxRecDepth 8000
set_option linter.unusedSimpArgs false
set_option linter.unusedVariables false
def bareB : Ex → Bool
  | .name _ => true
  | .num _ => true
  | _ => false
/-- Is an expression normal (true), or simple (false)? -/
def nrm : Bool → Ex → Bool
  | _, .name _ => true
  | _, .num _ => true
  | _, .two _ a b => bareB a && bareB b
  | _, .one _ a => bareB a
  | _, .cond a b d => bareB a && nrm true b && nrm true d
  | al, .lete _ a b => al && nrm false a && nrm true b
  | _, .func _ _ _ _ e => nrm true e
def notLet : Ex → Prop | .lete _ _ _ => False | _ => True
theorem nrm_any {x : Ex} (h : notLet x) (al : Bool) : nrm al x = nrm false x := by
  cases x <;> first | exact h.elim | simp only [nrm]
def bareOf (l : List UInt8) : Bool := (numOf l).isSome || isNm l
def nrmOf (al : Bool) (l : List UInt8) : Bool := match readEx l with | none => false | some x => nrm al x
theorem nrmOf_none {al : Bool} {l : List UInt8} (h : readEx l = none) : nrmOf al l = false := by simp [nrmOf, h]
theorem nrmOf_some {al : Bool} {l : List UInt8} {x : Ex} (h : readEx l = some x) : nrmOf al l = nrm al x := by simp [nrmOf, h]
/-- The expression that is a text, if it is normal. -/
def readNf (l : List UInt8) : Option Ex := (readEx l).filter (fun x => nrm true x)
theorem readNf_none {l : List UInt8} (h : readEx l = none) : readNf l = none := by simp [readNf, h]
theorem readNf_no {l : List UInt8} {x : Ex} (h : readEx l = some x) (hn : nrm true x = false) : readNf l = none := by simp [readNf, h, Option.filter, hn]
theorem readNf_some {l : List UInt8} {x : Ex} (h : readEx l = some x) (hn : nrm true x = true) : readNf l = some x := by simp [readNf, h, Option.filter, hn]
theorem readNf_got {l : List UInt8} {x : Ex} (h : readNf l = some x) : readEx l = some x ∧ nrm true x = true := by
  unfold readNf at h
  cases hr : readEx l with
  | none => simp [hr] at h
  | some y =>
    simp only [hr, Option.filter] at h
    split at h
    · simp only [Option.some.injEq] at h; subst h; exact ⟨rfl, by assumption⟩
    · cases h
theorem nrmOf_nf (l : List UInt8) : nrmOf true l = (readNf l).isSome := by
  cases hr : readEx l with
  | none => rw [nrmOf_none hr, readNf_none hr]; rfl
  | some x =>
    rw [nrmOf_some hr]
    cases hn : nrm true x with
    | false => rw [readNf_no hr hn]; rfl
    | true => rw [readNf_some hr hn]; rfl
/-- The bindings of an expression. -/
def letsE : Ex → Nat
  | .name _ => 0
  | .num _ => 0
  | .two _ a b => letsE a + letsE b
  | .one _ a => letsE a
  | .cond a b d => letsE a + letsE b + letsE d
  | .lete _ a b => 1 + letsE a + letsE b
  | .func _ _ _ _ e => letsE e
def letsOf (l : List UInt8) : Int := match readNf l with | none => -1 | some x => (letsE x : Int)
theorem letsOf_none {l : List UInt8} (h : readNf l = none) : letsOf l = -1 := by simp [letsOf, h]
theorem letsOf_some {l : List UInt8} {x : Ex} (h : readNf l = some x) : letsOf l = (letsE x : Int) := by simp [letsOf, h]
/-- The names bound at the beginning, and what is behind them. -/
def pathE : Ex → List Nm × Ex
  | .lete s a b => (s :: (pathE b).1, (pathE b).2)
  | x => ([], x)
theorem pathE_no {x : Ex} (h : notLet x) : pathE x = ([], x) := by
  cases x <;> first | exact h.elim | rfl
theorem nf_num_wf {l : List UInt8} {n : Int} (h : numOf l = some n) : (Tr.atom l).wf ∧ l.length ≤ 4 := by
  by_cases h0 : l = [48]
  · subst h0; exact ⟨⟨by decide, by decide⟩, by decide⟩
  · by_cases hc : 1 ≤ (digitsOf l).length ∧ (digitsOf l).length ≤ 3 ∧ (digitsOf l).head? ≠ some 48
    · rw [numOf_yes h0 hc] at h
      have hl := digitsOf_len l
      refine ⟨⟨fun e => by subst e; simp [digitsOf] at hc, ?_⟩, by omega⟩
      have hall : ∀ b ∈ digitsOf l, isAB b = true := fun b hb => by
        obtain ⟨k, hk, rfl⟩ := List.getElem_of_mem hb
        cases hv : Lib.digitVal (digitsOf l)[k] with
        | none =>
          rw [decFrom_bad (digitsOf l) 0 k _ (List.getElem?_eq_getElem hk) hv] at h
          cases h
        | some d =>
          have h2 := (digit_back hv)
          rw [← h2.2]
          have h3 := h2.1
          have : ∀ d : Nat, d < 10 → isAB (UInt8.ofNat (48 + d)) = true := by decide
          exact this d h3
      intro b hb
      cases l with
      | nil => cases hb
      | cons c r =>
        simp only [digitsOf] at hall
        split at hall
        · rename_i hc45
          rcases List.mem_cons.1 hb with rfl | hb
          · rw [hc45]; decide
          · exact hall b hb
        · exact hall b hb
    · rw [numOf_no h0 hc] at h; cases h
theorem nf_nm_wf {l : List UInt8} (h : isNm l = true) : (Tr.atom l).wf ∧ l.length ≤ 4 := by
  cases l with
  | nil => simp [isNm] at h
  | cons b r =>
    simp only [isNm, Bool.and_eq_true, decide_eq_true_eq] at h
    obtain ⟨⟨h1, h2, h3⟩, h4⟩ := h
    obtain ⟨m, hm⟩ := Option.isSome_iff_exists.1 h4
    refine ⟨⟨by simp, fun c hc => ?_⟩, by simp; omega⟩
    rcases List.mem_cons.1 hc with rfl | hc
    · have : ∀ d : Nat, 97 ≤ d → d ≤ 122 → isAB (UInt8.ofNat d) = true := by
        intro d e1 e2
        have : ∀ k : Fin 26, isAB (UInt8.ofNat (97 + k.val)) = true := by decide
        have h5 := this ⟨d - 97, by omega⟩
        rwa [show 97 + (d - 97) = d by omega] at h5
      have h5 := this c.toNat h2 h3
      rwa [UInt8.ofNat_toNat] at h5
    · obtain ⟨k, hk, rfl⟩ := List.getElem_of_mem hc
      cases hv : Lib.digitVal r[k] with
      | none =>
        rw [decFrom_bad r 0 k _ (List.getElem?_eq_getElem hk) hv] at hm
        cases hm
      | some d =>
        have h5 := digit_back hv
        rw [← h5.2]
        have : ∀ d : Nat, d < 10 → isAB (UInt8.ofNat (48 + d)) = true := by decide
        exact this d h5.1
/-- A text that is a name or a numeral, or an expression that is bare. -/
theorem bareOf_read (l : List UInt8) : bareOf l = match readEx l with | none => false | some x => bareB x := by
  cases hn : numOf l with
  | some n =>
    obtain ⟨h1, h2⟩ := nf_num_wf hn
    have hp : parse l = some (.atom l) := parse_text (t := .atom l) h1 (by simp [Tr.bytes]; omega) (by simp [Tr.depth])
    rw [readEx_some hp, if_pos (by simp [Tr.size])]
    simp [asEx, atomEx, hn, bareB, bareOf]
  | none =>
    cases hm : isNm l with
    | true =>
      obtain ⟨h1, h2⟩ := nf_nm_wf hm
      have hp : parse l = some (.atom l) := parse_text (t := .atom l) h1 (by simp [Tr.bytes]; omega) (by simp [Tr.depth])
      rw [readEx_some hp, if_pos (by simp [Tr.size])]
      simp [asEx, atomEx, hn, hm, bareB, bareOf]
    | false =>
      rw [show bareOf l = false by simp [bareOf, hn, hm]]
      cases hr : readEx l with
      | none => rfl
      | some x =>
        cases hb : bareB x with
        | false => exact hb.symm
        | true =>
          exfalso
          unfold readEx at hr
          cases hp : parse l with
          | none => simp [hp] at hr
          | some t =>
            simp only [hp] at hr
            split at hr
            · have hl := (parse_got hp).2.2.2
              have ht := formOf_eq _ _ hr
              cases x with
              | name s =>
                have g := good_nm (good_of hr)
                rw [← ht] at hl
                simp only [formOf, Tr.text] at hl
                rw [hl, g] at hm
                cases hm
              | num n =>
                have g := (good_num (good_of hr)).2
                rw [← ht] at hl
                simp only [formOf, Tr.text] at hl
                rw [hl, g] at hn
                cases hn
              | _ => simp [bareB] at hb
            · cases hr
end Go.Proofs.YtjfjlfhckfoehaaGreatDoor
