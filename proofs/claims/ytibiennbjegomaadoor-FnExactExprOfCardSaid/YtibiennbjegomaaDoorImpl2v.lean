/- The program: expressions as texts; the kids of a text. -/
import Derived.Test.YtibiennbjegomaaDoorImpl2u
import Derived.Test.YtibiennbjegomaaDoorImpl1j
import Derived.Test.YtibiennbjegomaaDoorI2p
namespace Go.Proofs.YtibiennbjegomaaDoor
open Go.RowKit
set_option maxRecDepth 8000
set_option linter.unusedSimpArgs false
set_option linter.unusedVariables false
theorem nm_len {a : List UInt8} (h : isNm a = true) : a.length ≤ 4 := by
  cases a with
  | nil => simp
  | cons c r => simp only [isNm, Bool.and_eq_true, decide_eq_true_eq] at h; simp only [List.length_cons]; omega
def oksE : List Ex → Prop
  | [] => True
  | e :: es => exOK e ∧ oksE es
mutual
theorem asEx_ok : ∀ (t : Tr) (x : Ex), asEx t = some x → exOK x
  | .atom a, x, h => by
    simp only [asEx, atomEx] at h
    cases hn : numOf a with
    | some n => simp only [hn, Option.some.injEq] at h; subst h; exact numOf_range hn
    | none =>
      simp only [hn] at h
      split at h
      · rename_i hm; simp only [Option.some.injEq] at h; subst h; exact nm_len hm
      · cases h
  | .list [], x, h => by simp [asEx, asExs] at h
  | .list (h0 :: ps), x, h => by
    simp only [asEx, asExs] at h
    split at h
    · match ps, h with
      | [x0, e0, b0], h =>
        simp only [asLetE] at h
        split at h
        · rename_i hx
          split at h
          · cases h
          · rename_i e' he
            split at h
            · cases h
            · rename_i b' hb
              simp only [Option.some.injEq] at h
              subst h
              exact ⟨nm_len hx, asEx_ok e0 e' he, asEx_ok b0 b' hb⟩
        · cases h
      | [], h => cases h
      | [_], h => cases h
      | [_, _], h => cases h
      | _ :: _ :: _ :: _ :: _, h => cases h
    · split at h
      · match ps, h with
        | [f0, x0, A0, B0, e0], h =>
          simp only [asFunE] at h
          split at h
          · rename_i hx
            simp only [Bool.and_eq_true] at hx
            split at h
            · cases h
            · rename_i e' he
              simp only [Option.some.injEq] at h
              subst h
              exact ⟨nm_len hx.1.1.1.1, nm_len hx.1.1.1.2, asEx_ok e0 e' he⟩
          · cases h
        | [], h => cases h
        | [_], h => cases h
        | [_, _], h => cases h
        | [_, _, _], h => cases h
        | [_, _, _, _], h => cases h
        | _ :: _ :: _ :: _ :: _ :: _ :: _, h => cases h
      · cases hk : kidsEx ps with
        | none => simp [hk] at h
        | some es =>
          simp only [hk, Option.bind_some] at h
          have hp := kidsEx_ok ps es hk
          match es, h, hp with
          | [], h, hp => cases h
          | [a], h, hp =>
            simp only [mkHead, Option.map_eq_some_iff] at h
            obtain ⟨o, ho, rfl⟩ := h
            exact hp.1
          | [a, b], h, hp =>
            simp only [mkHead, Option.map_eq_some_iff] at h
            obtain ⟨o, ho, rfl⟩ := h
            exact ⟨hp.1, hp.2.1⟩
          | [a, b, c], h, hp =>
            simp only [mkHead] at h
            split at h
            · simp only [Option.some.injEq] at h; subst h; exact ⟨hp.1, hp.2.1, hp.2.2.1⟩
            · cases h
          | _ :: _ :: _ :: _ :: _, h, hp => cases h
theorem kidsEx_ok : ∀ (ts : List Tr) (es : List Ex), kidsEx ts = some es → oksE es
  | [], es, h => by simp only [kidsEx, Option.some.injEq] at h; subst h; trivial
  | t :: ts, es, h => by
    simp only [kidsEx] at h
    split at h
    · cases h
    · rename_i e he
      split at h
      · cases h
      · rename_i es' hs
        simp only [Option.some.injEq] at h
        subst h
        exact ⟨asEx_ok t e he, kidsEx_ok ts es' hs⟩
end
/-- The texts of the kids of the expression that is a text. -/
def kidsTx (l : List UInt8) : Option (List Nm) := (readEx l).map (fun x => (kidsE x).map (fun k => (formOf k).text))
theorem kidsTx_none {l : List UInt8} (h : readEx l = none) : kidsTx l = none := by simp [kidsTx, h]
theorem kidsTx_some {l : List UInt8} {x : Ex} (h : readEx l = some x) : kidsTx l = some ((kidsE x).map (fun k => (formOf k).text)) := by simp [kidsTx, h]
theorem readEx_tree {l : List UInt8} {x : Ex} (h : readEx l = some x) : (formOf x).wf ∧ (formOf x).bytes ≤ 12000 ∧ exOK x := by
  cases hp : parse l with
  | none => rw [readEx_none hp] at h; cases h
  | some t =>
    rw [readEx_some hp] at h
    split at h
    · have hg := parse_got hp
      rw [formOf_eq t x h]
      exact ⟨hg.1, hg.2.1, asEx_ok t x h⟩
    · cases h
end Go.Proofs.YtibiennbjegomaaDoor
