/- The reference model reads a whole text. The reference model's measures and types. The reference model's types. -/
import Derived.Test.YtjfjlfhckfoehaaDoorSpec1a
import Derived.Test.YtjfjlfhckfoehaaDoorB1
namespace Go.Proofs.YtjfjlfhckfoehaaDoor
open Go.RowKit
set_option maxRecDepth 8000
set_option linter.unusedSimpArgs false
set_option linter.unusedVariables false
/-- What reading a whole text hands back. -/
def ParsePost (B : Nat) (res : Option Tr) (e : Ending) (w' : World) : Prop :=
  match res with
  | none => ∃ a p n c, e = .returned (.tuple #[.agg #[.string a, .slice p n c], .bool false]) ∧ n ≤ maxLen
  | some t => ∃ p n c, e = .returned (.tuple #[.agg (nS t (.slice p n c)).toArray, .bool true]) ∧ FV nS w' (fun k => B ≤ k ∧ k < w'.heap.size) t (nS t (.slice p n c))
theorem parse_none_longS {l : List UInt8} (h : 12000 < l.length) : parse l = none := by simp [parse, h]
theorem parse_readS {l : List UInt8} (h : ¬ 12000 < l.length) : parse l = (match read 61 l with | some (t, []) => some t | _ => none) := by unfold parse; rw [if_neg h]; rfl
end Go.Proofs.YtjfjlfhckfoehaaDoor
namespace Go.Proofs.YtjfjlfhckfoehaaDoor
open Go.RowKit
set_option linter.unusedSimpArgs false
set_option linter.unusedVariables false
theorem atomne {a : List UInt8} (h : a ≠ []) : (!(bs a).toList.isEmpty) = true := by simp [bs_toList, h]
theorem emptyne : (!(bs []).toList.isEmpty) = false := by simp [bs_toList]

end Go.Proofs.YtjfjlfhckfoehaaDoor
namespace Go.Proofs.YtjfjlfhckfoehaaDoor
open Go.RowKit
set_option linter.unusedSimpArgs false
set_option linter.unusedVariables false
theorem bs_eq (a b : List UInt8) : ((bs a).toList == b) = (a == b) := by rw [bs_toList]
end Go.Proofs.YtjfjlfhckfoehaaDoor
