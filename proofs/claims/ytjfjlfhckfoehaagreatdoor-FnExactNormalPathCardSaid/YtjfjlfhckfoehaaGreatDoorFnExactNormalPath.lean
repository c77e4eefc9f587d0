/- The law FnExactNormalPath: for every input the call returns true, and each argument reads afterwards as it read before; the listed variables tied to the program's text. No condition besides. -/
import Derived.Test.YtjfjlfhckfoehaaGreatDoorFnExactNormalPathB
import Derived.Test.YtjfjlfhckfoehaaGreatDoorFnExactNormalPathA
import Derived.Test.YtjfjlfhckfoehaaGreatDoorRows
import Derived.Test.YtjfjlfhckfoehaaGreatDoorCards
import Derived.Test.YtjfjlfhckfoehaaGreatDoorTie
import Derived.Test.YtjfjlfhckfoehaaGreatDoorLawNe
import Derived.WalkKit
import Derived.ProofKit
import Derived.OpenShut
import Derived.ShutString
import Derived.LaidMore
import Derived.Stop.Joined
import Derived.SevenTiedAt
import Derived.LaidSub
import Derived.MakeChecks
import Derived.Lib.LaidTab
open Go.ChangeShapes Go.WideShapes Go.ChangeAt Go.RowKit
set_option linter.unusedVariables false
namespace Go.Proofs.YtjfjlfhckfoehaaGreatDoor
set_option maxHeartbeats 20000000 in
/-- The statement: the row, tied. -/
theorem proved_FnExactNormalPathCard : Rows.FnExactNormalPathCardSaid :=
  Claim7.holds_tied_plain_at .later [] [.data, .data, .data, .sentinel, .sentinel] true (true, "3aa0d068a4418b87761e6a5a423fff0747d21031ee7299986a9d072cdd6003f3") true
    fnExactNormalPath.over (fun _ h => by cases h) (by as_aux_lemma => kernel_rfl) (fun _ h => by cases h) fnExactNormalPath_row_tie rfl ⟨rfl, rfl⟩ (by as_aux_lemma => kernel_rfl) rfl
    (fun f fn hf hfn => by
      obtain rfl : f = 12 := Option.some.inj ((show Tryz.prog.funcNamed "loop.example/typedassembly/laws.FnExactNormalPath" = some 12 by as_aux_lemma => kernel_rfl).symm.trans hf) |>.symm
      obtain rfl : fn = Tryz.f12 := (Option.some.inj (Tryz.func12.symm.trans hfn)).symm
      exact ⟨by as_aux_lemma => kernel_rfl, fun j t ht => by
        rw [Tryz.params12] at ht
        have hm : t ∈ [9] := by simpa using Array.mem_of_getElem? ht
        have hall : ([9].all fun u => !Tryz.prog.wantsStandIn u) = true := by as_aux_lemma => kernel_rfl
        exact (show Tryz.prog.wantsStandIn t = false by simpa using List.all_eq_true.1 hall t hm)⟩)
    (by as_aux_lemma => kernel_rfl)
end Go.Proofs.YtjfjlfhckfoehaaGreatDoor
