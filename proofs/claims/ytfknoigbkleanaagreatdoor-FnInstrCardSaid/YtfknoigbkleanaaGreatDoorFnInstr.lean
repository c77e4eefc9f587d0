/- The law FnInstr: for every input the call returns true, and each argument reads afterwards as it read before; the listed variables tied to the program's text. No condition besides. -/
import Derived.Test.YtfknoigbkleanaaGreatDoorFnInstrB
import Derived.Test.YtfknoigbkleanaaGreatDoorFnInstrA
import Derived.Test.YtfknoigbkleanaaGreatDoorRows
import Derived.Test.YtfknoigbkleanaaGreatDoorCards
import Derived.Test.YtfknoigbkleanaaGreatDoorTie
import Derived.Test.YtfknoigbkleanaaGreatDoorLawIn
import Derived.WalkKit
import Derived.ProofKit
import Derived.OpenShut
import Derived.ShutString
import Derived.LaidMore
import Derived.Stop.Joined
import Derived.SevenTiedAt
import Derived.LaidSub
import Derived.MakeChecks
import Derived.Lib.LaidTab
open Go.ChangeShapes Go.WideShapes Go.ChangeAt Go.RowKit
set_option linter.unusedVariables false
namespace Go.Proofs.YtfknoigbkleanaaGreatDoor
set_option maxHeartbeats 20000000 in
/-- The statement: the row, tied. -/
theorem proved_FnInstrCard : Rows.FnInstrCardSaid :=
  Claim7.holds_tied_plain_at .later [] [.data, .data, .data, .sentinel, .sentinel] true (true, "7b5259cdce9e847da38d5f4f2401be2f8655766323a79fed6ba8767e23264430") true
    fnInstr.over (fun _ h => by cases h) (by as_aux_lemma => kernel_rfl) (fun _ h => by cases h) fnInstr_row_tie rfl ⟨rfl, rfl⟩ (by as_aux_lemma => kernel_rfl) rfl
    (fun f fn hf hfn => by
      obtain rfl : f = 7 := Option.some.inj ((show Tryz.prog.funcNamed "loop.example/typedassembly/laws.FnInstr" = some 7 by as_aux_lemma => kernel_rfl).symm.trans hf) |>.symm
      obtain rfl : fn = Tryz.f7 := (Option.some.inj (Tryz.func7.symm.trans hfn)).symm
      exact ⟨by as_aux_lemma => kernel_rfl, fun j t ht => by
        rw [Tryz.params7] at ht
        have hm : t ∈ [22] := by simpa using Array.mem_of_getElem? ht
        have hall : ([22].all fun u => !Tryz.prog.wantsStandIn u) = true := by as_aux_lemma => kernel_rfl
        exact (show Tryz.prog.wantsStandIn t = false by simpa using List.all_eq_true.1 hall t hm)⟩)
    (by as_aux_lemma => kernel_rfl)
end Go.Proofs.YtfknoigbkleanaaGreatDoor
