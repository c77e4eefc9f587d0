/-
  No cell of these rows narrows 'for every input' (looked for: loops, veiled, ifaces, maps, wideKeys, modest, calm, conditions, laid).
  DERIVED. THE GIVEN ROWS OF THIS SEAT. 5 by the template 'for every input the law returns true; each argument reads behind the call as it read before'; 0 by the template 'total and deterministic' (their statements: YtgliggljegghhaaTotals.lean).
  GIVEN WITH THE SEED: the statements are not yours to turn. If you find one false, say at which input.
  Laid BY PROGRAM, IN A SANDBOX (cutbox-rows.mjs): the forced cells as the released guide's own fill.sh prints them over the translation fb6c885f1aa25417… (all of the seat's roots in one cut). By AI agents, Wed Nov 11 2026. No macro, syntax, notation, axiom, sorry.
-/
import Derived.Test.YtgliggljegghhaaChecked
import GoSem.Claim
import GoSem.ClaimJoined
import GoSem.ClaimMapViews
import Derived.JoinedTies
import Derived.KernelRfl
namespace Go.Proofs.Ytgliggljegghhaa
/- THE CELL 'sum', in the pinned program and in every row, IS THE sha256 OF THE DUMP (.gsa) THAT YtgliggljegghhaaProg.lean LOADS. Nothing in Lean hashes anything: it is a label: what it is worth is what the hold of that sum in a sandbox is worth. -/
noncomputable def Try.pinned : Pinned := { name := "ytgliggljegghhaa", sum := "fb6c885f1aa254175f66f4aaa14b93c1fcfedc949f30f52bac10e3cccbe04397", checked := Try.checked }
namespace Rows
def none {H : Type} : Left H := { results := [], args := [] }

/-- 'laws.FnExactTypeFun': WHATEVER THE INPUT: true; the input reads as it did. -/
def fnExactTypeFunSpec : ChangeSpec := { name := "fnExactTypeFun", fn := fun _ => fun
  | [d] => { results := [.lit (.bool true)], args := [d] }
  | _ => none }
def fnExactTypeFunRow : OpenClaim := { program := "ytgliggljegghhaa", sum := "fb6c885f1aa254175f66f4aaa14b93c1fcfedc949f30f52bac10e3cccbe04397", func := "loop.example/typedassembly/laws.FnExactTypeFun", spec := "fnExactTypeFun", inPlace := ["internal/abi.NoEscape", "internal/bytealg.MakeNoZero"], recurses := true, apart := false }
def FnExactTypeFunSaid : Prop := fnExactTypeFunRow.holds Try.pinned (OpenSpec.ofChange fnExactTypeFunSpec)

/-- ITS FALSE NEIGHBOUR: 'it returns false'. Refute it at one input. -/
def fnExactTypeFunWrong : ChangeSpec := { name := "fnExactTypeFun", fn := fun _ => fun
  | [d] => { results := [.lit (.bool false)], args := [d] }
  | _ => none }
def FnExactTypeFunWrongFalsely : Prop := fnExactTypeFunRow.holds Try.pinned (OpenSpec.ofChange fnExactTypeFunWrong)

/-- 'laws.FnExactTypePair': WHATEVER THE INPUT: true; the input reads as it did. -/
def fnExactTypePairSpec : ChangeSpec := { name := "fnExactTypePair", fn := fun _ => fun
  | [d] => { results := [.lit (.bool true)], args := [d] }
  | _ => none }
def fnExactTypePairRow : OpenClaim := { program := "ytgliggljegghhaa", sum := "fb6c885f1aa254175f66f4aaa14b93c1fcfedc949f30f52bac10e3cccbe04397", func := "loop.example/typedassembly/laws.FnExactTypePair", spec := "fnExactTypePair", inPlace := ["internal/abi.NoEscape", "internal/bytealg.MakeNoZero"], recurses := true, apart := false }
def FnExactTypePairSaid : Prop := fnExactTypePairRow.holds Try.pinned (OpenSpec.ofChange fnExactTypePairSpec)

/-- ITS FALSE NEIGHBOUR: 'it returns false'. Refute it at one input. -/
def fnExactTypePairWrong : ChangeSpec := { name := "fnExactTypePair", fn := fun _ => fun
  | [d] => { results := [.lit (.bool false)], args := [d] }
  | _ => none }
def FnExactTypePairWrongFalsely : Prop := fnExactTypePairRow.holds Try.pinned (OpenSpec.ofChange fnExactTypePairWrong)

/-- 'laws.FnExactTypeMake': WHATEVER THE INPUT: true; the input reads as it did. -/
def fnExactTypeMakeSpec : ChangeSpec := { name := "fnExactTypeMake", fn := fun _ => fun
  | [d1, d2, d3] => { results := [.lit (.bool true)], args := [d1, d2, d3] }
  | _ => none }
def fnExactTypeMakeRow : OpenClaim := { program := "ytgliggljegghhaa", sum := "fb6c885f1aa254175f66f4aaa14b93c1fcfedc949f30f52bac10e3cccbe04397", func := "loop.example/typedassembly/laws.FnExactTypeMake", spec := "fnExactTypeMake", inPlace := ["internal/abi.NoEscape", "internal/bytealg.MakeNoZero"], recurses := true, apart := false }
def FnExactTypeMakeSaid : Prop := fnExactTypeMakeRow.holds Try.pinned (OpenSpec.ofChange fnExactTypeMakeSpec)

/-- ITS FALSE NEIGHBOUR: 'it returns false'. Refute it at one input. -/
def fnExactTypeMakeWrong : ChangeSpec := { name := "fnExactTypeMake", fn := fun _ => fun
  | [d1, d2, d3] => { results := [.lit (.bool false)], args := [d1, d2, d3] }
  | _ => none }
def FnExactTypeMakeWrongFalsely : Prop := fnExactTypeMakeRow.holds Try.pinned (OpenSpec.ofChange fnExactTypeMakeWrong)

/-- 'laws.FnExactEnvValid': WHATEVER THE INPUT: true; the input reads as it did. -/
def fnExactEnvValidSpec : ChangeSpec := { name := "fnExactEnvValid", fn := fun _ => fun
  | [d1, d2] => { results := [.lit (.bool true)], args := [d1, d2] }
  | _ => none }
def fnExactEnvValidRow : OpenClaim := { program := "ytgliggljegghhaa", sum := "fb6c885f1aa254175f66f4aaa14b93c1fcfedc949f30f52bac10e3cccbe04397", func := "loop.example/typedassembly/laws.FnExactEnvValid", spec := "fnExactEnvValid", recurses := true, apart := false }
def FnExactEnvValidSaid : Prop := fnExactEnvValidRow.holds Try.pinned (OpenSpec.ofChange fnExactEnvValidSpec)

/-- ITS FALSE NEIGHBOUR: 'it returns false'. Refute it at one input. -/
def fnExactEnvValidWrong : ChangeSpec := { name := "fnExactEnvValid", fn := fun _ => fun
  | [d1, d2] => { results := [.lit (.bool false)], args := [d1, d2] }
  | _ => none }
def FnExactEnvValidWrongFalsely : Prop := fnExactEnvValidRow.holds Try.pinned (OpenSpec.ofChange fnExactEnvValidWrong)

/-- 'laws.FnExactEnvLook': WHATEVER THE INPUT: true; the input reads as it did. -/
def fnExactEnvLookSpec : ChangeSpec := { name := "fnExactEnvLook", fn := fun _ => fun
  | [d1, d2, d3] => { results := [.lit (.bool true)], args := [d1, d2, d3] }
  | _ => none }
def fnExactEnvLookRow : OpenClaim := { program := "ytgliggljegghhaa", sum := "fb6c885f1aa254175f66f4aaa14b93c1fcfedc949f30f52bac10e3cccbe04397", func := "loop.example/typedassembly/laws.FnExactEnvLook", spec := "fnExactEnvLook", inPlace := ["internal/abi.NoEscape", "internal/bytealg.MakeNoZero"], recurses := true, apart := false }
def FnExactEnvLookSaid : Prop := fnExactEnvLookRow.holds Try.pinned (OpenSpec.ofChange fnExactEnvLookSpec)

/-- ITS FALSE NEIGHBOUR: 'it returns false'. Refute it at one input. -/
def fnExactEnvLookWrong : ChangeSpec := { name := "fnExactEnvLook", fn := fun _ => fun
  | [d1, d2, d3] => { results := [.lit (.bool false)], args := [d1, d2, d3] }
  | _ => none }
def FnExactEnvLookWrongFalsely : Prop := fnExactEnvLookRow.holds Try.pinned (OpenSpec.ofChange fnExactEnvLookWrong)

/- THE SECOND FORM. 'bulk': how many values and letters a reading holds, each counted each time it is reached (what is shared counts as often as it is met; a slice's spare places count too). A statement '..UptoSaid' is the law's where the arguments, and the package variables that the reading takes, are together of bulk at most 1048576: NARROWER than '..Said'. Prove '..Said' where nothing that the law and all that it calls make is longer than what came in: it says more and counts as full. Else prove '..UptoSaid'. A law counts once. -/
mutual
def uptoBulk {H : Type} : DataW H → Nat
  | .lit (.string bytes) => bytes.length + 1
  | .lit _ => 1
  | .nil => 1
  | .ptr d => uptoBulk d + 1
  | .slice elems spare => uptoBulkAll elems + uptoBulkAll spare + 1
  | .agg parts => uptoBulkAll parts + 1
  | .iface _ d => uptoBulk d + 1
  | .map entries => uptoBulkEntries entries + 1
  | .held _ => 1
def uptoBulkAll {H : Type} : List (DataW H) → Nat
  | [] => 0
  | d :: r => uptoBulk d + uptoBulkAll r
def uptoBulkEntries {H : Type} : List (Lit × DataW H) → Nat
  | [] => 0
  | x :: r => uptoBulkEntry x + uptoBulkEntries r
def uptoBulkEntry {H : Type} : Lit × DataW H → Nat
  | (.string bytes, d) => bytes.length + uptoBulk d + 1
  | (_, d) => uptoBulk d + 1
 end
def uptoSmall : (H : Type) → List (DataW H) → Bool := fun _ ds => decide (uptoBulkAll ds ≤ 1048576)
def OpenSpec.upto (s : _root_.Go.ChangeSpec) : _root_.Go.OpenSpec := { _root_.Go.OpenSpec.ofChange s with cond := some uptoSmall }

/-- 'laws.FnExactTypeFun', WHERE WHAT IT READS IS OF BULK AT MOST 1048576: true; the input reads as it did. -/
def fnExactTypeFunUptoRow : OpenClaim := { program := "ytgliggljegghhaa", sum := "fb6c885f1aa254175f66f4aaa14b93c1fcfedc949f30f52bac10e3cccbe04397", func := "loop.example/typedassembly/laws.FnExactTypeFun", spec := "fnExactTypeFun", inPlace := ["internal/abi.NoEscape", "internal/bytealg.MakeNoZero"], recurses := true, apart := false, narrowed := true }
def FnExactTypeFunUptoSaid : Prop := fnExactTypeFunUptoRow.holds Try.pinned (OpenSpec.upto fnExactTypeFunSpec)

/-- 'laws.FnExactTypePair', WHERE WHAT IT READS IS OF BULK AT MOST 1048576: true; the input reads as it did. -/
def fnExactTypePairUptoRow : OpenClaim := { program := "ytgliggljegghhaa", sum := "fb6c885f1aa254175f66f4aaa14b93c1fcfedc949f30f52bac10e3cccbe04397", func := "loop.example/typedassembly/laws.FnExactTypePair", spec := "fnExactTypePair", inPlace := ["internal/abi.NoEscape", "internal/bytealg.MakeNoZero"], recurses := true, apart := false, narrowed := true }
def FnExactTypePairUptoSaid : Prop := fnExactTypePairUptoRow.holds Try.pinned (OpenSpec.upto fnExactTypePairSpec)

/-- 'laws.FnExactTypeMake', WHERE WHAT IT READS IS OF BULK AT MOST 1048576: true; the input reads as it did. -/
def fnExactTypeMakeUptoRow : OpenClaim := { program := "ytgliggljegghhaa", sum := "fb6c885f1aa254175f66f4aaa14b93c1fcfedc949f30f52bac10e3cccbe04397", func := "loop.example/typedassembly/laws.FnExactTypeMake", spec := "fnExactTypeMake", inPlace := ["internal/abi.NoEscape", "internal/bytealg.MakeNoZero"], recurses := true, apart := false, narrowed := true }
def FnExactTypeMakeUptoSaid : Prop := fnExactTypeMakeUptoRow.holds Try.pinned (OpenSpec.upto fnExactTypeMakeSpec)

/-- 'laws.FnExactEnvValid', WHERE WHAT IT READS IS OF BULK AT MOST 1048576: true; the input reads as it did. -/
def fnExactEnvValidUptoRow : OpenClaim := { program := "ytgliggljegghhaa", sum := "fb6c885f1aa254175f66f4aaa14b93c1fcfedc949f30f52bac10e3cccbe04397", func := "loop.example/typedassembly/laws.FnExactEnvValid", spec := "fnExactEnvValid", recurses := true, apart := false, narrowed := true }
def FnExactEnvValidUptoSaid : Prop := fnExactEnvValidUptoRow.holds Try.pinned (OpenSpec.upto fnExactEnvValidSpec)

/-- 'laws.FnExactEnvLook', WHERE WHAT IT READS IS OF BULK AT MOST 1048576: true; the input reads as it did. -/
def fnExactEnvLookUptoRow : OpenClaim := { program := "ytgliggljegghhaa", sum := "fb6c885f1aa254175f66f4aaa14b93c1fcfedc949f30f52bac10e3cccbe04397", func := "loop.example/typedassembly/laws.FnExactEnvLook", spec := "fnExactEnvLook", inPlace := ["internal/abi.NoEscape", "internal/bytealg.MakeNoZero"], recurses := true, apart := false, narrowed := true }
def FnExactEnvLookUptoSaid : Prop := fnExactEnvLookUptoRow.holds Try.pinned (OpenSpec.upto fnExactEnvLookSpec)

end Rows
end Go.Proofs.Ytgliggljegghhaa
