/-
  No cell of these rows narrows 'for every input' (looked for: loops, veiled, ifaces, maps, wideKeys, modest, calm, conditions, laid).
  DERIVED. THE GIVEN ROWS OF THIS SEAT. 8 by the template 'for every input the law returns true; each argument reads behind the call as it read before'; 0 by the template 'total and deterministic' (their statements: YtaoicbmepliklaaTotals.lean).
  GIVEN WITH THE SEED: the statements are not yours to turn. If you find one false, say at which input.
  Laid BY PROGRAM, IN A SANDBOX (cutbox-rows.mjs): the forced cells as the released guide's own fill.sh prints them over the translation fd80d4154a5859da… (all of the seat's roots in one cut). By AI agents, Wed Nov 11 2026. No macro, syntax, notation, axiom, sorry.
-/
import Derived.Test.YtaoicbmepliklaaChecked
import GoSem.Claim
import GoSem.ClaimJoined
import GoSem.ClaimMapViews
import Derived.JoinedTies
import Derived.KernelRfl
namespace Go.Proofs.Ytaoicbmepliklaa
/- THE CELL 'sum', in the pinned program and in every row, IS THE sha256 OF THE DUMP (.gsa) THAT YtaoicbmepliklaaProg.lean LOADS. Nothing in Lean hashes anything: it is a label: what it is worth is what the hold of that sum in a sandbox is worth. -/
noncomputable def Try.pinned : Pinned := { name := "ytaoicbmepliklaa", sum := "fd80d4154a5859dabf57d6a66b7d7a0a77fad37aa4d80de391c992d3bf25fd3c", checked := Try.checked }
namespace Rows
def none {H : Type} : Left H := { results := [], args := [] }

/-- 'laws.FnExactTargetValid': WHATEVER THE INPUT: true; the input reads as it did. -/
def fnExactTargetValidSpec : ChangeSpec := { name := "fnExactTargetValid", fn := fun _ => fun
  | [d] => { results := [.lit (.bool true)], args := [d] }
  | _ => none }
def fnExactTargetValidRow : OpenClaim := { program := "ytaoicbmepliklaa", sum := "fd80d4154a5859dabf57d6a66b7d7a0a77fad37aa4d80de391c992d3bf25fd3c", func := "loop.example/typedassembly/laws.FnExactTargetValid", spec := "fnExactTargetValid", unfollowed := true, recurses := true, plainKeys := false, apart := false }
def FnExactTargetValidSaid : Prop := fnExactTargetValidRow.holds Try.pinned (OpenSpec.ofChange fnExactTargetValidSpec)

/-- ITS FALSE NEIGHBOUR: 'it returns false'. Refute it at one input. -/
def fnExactTargetValidWrong : ChangeSpec := { name := "fnExactTargetValid", fn := fun _ => fun
  | [d] => { results := [.lit (.bool false)], args := [d] }
  | _ => none }
def FnExactTargetValidWrongFalsely : Prop := fnExactTargetValidRow.holds Try.pinned (OpenSpec.ofChange fnExactTargetValidWrong)

/-- 'laws.FnExactTargetOf': WHATEVER THE INPUT: true; the input reads as it did. -/
def fnExactTargetOfSpec : ChangeSpec := { name := "fnExactTargetOf", fn := fun _ => fun
  | [d] => { results := [.lit (.bool true)], args := [d] }
  | _ => none }
def fnExactTargetOfRow : OpenClaim := { program := "ytaoicbmepliklaa", sum := "fd80d4154a5859dabf57d6a66b7d7a0a77fad37aa4d80de391c992d3bf25fd3c", func := "loop.example/typedassembly/laws.FnExactTargetOf", spec := "fnExactTargetOf", inPlace := ["internal/abi.NoEscape", "internal/bytealg.MakeNoZero"], recurses := true, plainKeys := false, apart := false }
def FnExactTargetOfSaid : Prop := fnExactTargetOfRow.holds Try.pinned (OpenSpec.ofChange fnExactTargetOfSpec)

/-- ITS FALSE NEIGHBOUR: 'it returns false'. Refute it at one input. -/
def fnExactTargetOfWrong : ChangeSpec := { name := "fnExactTargetOf", fn := fun _ => fun
  | [d] => { results := [.lit (.bool false)], args := [d] }
  | _ => none }
def FnExactTargetOfWrongFalsely : Prop := fnExactTargetOfRow.holds Try.pinned (OpenSpec.ofChange fnExactTargetOfWrong)

/-- 'laws.FnExactTargetNext': WHATEVER THE INPUT: true; the input reads as it did. -/
def fnExactTargetNextSpec : ChangeSpec := { name := "fnExactTargetNext", fn := fun _ => fun
  | [d] => { results := [.lit (.bool true)], args := [d] }
  | _ => none }
def fnExactTargetNextRow : OpenClaim := { program := "ytaoicbmepliklaa", sum := "fd80d4154a5859dabf57d6a66b7d7a0a77fad37aa4d80de391c992d3bf25fd3c", func := "loop.example/typedassembly/laws.FnExactTargetNext", spec := "fnExactTargetNext", inPlace := ["internal/abi.NoEscape", "internal/bytealg.MakeNoZero"], recurses := true, plainKeys := false, apart := false }
def FnExactTargetNextSaid : Prop := fnExactTargetNextRow.holds Try.pinned (OpenSpec.ofChange fnExactTargetNextSpec)

/-- ITS FALSE NEIGHBOUR: 'it returns false'. Refute it at one input. -/
def fnExactTargetNextWrong : ChangeSpec := { name := "fnExactTargetNext", fn := fun _ => fun
  | [d] => { results := [.lit (.bool false)], args := [d] }
  | _ => none }
def FnExactTargetNextWrongFalsely : Prop := fnExactTargetNextRow.holds Try.pinned (OpenSpec.ofChange fnExactTargetNextWrong)

/-- 'laws.FnExactTargetBack': WHATEVER THE INPUT: true; the input reads as it did. -/
def fnExactTargetBackSpec : ChangeSpec := { name := "fnExactTargetBack", fn := fun _ => fun
  | [d] => { results := [.lit (.bool true)], args := [d] }
  | _ => none }
def fnExactTargetBackRow : OpenClaim := { program := "ytaoicbmepliklaa", sum := "fd80d4154a5859dabf57d6a66b7d7a0a77fad37aa4d80de391c992d3bf25fd3c", func := "loop.example/typedassembly/laws.FnExactTargetBack", spec := "fnExactTargetBack", inPlace := ["internal/abi.NoEscape", "internal/bytealg.MakeNoZero"], unfollowed := true, recurses := true, plainKeys := false, apart := false }
def FnExactTargetBackSaid : Prop := fnExactTargetBackRow.holds Try.pinned (OpenSpec.ofChange fnExactTargetBackSpec)

/-- ITS FALSE NEIGHBOUR: 'it returns false'. Refute it at one input. -/
def fnExactTargetBackWrong : ChangeSpec := { name := "fnExactTargetBack", fn := fun _ => fun
  | [d] => { results := [.lit (.bool false)], args := [d] }
  | _ => none }
def FnExactTargetBackWrongFalsely : Prop := fnExactTargetBackRow.holds Try.pinned (OpenSpec.ofChange fnExactTargetBackWrong)

/-- 'laws.FnTargetOf': WHATEVER THE INPUT: true; the input reads as it did. -/
def fnTargetOfSpec : ChangeSpec := { name := "fnTargetOf", fn := fun _ => fun
  | [d] => { results := [.lit (.bool true)], args := [d] }
  | _ => none }
def fnTargetOfRow : OpenClaim := { program := "ytaoicbmepliklaa", sum := "fd80d4154a5859dabf57d6a66b7d7a0a77fad37aa4d80de391c992d3bf25fd3c", func := "loop.example/typedassembly/laws.FnTargetOf", spec := "fnTargetOf", inPlace := ["internal/abi.NoEscape", "internal/bytealg.MakeNoZero"], unfollowed := true, recurses := true, plainKeys := false, apart := false }
def FnTargetOfSaid : Prop := fnTargetOfRow.holds Try.pinned (OpenSpec.ofChange fnTargetOfSpec)

/-- ITS FALSE NEIGHBOUR: 'it returns false'. Refute it at one input. -/
def fnTargetOfWrong : ChangeSpec := { name := "fnTargetOf", fn := fun _ => fun
  | [d] => { results := [.lit (.bool false)], args := [d] }
  | _ => none }
def FnTargetOfWrongFalsely : Prop := fnTargetOfRow.holds Try.pinned (OpenSpec.ofChange fnTargetOfWrong)

/-- 'laws.FnTargetBack': WHATEVER THE INPUT: true; the input reads as it did. -/
def fnTargetBackSpec : ChangeSpec := { name := "fnTargetBack", fn := fun _ => fun
  | [d] => { results := [.lit (.bool true)], args := [d] }
  | _ => none }
def fnTargetBackRow : OpenClaim := { program := "ytaoicbmepliklaa", sum := "fd80d4154a5859dabf57d6a66b7d7a0a77fad37aa4d80de391c992d3bf25fd3c", func := "loop.example/typedassembly/laws.FnTargetBack", spec := "fnTargetBack", inPlace := ["internal/abi.NoEscape", "internal/bytealg.MakeNoZero"], unfollowed := true, recurses := true, plainKeys := false, apart := false }
def FnTargetBackSaid : Prop := fnTargetBackRow.holds Try.pinned (OpenSpec.ofChange fnTargetBackSpec)

/-- ITS FALSE NEIGHBOUR: 'it returns false'. Refute it at one input. -/
def fnTargetBackWrong : ChangeSpec := { name := "fnTargetBack", fn := fun _ => fun
  | [d] => { results := [.lit (.bool false)], args := [d] }
  | _ => none }
def FnTargetBackWrongFalsely : Prop := fnTargetBackRow.holds Try.pinned (OpenSpec.ofChange fnTargetBackWrong)

/-- 'laws.FnTarget': WHATEVER THE INPUT: true; the input reads as it did. -/
def fnTargetSpec : ChangeSpec := { name := "fnTarget", fn := fun _ => fun
  | [d] => { results := [.lit (.bool true)], args := [d] }
  | _ => none }
def fnTargetRow : OpenClaim := { program := "ytaoicbmepliklaa", sum := "fd80d4154a5859dabf57d6a66b7d7a0a77fad37aa4d80de391c992d3bf25fd3c", func := "loop.example/typedassembly/laws.FnTarget", spec := "fnTarget", inPlace := ["internal/abi.NoEscape", "internal/bytealg.MakeNoZero"], unfollowed := true, recurses := true, plainKeys := false, apart := false }
def FnTargetSaid : Prop := fnTargetRow.holds Try.pinned (OpenSpec.ofChange fnTargetSpec)

/-- ITS FALSE NEIGHBOUR: 'it returns false'. Refute it at one input. -/
def fnTargetWrong : ChangeSpec := { name := "fnTarget", fn := fun _ => fun
  | [d] => { results := [.lit (.bool false)], args := [d] }
  | _ => none }
def FnTargetWrongFalsely : Prop := fnTargetRow.holds Try.pinned (OpenSpec.ofChange fnTargetWrong)

/-- 'laws.FnTargetNext': WHATEVER THE INPUT: true; the input reads as it did. -/
def fnTargetNextSpec : ChangeSpec := { name := "fnTargetNext", fn := fun _ => fun
  | [d] => { results := [.lit (.bool true)], args := [d] }
  | _ => none }
def fnTargetNextRow : OpenClaim := { program := "ytaoicbmepliklaa", sum := "fd80d4154a5859dabf57d6a66b7d7a0a77fad37aa4d80de391c992d3bf25fd3c", func := "loop.example/typedassembly/laws.FnTargetNext", spec := "fnTargetNext", inPlace := ["internal/abi.NoEscape", "internal/bytealg.MakeNoZero"], unfollowed := true, recurses := true, plainKeys := false, apart := false }
def FnTargetNextSaid : Prop := fnTargetNextRow.holds Try.pinned (OpenSpec.ofChange fnTargetNextSpec)

/-- ITS FALSE NEIGHBOUR: 'it returns false'. Refute it at one input. -/
def fnTargetNextWrong : ChangeSpec := { name := "fnTargetNext", fn := fun _ => fun
  | [d] => { results := [.lit (.bool false)], args := [d] }
  | _ => none }
def FnTargetNextWrongFalsely : Prop := fnTargetNextRow.holds Try.pinned (OpenSpec.ofChange fnTargetNextWrong)

/- THE SECOND FORM. 'bulk': how many values and letters a reading holds, each counted each time it is reached (what is shared counts as often as it is met; a slice's spare places count too). A statement '..UptoSaid' is the law's where the arguments, and the package variables that the reading takes, are together of bulk at most 1048576: NARROWER than '..Said'. Prove '..Said' where nothing that the law and all that it calls make is longer than what came in: it says more and counts as full. Else prove '..UptoSaid'. A law counts once. -/
mutual
def uptoBulk {H : Type} : DataW H → Nat
  | .lit (.string bytes) => bytes.length + 1
  | .lit _ => 1
  | .nil => 1
  | .ptr d => uptoBulk d + 1
  | .slice elems spare => uptoBulkAll elems + uptoBulkAll spare + 1
  | .agg parts => uptoBulkAll parts + 1
  | .iface _ d => uptoBulk d + 1
  | .map entries => uptoBulkEntries entries + 1
  | .held _ => 1
def uptoBulkAll {H : Type} : List (DataW H) → Nat
  | [] => 0
  | d :: r => uptoBulk d + uptoBulkAll r
def uptoBulkEntries {H : Type} : List (Lit × DataW H) → Nat
  | [] => 0
  | x :: r => uptoBulkEntry x + uptoBulkEntries r
def uptoBulkEntry {H : Type} : Lit × DataW H → Nat
  | (.string bytes, d) => bytes.length + uptoBulk d + 1
  | (_, d) => uptoBulk d + 1
 end
def uptoSmall : (H : Type) → List (DataW H) → Bool := fun _ ds => decide (uptoBulkAll ds ≤ 1048576)
def OpenSpec.upto (s : _root_.Go.ChangeSpec) : _root_.Go.OpenSpec := { _root_.Go.OpenSpec.ofChange s with cond := some uptoSmall }

/-- 'laws.FnExactTargetValid', WHERE WHAT IT READS IS OF BULK AT MOST 1048576: true; the input reads as it did. -/
def fnExactTargetValidUptoRow : OpenClaim := { program := "ytaoicbmepliklaa", sum := "fd80d4154a5859dabf57d6a66b7d7a0a77fad37aa4d80de391c992d3bf25fd3c", func := "loop.example/typedassembly/laws.FnExactTargetValid", spec := "fnExactTargetValid", unfollowed := true, recurses := true, plainKeys := false, apart := false, narrowed := true }
def FnExactTargetValidUptoSaid : Prop := fnExactTargetValidUptoRow.holds Try.pinned (OpenSpec.upto fnExactTargetValidSpec)

/-- 'laws.FnExactTargetOf', WHERE WHAT IT READS IS OF BULK AT MOST 1048576: true; the input reads as it did. -/
def fnExactTargetOfUptoRow : OpenClaim := { program := "ytaoicbmepliklaa", sum := "fd80d4154a5859dabf57d6a66b7d7a0a77fad37aa4d80de391c992d3bf25fd3c", func := "loop.example/typedassembly/laws.FnExactTargetOf", spec := "fnExactTargetOf", inPlace := ["internal/abi.NoEscape", "internal/bytealg.MakeNoZero"], recurses := true, plainKeys := false, apart := false, narrowed := true }
def FnExactTargetOfUptoSaid : Prop := fnExactTargetOfUptoRow.holds Try.pinned (OpenSpec.upto fnExactTargetOfSpec)

/-- 'laws.FnExactTargetNext', WHERE WHAT IT READS IS OF BULK AT MOST 1048576: true; the input reads as it did. -/
def fnExactTargetNextUptoRow : OpenClaim := { program := "ytaoicbmepliklaa", sum := "fd80d4154a5859dabf57d6a66b7d7a0a77fad37aa4d80de391c992d3bf25fd3c", func := "loop.example/typedassembly/laws.FnExactTargetNext", spec := "fnExactTargetNext", inPlace := ["internal/abi.NoEscape", "internal/bytealg.MakeNoZero"], recurses := true, plainKeys := false, apart := false, narrowed := true }
def FnExactTargetNextUptoSaid : Prop := fnExactTargetNextUptoRow.holds Try.pinned (OpenSpec.upto fnExactTargetNextSpec)

/-- 'laws.FnExactTargetBack', WHERE WHAT IT READS IS OF BULK AT MOST 1048576: true; the input reads as it did. -/
def fnExactTargetBackUptoRow : OpenClaim := { program := "ytaoicbmepliklaa", sum := "fd80d4154a5859dabf57d6a66b7d7a0a77fad37aa4d80de391c992d3bf25fd3c", func := "loop.example/typedassembly/laws.FnExactTargetBack", spec := "fnExactTargetBack", inPlace := ["internal/abi.NoEscape", "internal/bytealg.MakeNoZero"], unfollowed := true, recurses := true, plainKeys := false, apart := false, narrowed := true }
def FnExactTargetBackUptoSaid : Prop := fnExactTargetBackUptoRow.holds Try.pinned (OpenSpec.upto fnExactTargetBackSpec)

/-- 'laws.FnTargetOf', WHERE WHAT IT READS IS OF BULK AT MOST 1048576: true; the input reads as it did. -/
def fnTargetOfUptoRow : OpenClaim := { program := "ytaoicbmepliklaa", sum := "fd80d4154a5859dabf57d6a66b7d7a0a77fad37aa4d80de391c992d3bf25fd3c", func := "loop.example/typedassembly/laws.FnTargetOf", spec := "fnTargetOf", inPlace := ["internal/abi.NoEscape", "internal/bytealg.MakeNoZero"], unfollowed := true, recurses := true, plainKeys := false, apart := false, narrowed := true }
def FnTargetOfUptoSaid : Prop := fnTargetOfUptoRow.holds Try.pinned (OpenSpec.upto fnTargetOfSpec)

/-- 'laws.FnTargetBack', WHERE WHAT IT READS IS OF BULK AT MOST 1048576: true; the input reads as it did. -/
def fnTargetBackUptoRow : OpenClaim := { program := "ytaoicbmepliklaa", sum := "fd80d4154a5859dabf57d6a66b7d7a0a77fad37aa4d80de391c992d3bf25fd3c", func := "loop.example/typedassembly/laws.FnTargetBack", spec := "fnTargetBack", inPlace := ["internal/abi.NoEscape", "internal/bytealg.MakeNoZero"], unfollowed := true, recurses := true, plainKeys := false, apart := false, narrowed := true }
def FnTargetBackUptoSaid : Prop := fnTargetBackUptoRow.holds Try.pinned (OpenSpec.upto fnTargetBackSpec)

/-- 'laws.FnTarget', WHERE WHAT IT READS IS OF BULK AT MOST 1048576: true; the input reads as it did. -/
def fnTargetUptoRow : OpenClaim := { program := "ytaoicbmepliklaa", sum := "fd80d4154a5859dabf57d6a66b7d7a0a77fad37aa4d80de391c992d3bf25fd3c", func := "loop.example/typedassembly/laws.FnTarget", spec := "fnTarget", inPlace := ["internal/abi.NoEscape", "internal/bytealg.MakeNoZero"], unfollowed := true, recurses := true, plainKeys := false, apart := false, narrowed := true }
def FnTargetUptoSaid : Prop := fnTargetUptoRow.holds Try.pinned (OpenSpec.upto fnTargetSpec)

/-- 'laws.FnTargetNext', WHERE WHAT IT READS IS OF BULK AT MOST 1048576: true; the input reads as it did. -/
def fnTargetNextUptoRow : OpenClaim := { program := "ytaoicbmepliklaa", sum := "fd80d4154a5859dabf57d6a66b7d7a0a77fad37aa4d80de391c992d3bf25fd3c", func := "loop.example/typedassembly/laws.FnTargetNext", spec := "fnTargetNext", inPlace := ["internal/abi.NoEscape", "internal/bytealg.MakeNoZero"], unfollowed := true, recurses := true, plainKeys := false, apart := false, narrowed := true }
def FnTargetNextUptoSaid : Prop := fnTargetNextUptoRow.holds Try.pinned (OpenSpec.upto fnTargetNextSpec)

end Rows
end Go.Proofs.Ytaoicbmepliklaa
