/-
  No cell of these rows narrows 'for every input' (looked for: loops, veiled, ifaces, maps, wideKeys, modest, calm, conditions, laid).
  DERIVED. THE GIVEN ROWS OF THIS SEAT. 8 by the template 'for every input the law returns true; each argument reads behind the call as it read before'; 0 by the template 'total and deterministic' (their statements: YtmiapkoiplgfiaaTotals.lean).
  GIVEN WITH THE SEED: the statements are not yours to turn. If you find one false, say at which input.
  Laid BY PROGRAM, IN A SANDBOX (cutbox-rows.mjs): the forced cells as the released guide's own fill.sh prints them over the translation a815dad1cbcf8835… (all of the seat's roots in one cut). By AI agents, Wed Nov 11 2026. No macro, syntax, notation, axiom, sorry.
-/
import Derived.Test.YtmiapkoiplgfiaaChecked
import GoSem.Claim
import GoSem.ClaimJoined
import GoSem.ClaimMapViews
import Derived.JoinedTies
import Derived.KernelRfl
namespace Go.Proofs.Ytmiapkoiplgfiaa
/- THE CELL 'sum', in the pinned program and in every row, IS THE sha256 OF THE DUMP (.gsa) THAT YtmiapkoiplgfiaaProg.lean LOADS. Nothing in Lean hashes anything: it is a label: what it is worth is what the hold of that sum in a sandbox is worth. -/
noncomputable def Try.pinned : Pinned := { name := "ytmiapkoiplgfiaa", sum := "a815dad1cbcf8835d3297d6fcc4fd61e77e481b7aa665f1524d43789d89d5db4", checked := Try.checked }
namespace Rows
def none {H : Type} : Left H := { results := [], args := [] }

/-- 'laws.FnExactFormMake': WHATEVER THE INPUT: true; the input reads as it did. -/
def fnExactFormMakeSpec : ChangeSpec := { name := "fnExactFormMake", fn := fun _ => fun
  | [d] => { results := [.lit (.bool true)], args := [d] }
  | _ => none }
def fnExactFormMakeRow : OpenClaim := { program := "ytmiapkoiplgfiaa", sum := "a815dad1cbcf8835d3297d6fcc4fd61e77e481b7aa665f1524d43789d89d5db4", func := "loop.example/typedassembly/laws.FnExactFormMake", spec := "fnExactFormMake", inPlace := ["internal/abi.NoEscape", "internal/bytealg.MakeNoZero"], recurses := true, apart := false }
def FnExactFormMakeSaid : Prop := fnExactFormMakeRow.holds Try.pinned (OpenSpec.ofChange fnExactFormMakeSpec)

/-- ITS FALSE NEIGHBOUR: 'it returns false'. Refute it at one input. -/
def fnExactFormMakeWrong : ChangeSpec := { name := "fnExactFormMake", fn := fun _ => fun
  | [d] => { results := [.lit (.bool false)], args := [d] }
  | _ => none }
def FnExactFormMakeWrongFalsely : Prop := fnExactFormMakeRow.holds Try.pinned (OpenSpec.ofChange fnExactFormMakeWrong)

/-- 'laws.FnExactFormAtoms': WHATEVER THE INPUT: true; the input reads as it did. -/
def fnExactFormAtomsSpec : ChangeSpec := { name := "fnExactFormAtoms", fn := fun _ => fun
  | [d] => { results := [.lit (.bool true)], args := [d] }
  | _ => none }
def fnExactFormAtomsRow : OpenClaim := { program := "ytmiapkoiplgfiaa", sum := "a815dad1cbcf8835d3297d6fcc4fd61e77e481b7aa665f1524d43789d89d5db4", func := "loop.example/typedassembly/laws.FnExactFormAtoms", spec := "fnExactFormAtoms", inPlace := ["internal/abi.NoEscape", "internal/bytealg.MakeNoZero"], recurses := true, apart := false }
def FnExactFormAtomsSaid : Prop := fnExactFormAtomsRow.holds Try.pinned (OpenSpec.ofChange fnExactFormAtomsSpec)

/-- ITS FALSE NEIGHBOUR: 'it returns false'. Refute it at one input. -/
def fnExactFormAtomsWrong : ChangeSpec := { name := "fnExactFormAtoms", fn := fun _ => fun
  | [d] => { results := [.lit (.bool false)], args := [d] }
  | _ => none }
def FnExactFormAtomsWrongFalsely : Prop := fnExactFormAtomsRow.holds Try.pinned (OpenSpec.ofChange fnExactFormAtomsWrong)

/-- 'laws.FnExactFormReplace': WHATEVER THE INPUT: true; the input reads as it did. -/
def fnExactFormReplaceSpec : ChangeSpec := { name := "fnExactFormReplace", fn := fun _ => fun
  | [d1, d2, d3] => { results := [.lit (.bool true)], args := [d1, d2, d3] }
  | _ => none }
def fnExactFormReplaceRow : OpenClaim := { program := "ytmiapkoiplgfiaa", sum := "a815dad1cbcf8835d3297d6fcc4fd61e77e481b7aa665f1524d43789d89d5db4", func := "loop.example/typedassembly/laws.FnExactFormReplace", spec := "fnExactFormReplace", inPlace := ["internal/abi.NoEscape", "internal/bytealg.MakeNoZero"], recurses := true, apart := false }
def FnExactFormReplaceSaid : Prop := fnExactFormReplaceRow.holds Try.pinned (OpenSpec.ofChange fnExactFormReplaceSpec)

/-- ITS FALSE NEIGHBOUR: 'it returns false'. Refute it at one input. -/
def fnExactFormReplaceWrong : ChangeSpec := { name := "fnExactFormReplace", fn := fun _ => fun
  | [d1, d2, d3] => { results := [.lit (.bool false)], args := [d1, d2, d3] }
  | _ => none }
def FnExactFormReplaceWrongFalsely : Prop := fnExactFormReplaceRow.holds Try.pinned (OpenSpec.ofChange fnExactFormReplaceWrong)

/-- 'laws.FnExactTypeValid': WHATEVER THE INPUT: true; the input reads as it did. -/
def fnExactTypeValidSpec : ChangeSpec := { name := "fnExactTypeValid", fn := fun _ => fun
  | [d] => { results := [.lit (.bool true)], args := [d] }
  | _ => none }
def fnExactTypeValidRow : OpenClaim := { program := "ytmiapkoiplgfiaa", sum := "a815dad1cbcf8835d3297d6fcc4fd61e77e481b7aa665f1524d43789d89d5db4", func := "loop.example/typedassembly/laws.FnExactTypeValid", spec := "fnExactTypeValid", recurses := true, apart := false }
def FnExactTypeValidSaid : Prop := fnExactTypeValidRow.holds Try.pinned (OpenSpec.ofChange fnExactTypeValidSpec)

/-- ITS FALSE NEIGHBOUR: 'it returns false'. Refute it at one input. -/
def fnExactTypeValidWrong : ChangeSpec := { name := "fnExactTypeValid", fn := fun _ => fun
  | [d] => { results := [.lit (.bool false)], args := [d] }
  | _ => none }
def FnExactTypeValidWrongFalsely : Prop := fnExactTypeValidRow.holds Try.pinned (OpenSpec.ofChange fnExactTypeValidWrong)

/-- 'laws.FnExactTypeFun': WHATEVER THE INPUT: true; the input reads as it did. -/
def fnExactTypeFunSpec : ChangeSpec := { name := "fnExactTypeFun", fn := fun _ => fun
  | [d] => { results := [.lit (.bool true)], args := [d] }
  | _ => none }
def fnExactTypeFunRow : OpenClaim := { program := "ytmiapkoiplgfiaa", sum := "a815dad1cbcf8835d3297d6fcc4fd61e77e481b7aa665f1524d43789d89d5db4", func := "loop.example/typedassembly/laws.FnExactTypeFun", spec := "fnExactTypeFun", inPlace := ["internal/abi.NoEscape", "internal/bytealg.MakeNoZero"], recurses := true, apart := false }
def FnExactTypeFunSaid : Prop := fnExactTypeFunRow.holds Try.pinned (OpenSpec.ofChange fnExactTypeFunSpec)

/-- ITS FALSE NEIGHBOUR: 'it returns false'. Refute it at one input. -/
def fnExactTypeFunWrong : ChangeSpec := { name := "fnExactTypeFun", fn := fun _ => fun
  | [d] => { results := [.lit (.bool false)], args := [d] }
  | _ => none }
def FnExactTypeFunWrongFalsely : Prop := fnExactTypeFunRow.holds Try.pinned (OpenSpec.ofChange fnExactTypeFunWrong)

/-- 'laws.FnExactTypePair': WHATEVER THE INPUT: true; the input reads as it did. -/
def fnExactTypePairSpec : ChangeSpec := { name := "fnExactTypePair", fn := fun _ => fun
  | [d] => { results := [.lit (.bool true)], args := [d] }
  | _ => none }
def fnExactTypePairRow : OpenClaim := { program := "ytmiapkoiplgfiaa", sum := "a815dad1cbcf8835d3297d6fcc4fd61e77e481b7aa665f1524d43789d89d5db4", func := "loop.example/typedassembly/laws.FnExactTypePair", spec := "fnExactTypePair", inPlace := ["internal/abi.NoEscape", "internal/bytealg.MakeNoZero"], recurses := true, apart := false }
def FnExactTypePairSaid : Prop := fnExactTypePairRow.holds Try.pinned (OpenSpec.ofChange fnExactTypePairSpec)

/-- ITS FALSE NEIGHBOUR: 'it returns false'. Refute it at one input. -/
def fnExactTypePairWrong : ChangeSpec := { name := "fnExactTypePair", fn := fun _ => fun
  | [d] => { results := [.lit (.bool false)], args := [d] }
  | _ => none }
def FnExactTypePairWrongFalsely : Prop := fnExactTypePairRow.holds Try.pinned (OpenSpec.ofChange fnExactTypePairWrong)

/-- 'laws.FnExactTypeOrder': WHATEVER THE INPUT: true; the input reads as it did. -/
def fnExactTypeOrderSpec : ChangeSpec := { name := "fnExactTypeOrder", fn := fun _ => fun
  | [d] => { results := [.lit (.bool true)], args := [d] }
  | _ => none }
def fnExactTypeOrderRow : OpenClaim := { program := "ytmiapkoiplgfiaa", sum := "a815dad1cbcf8835d3297d6fcc4fd61e77e481b7aa665f1524d43789d89d5db4", func := "loop.example/typedassembly/laws.FnExactTypeOrder", spec := "fnExactTypeOrder", recurses := true, apart := false }
def FnExactTypeOrderSaid : Prop := fnExactTypeOrderRow.holds Try.pinned (OpenSpec.ofChange fnExactTypeOrderSpec)

/-- ITS FALSE NEIGHBOUR: 'it returns false'. Refute it at one input. -/
def fnExactTypeOrderWrong : ChangeSpec := { name := "fnExactTypeOrder", fn := fun _ => fun
  | [d] => { results := [.lit (.bool false)], args := [d] }
  | _ => none }
def FnExactTypeOrderWrongFalsely : Prop := fnExactTypeOrderRow.holds Try.pinned (OpenSpec.ofChange fnExactTypeOrderWrong)

/-- 'laws.FnExactTypeMake': WHATEVER THE INPUT: true; the input reads as it did. -/
def fnExactTypeMakeSpec : ChangeSpec := { name := "fnExactTypeMake", fn := fun _ => fun
  | [d1, d2, d3] => { results := [.lit (.bool true)], args := [d1, d2, d3] }
  | _ => none }
def fnExactTypeMakeRow : OpenClaim := { program := "ytmiapkoiplgfiaa", sum := "a815dad1cbcf8835d3297d6fcc4fd61e77e481b7aa665f1524d43789d89d5db4", func := "loop.example/typedassembly/laws.FnExactTypeMake", spec := "fnExactTypeMake", inPlace := ["internal/abi.NoEscape", "internal/bytealg.MakeNoZero"], recurses := true, apart := false }
def FnExactTypeMakeSaid : Prop := fnExactTypeMakeRow.holds Try.pinned (OpenSpec.ofChange fnExactTypeMakeSpec)

/-- ITS FALSE NEIGHBOUR: 'it returns false'. Refute it at one input. -/
def fnExactTypeMakeWrong : ChangeSpec := { name := "fnExactTypeMake", fn := fun _ => fun
  | [d1, d2, d3] => { results := [.lit (.bool false)], args := [d1, d2, d3] }
  | _ => none }
def FnExactTypeMakeWrongFalsely : Prop := fnExactTypeMakeRow.holds Try.pinned (OpenSpec.ofChange fnExactTypeMakeWrong)

/- THE SECOND FORM. 'bulk': how many values and letters a reading holds, each counted each time it is reached (what is shared counts as often as it is met; a slice's spare places count too). A statement '..UptoSaid' is the law's where the arguments, and the package variables that the reading takes, are together of bulk at most 1048576: NARROWER than '..Said'. Prove '..Said' where nothing that the law and all that it calls make is longer than what came in: it says more and counts as full. Else prove '..UptoSaid'. A law counts once. -/
mutual
def uptoBulk {H : Type} : DataW H → Nat
  | .lit (.string bytes) => bytes.length + 1
  | .lit _ => 1
  | .nil => 1
  | .ptr d => uptoBulk d + 1
  | .slice elems spare => uptoBulkAll elems + uptoBulkAll spare + 1
  | .agg parts => uptoBulkAll parts + 1
  | .iface _ d => uptoBulk d + 1
  | .map entries => uptoBulkEntries entries + 1
  | .held _ => 1
def uptoBulkAll {H : Type} : List (DataW H) → Nat
  | [] => 0
  | d :: r => uptoBulk d + uptoBulkAll r
def uptoBulkEntries {H : Type} : List (Lit × DataW H) → Nat
  | [] => 0
  | x :: r => uptoBulkEntry x + uptoBulkEntries r
def uptoBulkEntry {H : Type} : Lit × DataW H → Nat
  | (.string bytes, d) => bytes.length + uptoBulk d + 1
  | (_, d) => uptoBulk d + 1
 end
def uptoSmall : (H : Type) → List (DataW H) → Bool := fun _ ds => decide (uptoBulkAll ds ≤ 1048576)
def OpenSpec.upto (s : _root_.Go.ChangeSpec) : _root_.Go.OpenSpec := { _root_.Go.OpenSpec.ofChange s with cond := some uptoSmall }

/-- 'laws.FnExactFormMake', WHERE WHAT IT READS IS OF BULK AT MOST 1048576: true; the input reads as it did. -/
def fnExactFormMakeUptoRow : OpenClaim := { program := "ytmiapkoiplgfiaa", sum := "a815dad1cbcf8835d3297d6fcc4fd61e77e481b7aa665f1524d43789d89d5db4", func := "loop.example/typedassembly/laws.FnExactFormMake", spec := "fnExactFormMake", inPlace := ["internal/abi.NoEscape", "internal/bytealg.MakeNoZero"], recurses := true, apart := false, narrowed := true }
def FnExactFormMakeUptoSaid : Prop := fnExactFormMakeUptoRow.holds Try.pinned (OpenSpec.upto fnExactFormMakeSpec)

/-- 'laws.FnExactFormAtoms', WHERE WHAT IT READS IS OF BULK AT MOST 1048576: true; the input reads as it did. -/
def fnExactFormAtomsUptoRow : OpenClaim := { program := "ytmiapkoiplgfiaa", sum := "a815dad1cbcf8835d3297d6fcc4fd61e77e481b7aa665f1524d43789d89d5db4", func := "loop.example/typedassembly/laws.FnExactFormAtoms", spec := "fnExactFormAtoms", inPlace := ["internal/abi.NoEscape", "internal/bytealg.MakeNoZero"], recurses := true, apart := false, narrowed := true }
def FnExactFormAtomsUptoSaid : Prop := fnExactFormAtomsUptoRow.holds Try.pinned (OpenSpec.upto fnExactFormAtomsSpec)

/-- 'laws.FnExactFormReplace', WHERE WHAT IT READS IS OF BULK AT MOST 1048576: true; the input reads as it did. -/
def fnExactFormReplaceUptoRow : OpenClaim := { program := "ytmiapkoiplgfiaa", sum := "a815dad1cbcf8835d3297d6fcc4fd61e77e481b7aa665f1524d43789d89d5db4", func := "loop.example/typedassembly/laws.FnExactFormReplace", spec := "fnExactFormReplace", inPlace := ["internal/abi.NoEscape", "internal/bytealg.MakeNoZero"], recurses := true, apart := false, narrowed := true }
def FnExactFormReplaceUptoSaid : Prop := fnExactFormReplaceUptoRow.holds Try.pinned (OpenSpec.upto fnExactFormReplaceSpec)

/-- 'laws.FnExactTypeValid', WHERE WHAT IT READS IS OF BULK AT MOST 1048576: true; the input reads as it did. -/
def fnExactTypeValidUptoRow : OpenClaim := { program := "ytmiapkoiplgfiaa", sum := "a815dad1cbcf8835d3297d6fcc4fd61e77e481b7aa665f1524d43789d89d5db4", func := "loop.example/typedassembly/laws.FnExactTypeValid", spec := "fnExactTypeValid", recurses := true, apart := false, narrowed := true }
def FnExactTypeValidUptoSaid : Prop := fnExactTypeValidUptoRow.holds Try.pinned (OpenSpec.upto fnExactTypeValidSpec)

/-- 'laws.FnExactTypeFun', WHERE WHAT IT READS IS OF BULK AT MOST 1048576: true; the input reads as it did. -/
def fnExactTypeFunUptoRow : OpenClaim := { program := "ytmiapkoiplgfiaa", sum := "a815dad1cbcf8835d3297d6fcc4fd61e77e481b7aa665f1524d43789d89d5db4", func := "loop.example/typedassembly/laws.FnExactTypeFun", spec := "fnExactTypeFun", inPlace := ["internal/abi.NoEscape", "internal/bytealg.MakeNoZero"], recurses := true, apart := false, narrowed := true }
def FnExactTypeFunUptoSaid : Prop := fnExactTypeFunUptoRow.holds Try.pinned (OpenSpec.upto fnExactTypeFunSpec)

/-- 'laws.FnExactTypePair', WHERE WHAT IT READS IS OF BULK AT MOST 1048576: true; the input reads as it did. -/
def fnExactTypePairUptoRow : OpenClaim := { program := "ytmiapkoiplgfiaa", sum := "a815dad1cbcf8835d3297d6fcc4fd61e77e481b7aa665f1524d43789d89d5db4", func := "loop.example/typedassembly/laws.FnExactTypePair", spec := "fnExactTypePair", inPlace := ["internal/abi.NoEscape", "internal/bytealg.MakeNoZero"], recurses := true, apart := false, narrowed := true }
def FnExactTypePairUptoSaid : Prop := fnExactTypePairUptoRow.holds Try.pinned (OpenSpec.upto fnExactTypePairSpec)

/-- 'laws.FnExactTypeOrder', WHERE WHAT IT READS IS OF BULK AT MOST 1048576: true; the input reads as it did. -/
def fnExactTypeOrderUptoRow : OpenClaim := { program := "ytmiapkoiplgfiaa", sum := "a815dad1cbcf8835d3297d6fcc4fd61e77e481b7aa665f1524d43789d89d5db4", func := "loop.example/typedassembly/laws.FnExactTypeOrder", spec := "fnExactTypeOrder", recurses := true, apart := false, narrowed := true }
def FnExactTypeOrderUptoSaid : Prop := fnExactTypeOrderUptoRow.holds Try.pinned (OpenSpec.upto fnExactTypeOrderSpec)

/-- 'laws.FnExactTypeMake', WHERE WHAT IT READS IS OF BULK AT MOST 1048576: true; the input reads as it did. -/
def fnExactTypeMakeUptoRow : OpenClaim := { program := "ytmiapkoiplgfiaa", sum := "a815dad1cbcf8835d3297d6fcc4fd61e77e481b7aa665f1524d43789d89d5db4", func := "loop.example/typedassembly/laws.FnExactTypeMake", spec := "fnExactTypeMake", inPlace := ["internal/abi.NoEscape", "internal/bytealg.MakeNoZero"], recurses := true, apart := false, narrowed := true }
def FnExactTypeMakeUptoSaid : Prop := fnExactTypeMakeUptoRow.holds Try.pinned (OpenSpec.upto fnExactTypeMakeSpec)

end Rows
end Go.Proofs.Ytmiapkoiplgfiaa
