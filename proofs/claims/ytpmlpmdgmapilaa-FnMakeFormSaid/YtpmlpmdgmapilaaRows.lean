/-
  No cell of these rows narrows 'for every input' (looked for: loops, veiled, ifaces, maps, wideKeys, modest, calm, conditions, laid).
  DERIVED. THE GIVEN ROWS OF THIS SEAT. 12 by the template 'for every input the law returns true; each argument reads behind the call as it read before'; 0 by the template 'total and deterministic' (their statements: YtpmlpmdgmapilaaTotals.lean).
  GIVEN WITH THE SEED: the statements are not yours to turn. If you find one false, say at which input.
  Laid BY PROGRAM, IN A SANDBOX (cutbox-rows.mjs): the forced cells as the released guide's own fill.sh prints them over the translation f645667b17e6c668… (all of the seat's roots in one cut). By AI agents, Wed Nov 11 2026. No macro, syntax, notation, axiom, sorry.
-/
import Derived.Test.YtpmlpmdgmapilaaChecked
import GoSem.Claim
import GoSem.ClaimJoined
import GoSem.ClaimMapViews
import Derived.JoinedTies
import Derived.KernelRfl
namespace Go.Proofs.Ytpmlpmdgmapilaa
/- THE CELL 'sum', in the pinned program and in every row, IS THE sha256 OF THE DUMP (.gsa) THAT YtpmlpmdgmapilaaProg.lean LOADS. Nothing in Lean hashes anything: it is a label: what it is worth is what the hold of that sum in a sandbox is worth. -/
noncomputable def Try.pinned : Pinned := { name := "ytpmlpmdgmapilaa", sum := "f645667b17e6c6686cce153ed3536339d71f0ec00d9f2810018fe27b50583ecd", checked := Try.checked }
namespace Rows
def none {H : Type} : Left H := { results := [], args := [] }

/-- 'laws.FnForm': WHATEVER THE INPUT: true; the input reads as it did. -/
def fnFormSpec : ChangeSpec := { name := "fnForm", fn := fun _ => fun
  | [d] => { results := [.lit (.bool true)], args := [d] }
  | _ => none }
def fnFormRow : OpenClaim := { program := "ytpmlpmdgmapilaa", sum := "f645667b17e6c6686cce153ed3536339d71f0ec00d9f2810018fe27b50583ecd", func := "loop.example/typedassembly/laws.FnForm", spec := "fnForm", inPlace := ["internal/abi.NoEscape", "internal/bytealg.MakeNoZero"], recurses := true, apart := false }
def FnFormSaid : Prop := fnFormRow.holds Try.pinned (OpenSpec.ofChange fnFormSpec)

/-- ITS FALSE NEIGHBOUR: 'it returns false'. Refute it at one input. -/
def fnFormWrong : ChangeSpec := { name := "fnForm", fn := fun _ => fun
  | [d] => { results := [.lit (.bool false)], args := [d] }
  | _ => none }
def FnFormWrongFalsely : Prop := fnFormRow.holds Try.pinned (OpenSpec.ofChange fnFormWrong)

/-- 'laws.FnParts': WHATEVER THE INPUT: true; the input reads as it did. -/
def fnPartsSpec : ChangeSpec := { name := "fnParts", fn := fun _ => fun
  | [d] => { results := [.lit (.bool true)], args := [d] }
  | _ => none }
def fnPartsRow : OpenClaim := { program := "ytpmlpmdgmapilaa", sum := "f645667b17e6c6686cce153ed3536339d71f0ec00d9f2810018fe27b50583ecd", func := "loop.example/typedassembly/laws.FnParts", spec := "fnParts", inPlace := ["internal/abi.NoEscape", "internal/bytealg.MakeNoZero"], recurses := true, apart := false }
def FnPartsSaid : Prop := fnPartsRow.holds Try.pinned (OpenSpec.ofChange fnPartsSpec)

/-- ITS FALSE NEIGHBOUR: 'it returns false'. Refute it at one input. -/
def fnPartsWrong : ChangeSpec := { name := "fnParts", fn := fun _ => fun
  | [d] => { results := [.lit (.bool false)], args := [d] }
  | _ => none }
def FnPartsWrongFalsely : Prop := fnPartsRow.holds Try.pinned (OpenSpec.ofChange fnPartsWrong)

/-- 'laws.FnMakeForm': WHATEVER THE INPUT: true; the input reads as it did. -/
def fnMakeFormSpec : ChangeSpec := { name := "fnMakeForm", fn := fun _ => fun
  | [d] => { results := [.lit (.bool true)], args := [d] }
  | _ => none }
def fnMakeFormRow : OpenClaim := { program := "ytpmlpmdgmapilaa", sum := "f645667b17e6c6686cce153ed3536339d71f0ec00d9f2810018fe27b50583ecd", func := "loop.example/typedassembly/laws.FnMakeForm", spec := "fnMakeForm", inPlace := ["internal/abi.NoEscape", "internal/bytealg.MakeNoZero"], recurses := true, apart := false }
def FnMakeFormSaid : Prop := fnMakeFormRow.holds Try.pinned (OpenSpec.ofChange fnMakeFormSpec)

/-- ITS FALSE NEIGHBOUR: 'it returns false'. Refute it at one input. -/
def fnMakeFormWrong : ChangeSpec := { name := "fnMakeForm", fn := fun _ => fun
  | [d] => { results := [.lit (.bool false)], args := [d] }
  | _ => none }
def FnMakeFormWrongFalsely : Prop := fnMakeFormRow.holds Try.pinned (OpenSpec.ofChange fnMakeFormWrong)

/-- 'laws.FnSize': WHATEVER THE INPUT: true; the input reads as it did. -/
def fnSizeSpec : ChangeSpec := { name := "fnSize", fn := fun _ => fun
  | [d] => { results := [.lit (.bool true)], args := [d] }
  | _ => none }
def fnSizeRow : OpenClaim := { program := "ytpmlpmdgmapilaa", sum := "f645667b17e6c6686cce153ed3536339d71f0ec00d9f2810018fe27b50583ecd", func := "loop.example/typedassembly/laws.FnSize", spec := "fnSize", inPlace := ["internal/abi.NoEscape", "internal/bytealg.MakeNoZero"], recurses := true, apart := false }
def FnSizeSaid : Prop := fnSizeRow.holds Try.pinned (OpenSpec.ofChange fnSizeSpec)

/-- ITS FALSE NEIGHBOUR: 'it returns false'. Refute it at one input. -/
def fnSizeWrong : ChangeSpec := { name := "fnSize", fn := fun _ => fun
  | [d] => { results := [.lit (.bool false)], args := [d] }
  | _ => none }
def FnSizeWrongFalsely : Prop := fnSizeRow.holds Try.pinned (OpenSpec.ofChange fnSizeWrong)

/-- 'laws.FnDepth': WHATEVER THE INPUT: true; the input reads as it did. -/
def fnDepthSpec : ChangeSpec := { name := "fnDepth", fn := fun _ => fun
  | [d] => { results := [.lit (.bool true)], args := [d] }
  | _ => none }
def fnDepthRow : OpenClaim := { program := "ytpmlpmdgmapilaa", sum := "f645667b17e6c6686cce153ed3536339d71f0ec00d9f2810018fe27b50583ecd", func := "loop.example/typedassembly/laws.FnDepth", spec := "fnDepth", inPlace := ["internal/abi.NoEscape", "internal/bytealg.MakeNoZero"], recurses := true, apart := false }
def FnDepthSaid : Prop := fnDepthRow.holds Try.pinned (OpenSpec.ofChange fnDepthSpec)

/-- ITS FALSE NEIGHBOUR: 'it returns false'. Refute it at one input. -/
def fnDepthWrong : ChangeSpec := { name := "fnDepth", fn := fun _ => fun
  | [d] => { results := [.lit (.bool false)], args := [d] }
  | _ => none }
def FnDepthWrongFalsely : Prop := fnDepthRow.holds Try.pinned (OpenSpec.ofChange fnDepthWrong)

/-- 'laws.FnAtoms': WHATEVER THE INPUT: true; the input reads as it did. -/
def fnAtomsSpec : ChangeSpec := { name := "fnAtoms", fn := fun _ => fun
  | [d] => { results := [.lit (.bool true)], args := [d] }
  | _ => none }
def fnAtomsRow : OpenClaim := { program := "ytpmlpmdgmapilaa", sum := "f645667b17e6c6686cce153ed3536339d71f0ec00d9f2810018fe27b50583ecd", func := "loop.example/typedassembly/laws.FnAtoms", spec := "fnAtoms", inPlace := ["internal/abi.NoEscape", "internal/bytealg.MakeNoZero"], recurses := true, apart := false }
def FnAtomsSaid : Prop := fnAtomsRow.holds Try.pinned (OpenSpec.ofChange fnAtomsSpec)

/-- ITS FALSE NEIGHBOUR: 'it returns false'. Refute it at one input. -/
def fnAtomsWrong : ChangeSpec := { name := "fnAtoms", fn := fun _ => fun
  | [d] => { results := [.lit (.bool false)], args := [d] }
  | _ => none }
def FnAtomsWrongFalsely : Prop := fnAtomsRow.holds Try.pinned (OpenSpec.ofChange fnAtomsWrong)

/-- 'laws.FnReplace': WHATEVER THE INPUT: true; the input reads as it did. -/
def fnReplaceSpec : ChangeSpec := { name := "fnReplace", fn := fun _ => fun
  | [d] => { results := [.lit (.bool true)], args := [d] }
  | _ => none }
def fnReplaceRow : OpenClaim := { program := "ytpmlpmdgmapilaa", sum := "f645667b17e6c6686cce153ed3536339d71f0ec00d9f2810018fe27b50583ecd", func := "loop.example/typedassembly/laws.FnReplace", spec := "fnReplace", inPlace := ["internal/abi.NoEscape", "internal/bytealg.MakeNoZero"], recurses := true, apart := false }
def FnReplaceSaid : Prop := fnReplaceRow.holds Try.pinned (OpenSpec.ofChange fnReplaceSpec)

/-- ITS FALSE NEIGHBOUR: 'it returns false'. Refute it at one input. -/
def fnReplaceWrong : ChangeSpec := { name := "fnReplace", fn := fun _ => fun
  | [d] => { results := [.lit (.bool false)], args := [d] }
  | _ => none }
def FnReplaceWrongFalsely : Prop := fnReplaceRow.holds Try.pinned (OpenSpec.ofChange fnReplaceWrong)

/-- 'laws.FnType': WHATEVER THE INPUT: true; the input reads as it did. -/
def fnTypeSpec : ChangeSpec := { name := "fnType", fn := fun _ => fun
  | [d] => { results := [.lit (.bool true)], args := [d] }
  | _ => none }
def fnTypeRow : OpenClaim := { program := "ytpmlpmdgmapilaa", sum := "f645667b17e6c6686cce153ed3536339d71f0ec00d9f2810018fe27b50583ecd", func := "loop.example/typedassembly/laws.FnType", spec := "fnType", inPlace := ["internal/abi.NoEscape", "internal/bytealg.MakeNoZero"], recurses := true, apart := false }
def FnTypeSaid : Prop := fnTypeRow.holds Try.pinned (OpenSpec.ofChange fnTypeSpec)

/-- ITS FALSE NEIGHBOUR: 'it returns false'. Refute it at one input. -/
def fnTypeWrong : ChangeSpec := { name := "fnType", fn := fun _ => fun
  | [d] => { results := [.lit (.bool false)], args := [d] }
  | _ => none }
def FnTypeWrongFalsely : Prop := fnTypeRow.holds Try.pinned (OpenSpec.ofChange fnTypeWrong)

/-- 'laws.FnTypeFun': WHATEVER THE INPUT: true; the input reads as it did. -/
def fnTypeFunSpec : ChangeSpec := { name := "fnTypeFun", fn := fun _ => fun
  | [d] => { results := [.lit (.bool true)], args := [d] }
  | _ => none }
def fnTypeFunRow : OpenClaim := { program := "ytpmlpmdgmapilaa", sum := "f645667b17e6c6686cce153ed3536339d71f0ec00d9f2810018fe27b50583ecd", func := "loop.example/typedassembly/laws.FnTypeFun", spec := "fnTypeFun", inPlace := ["internal/abi.NoEscape", "internal/bytealg.MakeNoZero"], recurses := true, apart := false }
def FnTypeFunSaid : Prop := fnTypeFunRow.holds Try.pinned (OpenSpec.ofChange fnTypeFunSpec)

/-- ITS FALSE NEIGHBOUR: 'it returns false'. Refute it at one input. -/
def fnTypeFunWrong : ChangeSpec := { name := "fnTypeFun", fn := fun _ => fun
  | [d] => { results := [.lit (.bool false)], args := [d] }
  | _ => none }
def FnTypeFunWrongFalsely : Prop := fnTypeFunRow.holds Try.pinned (OpenSpec.ofChange fnTypeFunWrong)

/-- 'laws.FnTypePair': WHATEVER THE INPUT: true; the input reads as it did. -/
def fnTypePairSpec : ChangeSpec := { name := "fnTypePair", fn := fun _ => fun
  | [d] => { results := [.lit (.bool true)], args := [d] }
  | _ => none }
def fnTypePairRow : OpenClaim := { program := "ytpmlpmdgmapilaa", sum := "f645667b17e6c6686cce153ed3536339d71f0ec00d9f2810018fe27b50583ecd", func := "loop.example/typedassembly/laws.FnTypePair", spec := "fnTypePair", inPlace := ["internal/abi.NoEscape", "internal/bytealg.MakeNoZero"], recurses := true, apart := false }
def FnTypePairSaid : Prop := fnTypePairRow.holds Try.pinned (OpenSpec.ofChange fnTypePairSpec)

/-- ITS FALSE NEIGHBOUR: 'it returns false'. Refute it at one input. -/
def fnTypePairWrong : ChangeSpec := { name := "fnTypePair", fn := fun _ => fun
  | [d] => { results := [.lit (.bool false)], args := [d] }
  | _ => none }
def FnTypePairWrongFalsely : Prop := fnTypePairRow.holds Try.pinned (OpenSpec.ofChange fnTypePairWrong)

/-- 'laws.FnOrder': WHATEVER THE INPUT: true; the input reads as it did. -/
def fnOrderSpec : ChangeSpec := { name := "fnOrder", fn := fun _ => fun
  | [d] => { results := [.lit (.bool true)], args := [d] }
  | _ => none }
def fnOrderRow : OpenClaim := { program := "ytpmlpmdgmapilaa", sum := "f645667b17e6c6686cce153ed3536339d71f0ec00d9f2810018fe27b50583ecd", func := "loop.example/typedassembly/laws.FnOrder", spec := "fnOrder", inPlace := ["internal/abi.NoEscape", "internal/bytealg.MakeNoZero"], recurses := true, apart := false }
def FnOrderSaid : Prop := fnOrderRow.holds Try.pinned (OpenSpec.ofChange fnOrderSpec)

/-- ITS FALSE NEIGHBOUR: 'it returns false'. Refute it at one input. -/
def fnOrderWrong : ChangeSpec := { name := "fnOrder", fn := fun _ => fun
  | [d] => { results := [.lit (.bool false)], args := [d] }
  | _ => none }
def FnOrderWrongFalsely : Prop := fnOrderRow.holds Try.pinned (OpenSpec.ofChange fnOrderWrong)

/-- 'laws.FnTypeMake': WHATEVER THE INPUT: true; the input reads as it did. -/
def fnTypeMakeSpec : ChangeSpec := { name := "fnTypeMake", fn := fun _ => fun
  | [d] => { results := [.lit (.bool true)], args := [d] }
  | _ => none }
def fnTypeMakeRow : OpenClaim := { program := "ytpmlpmdgmapilaa", sum := "f645667b17e6c6686cce153ed3536339d71f0ec00d9f2810018fe27b50583ecd", func := "loop.example/typedassembly/laws.FnTypeMake", spec := "fnTypeMake", inPlace := ["internal/abi.NoEscape", "internal/bytealg.MakeNoZero"], recurses := true, apart := false }
def FnTypeMakeSaid : Prop := fnTypeMakeRow.holds Try.pinned (OpenSpec.ofChange fnTypeMakeSpec)

/-- ITS FALSE NEIGHBOUR: 'it returns false'. Refute it at one input. -/
def fnTypeMakeWrong : ChangeSpec := { name := "fnTypeMake", fn := fun _ => fun
  | [d] => { results := [.lit (.bool false)], args := [d] }
  | _ => none }
def FnTypeMakeWrongFalsely : Prop := fnTypeMakeRow.holds Try.pinned (OpenSpec.ofChange fnTypeMakeWrong)

/- THE SECOND FORM. 'bulk': how many values and letters a reading holds, each counted each time it is reached (what is shared counts as often as it is met; a slice's spare places count too). A statement '..UptoSaid' is the law's where the arguments, and the package variables that the reading takes, are together of bulk at most 1048576: NARROWER than '..Said'. Prove '..Said' where nothing that the law and all that it calls make is longer than what came in: it says more and counts as full. Else prove '..UptoSaid'. A law counts once. -/
mutual
def uptoBulk {H : Type} : DataW H → Nat
  | .lit (.string bytes) => bytes.length + 1
  | .lit _ => 1
  | .nil => 1
  | .ptr d => uptoBulk d + 1
  | .slice elems spare => uptoBulkAll elems + uptoBulkAll spare + 1
  | .agg parts => uptoBulkAll parts + 1
  | .iface _ d => uptoBulk d + 1
  | .map entries => uptoBulkEntries entries + 1
  | .held _ => 1
def uptoBulkAll {H : Type} : List (DataW H) → Nat
  | [] => 0
  | d :: r => uptoBulk d + uptoBulkAll r
def uptoBulkEntries {H : Type} : List (Lit × DataW H) → Nat
  | [] => 0
  | x :: r => uptoBulkEntry x + uptoBulkEntries r
def uptoBulkEntry {H : Type} : Lit × DataW H → Nat
  | (.string bytes, d) => bytes.length + uptoBulk d + 1
  | (_, d) => uptoBulk d + 1
 end
def uptoSmall : (H : Type) → List (DataW H) → Bool := fun _ ds => decide (uptoBulkAll ds ≤ 1048576)
def OpenSpec.upto (s : _root_.Go.ChangeSpec) : _root_.Go.OpenSpec := { _root_.Go.OpenSpec.ofChange s with cond := some uptoSmall }

/-- 'laws.FnForm', WHERE WHAT IT READS IS OF BULK AT MOST 1048576: true; the input reads as it did. -/
def fnFormUptoRow : OpenClaim := { program := "ytpmlpmdgmapilaa", sum := "f645667b17e6c6686cce153ed3536339d71f0ec00d9f2810018fe27b50583ecd", func := "loop.example/typedassembly/laws.FnForm", spec := "fnForm", inPlace := ["internal/abi.NoEscape", "internal/bytealg.MakeNoZero"], recurses := true, apart := false, narrowed := true }
def FnFormUptoSaid : Prop := fnFormUptoRow.holds Try.pinned (OpenSpec.upto fnFormSpec)

/-- 'laws.FnParts', WHERE WHAT IT READS IS OF BULK AT MOST 1048576: true; the input reads as it did. -/
def fnPartsUptoRow : OpenClaim := { program := "ytpmlpmdgmapilaa", sum := "f645667b17e6c6686cce153ed3536339d71f0ec00d9f2810018fe27b50583ecd", func := "loop.example/typedassembly/laws.FnParts", spec := "fnParts", inPlace := ["internal/abi.NoEscape", "internal/bytealg.MakeNoZero"], recurses := true, apart := false, narrowed := true }
def FnPartsUptoSaid : Prop := fnPartsUptoRow.holds Try.pinned (OpenSpec.upto fnPartsSpec)

/-- 'laws.FnMakeForm', WHERE WHAT IT READS IS OF BULK AT MOST 1048576: true; the input reads as it did. -/
def fnMakeFormUptoRow : OpenClaim := { program := "ytpmlpmdgmapilaa", sum := "f645667b17e6c6686cce153ed3536339d71f0ec00d9f2810018fe27b50583ecd", func := "loop.example/typedassembly/laws.FnMakeForm", spec := "fnMakeForm", inPlace := ["internal/abi.NoEscape", "internal/bytealg.MakeNoZero"], recurses := true, apart := false, narrowed := true }
def FnMakeFormUptoSaid : Prop := fnMakeFormUptoRow.holds Try.pinned (OpenSpec.upto fnMakeFormSpec)

/-- 'laws.FnSize', WHERE WHAT IT READS IS OF BULK AT MOST 1048576: true; the input reads as it did. -/
def fnSizeUptoRow : OpenClaim := { program := "ytpmlpmdgmapilaa", sum := "f645667b17e6c6686cce153ed3536339d71f0ec00d9f2810018fe27b50583ecd", func := "loop.example/typedassembly/laws.FnSize", spec := "fnSize", inPlace := ["internal/abi.NoEscape", "internal/bytealg.MakeNoZero"], recurses := true, apart := false, narrowed := true }
def FnSizeUptoSaid : Prop := fnSizeUptoRow.holds Try.pinned (OpenSpec.upto fnSizeSpec)

/-- 'laws.FnDepth', WHERE WHAT IT READS IS OF BULK AT MOST 1048576: true; the input reads as it did. -/
def fnDepthUptoRow : OpenClaim := { program := "ytpmlpmdgmapilaa", sum := "f645667b17e6c6686cce153ed3536339d71f0ec00d9f2810018fe27b50583ecd", func := "loop.example/typedassembly/laws.FnDepth", spec := "fnDepth", inPlace := ["internal/abi.NoEscape", "internal/bytealg.MakeNoZero"], recurses := true, apart := false, narrowed := true }
def FnDepthUptoSaid : Prop := fnDepthUptoRow.holds Try.pinned (OpenSpec.upto fnDepthSpec)

/-- 'laws.FnAtoms', WHERE WHAT IT READS IS OF BULK AT MOST 1048576: true; the input reads as it did. -/
def fnAtomsUptoRow : OpenClaim := { program := "ytpmlpmdgmapilaa", sum := "f645667b17e6c6686cce153ed3536339d71f0ec00d9f2810018fe27b50583ecd", func := "loop.example/typedassembly/laws.FnAtoms", spec := "fnAtoms", inPlace := ["internal/abi.NoEscape", "internal/bytealg.MakeNoZero"], recurses := true, apart := false, narrowed := true }
def FnAtomsUptoSaid : Prop := fnAtomsUptoRow.holds Try.pinned (OpenSpec.upto fnAtomsSpec)

/-- 'laws.FnReplace', WHERE WHAT IT READS IS OF BULK AT MOST 1048576: true; the input reads as it did. -/
def fnReplaceUptoRow : OpenClaim := { program := "ytpmlpmdgmapilaa", sum := "f645667b17e6c6686cce153ed3536339d71f0ec00d9f2810018fe27b50583ecd", func := "loop.example/typedassembly/laws.FnReplace", spec := "fnReplace", inPlace := ["internal/abi.NoEscape", "internal/bytealg.MakeNoZero"], recurses := true, apart := false, narrowed := true }
def FnReplaceUptoSaid : Prop := fnReplaceUptoRow.holds Try.pinned (OpenSpec.upto fnReplaceSpec)

/-- 'laws.FnType', WHERE WHAT IT READS IS OF BULK AT MOST 1048576: true; the input reads as it did. -/
def fnTypeUptoRow : OpenClaim := { program := "ytpmlpmdgmapilaa", sum := "f645667b17e6c6686cce153ed3536339d71f0ec00d9f2810018fe27b50583ecd", func := "loop.example/typedassembly/laws.FnType", spec := "fnType", inPlace := ["internal/abi.NoEscape", "internal/bytealg.MakeNoZero"], recurses := true, apart := false, narrowed := true }
def FnTypeUptoSaid : Prop := fnTypeUptoRow.holds Try.pinned (OpenSpec.upto fnTypeSpec)

/-- 'laws.FnTypeFun', WHERE WHAT IT READS IS OF BULK AT MOST 1048576: true; the input reads as it did. -/
def fnTypeFunUptoRow : OpenClaim := { program := "ytpmlpmdgmapilaa", sum := "f645667b17e6c6686cce153ed3536339d71f0ec00d9f2810018fe27b50583ecd", func := "loop.example/typedassembly/laws.FnTypeFun", spec := "fnTypeFun", inPlace := ["internal/abi.NoEscape", "internal/bytealg.MakeNoZero"], recurses := true, apart := false, narrowed := true }
def FnTypeFunUptoSaid : Prop := fnTypeFunUptoRow.holds Try.pinned (OpenSpec.upto fnTypeFunSpec)

/-- 'laws.FnTypePair', WHERE WHAT IT READS IS OF BULK AT MOST 1048576: true; the input reads as it did. -/
def fnTypePairUptoRow : OpenClaim := { program := "ytpmlpmdgmapilaa", sum := "f645667b17e6c6686cce153ed3536339d71f0ec00d9f2810018fe27b50583ecd", func := "loop.example/typedassembly/laws.FnTypePair", spec := "fnTypePair", inPlace := ["internal/abi.NoEscape", "internal/bytealg.MakeNoZero"], recurses := true, apart := false, narrowed := true }
def FnTypePairUptoSaid : Prop := fnTypePairUptoRow.holds Try.pinned (OpenSpec.upto fnTypePairSpec)

/-- 'laws.FnOrder', WHERE WHAT IT READS IS OF BULK AT MOST 1048576: true; the input reads as it did. -/
def fnOrderUptoRow : OpenClaim := { program := "ytpmlpmdgmapilaa", sum := "f645667b17e6c6686cce153ed3536339d71f0ec00d9f2810018fe27b50583ecd", func := "loop.example/typedassembly/laws.FnOrder", spec := "fnOrder", inPlace := ["internal/abi.NoEscape", "internal/bytealg.MakeNoZero"], recurses := true, apart := false, narrowed := true }
def FnOrderUptoSaid : Prop := fnOrderUptoRow.holds Try.pinned (OpenSpec.upto fnOrderSpec)

/-- 'laws.FnTypeMake', WHERE WHAT IT READS IS OF BULK AT MOST 1048576: true; the input reads as it did. -/
def fnTypeMakeUptoRow : OpenClaim := { program := "ytpmlpmdgmapilaa", sum := "f645667b17e6c6686cce153ed3536339d71f0ec00d9f2810018fe27b50583ecd", func := "loop.example/typedassembly/laws.FnTypeMake", spec := "fnTypeMake", inPlace := ["internal/abi.NoEscape", "internal/bytealg.MakeNoZero"], recurses := true, apart := false, narrowed := true }
def FnTypeMakeUptoSaid : Prop := fnTypeMakeUptoRow.holds Try.pinned (OpenSpec.upto fnTypeMakeSpec)

end Rows
end Go.Proofs.Ytpmlpmdgmapilaa
