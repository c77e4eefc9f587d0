/-
  NARROWER THAN 'FOR EVERY INPUT', by the rows' own cells (each row's printed sentence says how): FnOfType: laid · FnExactExprPlain: laid · FnExactExprAlike: laid · FnExactValuePrint: ifaces, laid · FnExactStep: laid · FnExactSimpleIs: laid · FnExactNormalIs: laid · FnExactNormalOf: laid · FnExactNormalLets: laid · FnExactNormalPath: laid · FnExactNormalJoin: laid.
  DERIVED. THE GIVEN ROWS OF THIS SEAT. 11 by the template 'for every input the law returns true; each argument reads behind the call as it read before'; 0 by the template 'total and deterministic' (their statements: YtjfjlfhckfoehaaGreatDoorTotals.lean).
  GIVEN WITH THE SEED: the statements are not yours to turn. If you find one false, say at which input.
  Laid BY PROGRAM, IN A SANDBOX (cutbox-rows.mjs): the forced cells as the released guide's own fill.sh prints them over the translation f687d054ff22d527… (all of the seat's roots in one cut). By AI agents, Wed Nov 11 2026. No macro, syntax, notation, axiom, sorry.
-/
import Derived.Test.YtjfjlfhckfoehaaGreatDoorChecked
import GoSem.Claim
import GoSem.ClaimJoined
import GoSem.ClaimMapViews
import Derived.JoinedTies
import Derived.KernelRfl
namespace Go.Proofs.YtjfjlfhckfoehaaGreatDoor
/- THE CELL 'sum', in the pinned program and in every row, IS THE sha256 OF THE DUMP (.gsa) THAT YtjfjlfhckfoehaaGreatDoorProg.lean LOADS. Nothing in Lean hashes anything: it is a label: what it is worth is what the hold of that sum in a sandbox is worth. -/
noncomputable def Tryz.pinned : Pinned := { name := "ytjfjlfhckfoehaagreatdoor", sum := "f687d054ff22d5273d97d3725852ce708f3f44277132d7f7c0dc01146bc229f3", checked := Tryz.checked }
namespace Rows
def none {H : Type} : Left H := { results := [], args := [] }

/- WHAT THE LISTED PACKAGE-LEVEL VARIABLES READ AS WHEN THE CALL BEGINS. Each datum BY PROGRAM (the guide's laid-datum.mjs) off the statement by which the dump's own 'gosem.cut.vars' lays the variable. In a bare row this is a premise. The card (YtjfjlfhckfoehaaGreatDoorCards.lean) ties it to the program's text. -/
def laid_math_bits_deBruijn32tab {H : Type} : DataW H := .agg [.lit (.int .u8 0), .lit (.int .u8 1), .lit (.int .u8 28), .lit (.int .u8 2), .lit (.int .u8 29), .lit (.int .u8 14), .lit (.int .u8 24), .lit (.int .u8 3), .lit (.int .u8 30), .lit (.int .u8 22), .lit (.int .u8 20), .lit (.int .u8 15), .lit (.int .u8 25), .lit (.int .u8 17), .lit (.int .u8 4), .lit (.int .u8 8), .lit (.int .u8 31), .lit (.int .u8 27), .lit (.int .u8 13), .lit (.int .u8 23), .lit (.int .u8 21), .lit (.int .u8 19), .lit (.int .u8 16), .lit (.int .u8 7), .lit (.int .u8 26), .lit (.int .u8 12), .lit (.int .u8 18), .lit (.int .u8 6), .lit (.int .u8 11), .lit (.int .u8 5), .lit (.int .u8 10), .lit (.int .u8 9)]
def laid_math_bits_deBruijn64tab {H : Type} : DataW H := .agg [.lit (.int .u8 0), .lit (.int .u8 1), .lit (.int .u8 56), .lit (.int .u8 2), .lit (.int .u8 57), .lit (.int .u8 49), .lit (.int .u8 28), .lit (.int .u8 3), .lit (.int .u8 61), .lit (.int .u8 58), .lit (.int .u8 42), .lit (.int .u8 50), .lit (.int .u8 38), .lit (.int .u8 29), .lit (.int .u8 17), .lit (.int .u8 4), .lit (.int .u8 62), .lit (.int .u8 47), .lit (.int .u8 59), .lit (.int .u8 36), .lit (.int .u8 45), .lit (.int .u8 43), .lit (.int .u8 51), .lit (.int .u8 22), .lit (.int .u8 53), .lit (.int .u8 39), .lit (.int .u8 33), .lit (.int .u8 30), .lit (.int .u8 24), .lit (.int .u8 18), .lit (.int .u8 12), .lit (.int .u8 5), .lit (.int .u8 63), .lit (.int .u8 55), .lit (.int .u8 48), .lit (.int .u8 27), .lit (.int .u8 60), .lit (.int .u8 41), .lit (.int .u8 37), .lit (.int .u8 16), .lit (.int .u8 46), .lit (.int .u8 35), .lit (.int .u8 44), .lit (.int .u8 21), .lit (.int .u8 52), .lit (.int .u8 32), .lit (.int .u8 23), .lit (.int .u8 11), .lit (.int .u8 54), .lit (.int .u8 26), .lit (.int .u8 40), .lit (.int .u8 15), .lit (.int .u8 34), .lit (.int .u8 20), .lit (.int .u8 31), .lit (.int .u8 10), .lit (.int .u8 25), .lit (.int .u8 14), .lit (.int .u8 19), .lit (.int .u8 9), .lit (.int .u8 13), .lit (.int .u8 8), .lit (.int .u8 7), .lit (.int .u8 6)]
def laid_internal_strconv_uint64pow10 {H : Type} : DataW H := .agg [.lit (.int .u64 1), .lit (.int .u64 10), .lit (.int .u64 100), .lit (.int .u64 1000), .lit (.int .u64 10000), .lit (.int .u64 100000), .lit (.int .u64 1000000), .lit (.int .u64 10000000), .lit (.int .u64 100000000), .lit (.int .u64 1000000000), .lit (.int .u64 10000000000), .lit (.int .u64 100000000000), .lit (.int .u64 1000000000000), .lit (.int .u64 10000000000000), .lit (.int .u64 100000000000000), .lit (.int .u64 1000000000000000), .lit (.int .u64 10000000000000000), .lit (.int .u64 100000000000000000), .lit (.int .u64 1000000000000000000), .lit (.int .u64 10000000000000000000)]
def laid_strconv_ErrRange {H : Type} : DataW H := .iface "*errors.errorString" (.ptr (.agg [.lit (.string [118, 97, 108, 117, 101, 32, 111, 117, 116, 32, 111, 102, 32, 114, 97, 110, 103, 101])]))
def laid_strconv_ErrSyntax {H : Type} : DataW H := .iface "*errors.errorString" (.ptr (.agg [.lit (.string [105, 110, 118, 97, 108, 105, 100, 32, 115, 121, 110, 116, 97, 120])]))
def laid_loop_example_typedassembly_impl_errNoFuel {H : Type} : DataW H := .iface "*errors.errorString" (.ptr (.agg [.lit (.string [116, 104, 101, 32, 102, 117, 101, 108, 32, 100, 111, 101, 115, 32, 110, 111, 116, 32, 115, 117, 102, 102, 105, 99, 101])]))
def laid_loop_example_typedassembly_impl_errStuck {H : Type} : DataW H := .iface "*errors.errorString" (.ptr (.agg [.lit (.string [97, 110, 32, 101, 120, 112, 114, 101, 115, 115, 105, 111, 110, 32, 105, 115, 32, 115, 116, 117, 99, 107])]))

/-- 'laws.FnOfType': WHATEVER THE INPUT: true; the input reads as it did. -/
def fnOfTypeSpec : ChangeSpec := { name := "fnOfType", fn := fun _ => fun
  | [d] => { results := [.lit (.bool true)], args := [d] }
  | _ => none }
def fnOfTypeRow : OpenClaim := { program := "ytjfjlfhckfoehaagreatdoor", sum := "f687d054ff22d5273d97d3725852ce708f3f44277132d7f7c0dc01146bc229f3", func := "loop.example/typedassembly/laws.FnOfType", spec := "fnOfType", inPlace := ["internal/abi.NoEscape", "internal/bytealg.MakeNoZero"], unfollowed := true, recurses := true, named := ["internal/strconv.uint64pow10", "math/bits.deBruijn32tab", "math/bits.deBruijn64tab", "strconv.ErrSyntax", "strconv.ErrRange"], apart := false, laid := [("math/bits.deBruijn32tab", laid_math_bits_deBruijn32tab), ("math/bits.deBruijn64tab", laid_math_bits_deBruijn64tab), ("internal/strconv.uint64pow10", laid_internal_strconv_uint64pow10), ("strconv.ErrRange", laid_strconv_ErrRange), ("strconv.ErrSyntax", laid_strconv_ErrSyntax)] }
def FnOfTypeSaid : Prop := fnOfTypeRow.holds Tryz.pinned (OpenSpec.ofChange fnOfTypeSpec)

/-- ITS FALSE NEIGHBOUR: 'it returns false'. Refute it at one input. -/
def fnOfTypeWrong : ChangeSpec := { name := "fnOfType", fn := fun _ => fun
  | [d] => { results := [.lit (.bool false)], args := [d] }
  | _ => none }
def FnOfTypeWrongFalsely : Prop := fnOfTypeRow.holds Tryz.pinned (OpenSpec.ofChange fnOfTypeWrong)

/-- 'laws.FnExactExprPlain': WHATEVER THE INPUT: true; the input reads as it did. -/
def fnExactExprPlainSpec : ChangeSpec := { name := "fnExactExprPlain", fn := fun _ => fun
  | [d] => { results := [.lit (.bool true)], args := [d] }
  | _ => none }
def fnExactExprPlainRow : OpenClaim := { program := "ytjfjlfhckfoehaagreatdoor", sum := "f687d054ff22d5273d97d3725852ce708f3f44277132d7f7c0dc01146bc229f3", func := "loop.example/typedassembly/laws.FnExactExprPlain", spec := "fnExactExprPlain", inPlace := ["internal/abi.NoEscape", "internal/bytealg.MakeNoZero"], unfollowed := true, recurses := true, named := ["strconv.ErrSyntax", "strconv.ErrRange", "internal/strconv.uint64pow10", "math/bits.deBruijn32tab", "math/bits.deBruijn64tab"], apart := false, laid := [("math/bits.deBruijn32tab", laid_math_bits_deBruijn32tab), ("math/bits.deBruijn64tab", laid_math_bits_deBruijn64tab), ("internal/strconv.uint64pow10", laid_internal_strconv_uint64pow10), ("strconv.ErrRange", laid_strconv_ErrRange), ("strconv.ErrSyntax", laid_strconv_ErrSyntax)] }
def FnExactExprPlainSaid : Prop := fnExactExprPlainRow.holds Tryz.pinned (OpenSpec.ofChange fnExactExprPlainSpec)

/-- ITS FALSE NEIGHBOUR: 'it returns false'. Refute it at one input. -/
def fnExactExprPlainWrong : ChangeSpec := { name := "fnExactExprPlain", fn := fun _ => fun
  | [d] => { results := [.lit (.bool false)], args := [d] }
  | _ => none }
def FnExactExprPlainWrongFalsely : Prop := fnExactExprPlainRow.holds Tryz.pinned (OpenSpec.ofChange fnExactExprPlainWrong)

/-- 'laws.FnExactExprAlike': WHATEVER THE INPUT: true; the input reads as it did. -/
def fnExactExprAlikeSpec : ChangeSpec := { name := "fnExactExprAlike", fn := fun _ => fun
  | [d1, d2] => { results := [.lit (.bool true)], args := [d1, d2] }
  | _ => none }
def fnExactExprAlikeRow : OpenClaim := { program := "ytjfjlfhckfoehaagreatdoor", sum := "f687d054ff22d5273d97d3725852ce708f3f44277132d7f7c0dc01146bc229f3", func := "loop.example/typedassembly/laws.FnExactExprAlike", spec := "fnExactExprAlike", inPlace := ["internal/abi.NoEscape", "internal/bytealg.MakeNoZero"], unfollowed := true, recurses := true, named := ["strconv.ErrSyntax", "strconv.ErrRange", "internal/strconv.uint64pow10", "math/bits.deBruijn32tab", "math/bits.deBruijn64tab"], apart := false, laid := [("math/bits.deBruijn32tab", laid_math_bits_deBruijn32tab), ("math/bits.deBruijn64tab", laid_math_bits_deBruijn64tab), ("internal/strconv.uint64pow10", laid_internal_strconv_uint64pow10), ("strconv.ErrRange", laid_strconv_ErrRange), ("strconv.ErrSyntax", laid_strconv_ErrSyntax)] }
def FnExactExprAlikeSaid : Prop := fnExactExprAlikeRow.holds Tryz.pinned (OpenSpec.ofChange fnExactExprAlikeSpec)

/-- ITS FALSE NEIGHBOUR: 'it returns false'. Refute it at one input. -/
def fnExactExprAlikeWrong : ChangeSpec := { name := "fnExactExprAlike", fn := fun _ => fun
  | [d1, d2] => { results := [.lit (.bool false)], args := [d1, d2] }
  | _ => none }
def FnExactExprAlikeWrongFalsely : Prop := fnExactExprAlikeRow.holds Tryz.pinned (OpenSpec.ofChange fnExactExprAlikeWrong)

/-- 'laws.FnExactValuePrint': WHATEVER THE INPUT: true; the input reads as it did. -/
def fnExactValuePrintSpec : ChangeSpec := { name := "fnExactValuePrint", vars := ["loop.example/typedassembly/impl.errNoFuel", "loop.example/typedassembly/impl.errStuck"], fn := fun _ => fun
  | [d, g1, g2] => { results := [.lit (.bool true)], args := [d], vars := [g1, g2] }
  | _ => none }
def fnExactValuePrintRow : OpenClaim := { program := "ytjfjlfhckfoehaagreatdoor", sum := "f687d054ff22d5273d97d3725852ce708f3f44277132d7f7c0dc01146bc229f3", func := "loop.example/typedassembly/laws.FnExactValuePrint", spec := "fnExactValuePrint", unfollowed := true, recurses := true, named := ["strconv.ErrSyntax", "strconv.ErrRange", "internal/strconv.uint64pow10", "math/bits.deBruijn32tab", "math/bits.deBruijn64tab", "loop.example/typedassembly/impl.errNoFuel", "loop.example/typedassembly/impl.errStuck"], ifaces := true, apart := false, laid := [("math/bits.deBruijn32tab", laid_math_bits_deBruijn32tab), ("math/bits.deBruijn64tab", laid_math_bits_deBruijn64tab), ("internal/strconv.uint64pow10", laid_internal_strconv_uint64pow10), ("strconv.ErrRange", laid_strconv_ErrRange), ("strconv.ErrSyntax", laid_strconv_ErrSyntax), ("loop.example/typedassembly/impl.errNoFuel", laid_loop_example_typedassembly_impl_errNoFuel), ("loop.example/typedassembly/impl.errStuck", laid_loop_example_typedassembly_impl_errStuck)] }
def FnExactValuePrintSaid : Prop := fnExactValuePrintRow.holds Tryz.pinned (OpenSpec.ofChange fnExactValuePrintSpec)

/-- ITS FALSE NEIGHBOUR: 'it returns false'. Refute it at one input. -/
def fnExactValuePrintWrong : ChangeSpec := { name := "fnExactValuePrint", vars := ["loop.example/typedassembly/impl.errNoFuel", "loop.example/typedassembly/impl.errStuck"], fn := fun _ => fun
  | [d, g1, g2] => { results := [.lit (.bool false)], args := [d], vars := [g1, g2] }
  | _ => none }
def FnExactValuePrintWrongFalsely : Prop := fnExactValuePrintRow.holds Tryz.pinned (OpenSpec.ofChange fnExactValuePrintWrong)

/-- 'laws.FnExactStep': WHATEVER THE INPUT: true; the input reads as it did. -/
def fnExactStepSpec : ChangeSpec := { name := "fnExactStep", fn := fun _ => fun
  | [d] => { results := [.lit (.bool true)], args := [d] }
  | _ => none }
def fnExactStepRow : OpenClaim := { program := "ytjfjlfhckfoehaagreatdoor", sum := "f687d054ff22d5273d97d3725852ce708f3f44277132d7f7c0dc01146bc229f3", func := "loop.example/typedassembly/laws.FnExactStep", spec := "fnExactStep", inPlace := ["internal/abi.NoEscape", "internal/bytealg.MakeNoZero"], unfollowed := true, recurses := true, named := ["strconv.ErrSyntax", "strconv.ErrRange", "internal/strconv.uint64pow10", "math/bits.deBruijn32tab", "math/bits.deBruijn64tab"], apart := false, laid := [("math/bits.deBruijn32tab", laid_math_bits_deBruijn32tab), ("math/bits.deBruijn64tab", laid_math_bits_deBruijn64tab), ("internal/strconv.uint64pow10", laid_internal_strconv_uint64pow10), ("strconv.ErrRange", laid_strconv_ErrRange), ("strconv.ErrSyntax", laid_strconv_ErrSyntax)] }
def FnExactStepSaid : Prop := fnExactStepRow.holds Tryz.pinned (OpenSpec.ofChange fnExactStepSpec)

/-- ITS FALSE NEIGHBOUR: 'it returns false'. Refute it at one input. -/
def fnExactStepWrong : ChangeSpec := { name := "fnExactStep", fn := fun _ => fun
  | [d] => { results := [.lit (.bool false)], args := [d] }
  | _ => none }
def FnExactStepWrongFalsely : Prop := fnExactStepRow.holds Tryz.pinned (OpenSpec.ofChange fnExactStepWrong)

/-- 'laws.FnExactSimpleIs': WHATEVER THE INPUT: true; the input reads as it did. -/
def fnExactSimpleIsSpec : ChangeSpec := { name := "fnExactSimpleIs", fn := fun _ => fun
  | [d] => { results := [.lit (.bool true)], args := [d] }
  | _ => none }
def fnExactSimpleIsRow : OpenClaim := { program := "ytjfjlfhckfoehaagreatdoor", sum := "f687d054ff22d5273d97d3725852ce708f3f44277132d7f7c0dc01146bc229f3", func := "loop.example/typedassembly/laws.FnExactSimpleIs", spec := "fnExactSimpleIs", unfollowed := true, recurses := true, named := ["strconv.ErrSyntax", "strconv.ErrRange", "internal/strconv.uint64pow10", "math/bits.deBruijn32tab", "math/bits.deBruijn64tab"], apart := false, laid := [("math/bits.deBruijn32tab", laid_math_bits_deBruijn32tab), ("math/bits.deBruijn64tab", laid_math_bits_deBruijn64tab), ("internal/strconv.uint64pow10", laid_internal_strconv_uint64pow10), ("strconv.ErrRange", laid_strconv_ErrRange), ("strconv.ErrSyntax", laid_strconv_ErrSyntax)] }
def FnExactSimpleIsSaid : Prop := fnExactSimpleIsRow.holds Tryz.pinned (OpenSpec.ofChange fnExactSimpleIsSpec)

/-- ITS FALSE NEIGHBOUR: 'it returns false'. Refute it at one input. -/
def fnExactSimpleIsWrong : ChangeSpec := { name := "fnExactSimpleIs", fn := fun _ => fun
  | [d] => { results := [.lit (.bool false)], args := [d] }
  | _ => none }
def FnExactSimpleIsWrongFalsely : Prop := fnExactSimpleIsRow.holds Tryz.pinned (OpenSpec.ofChange fnExactSimpleIsWrong)

/-- 'laws.FnExactNormalIs': WHATEVER THE INPUT: true; the input reads as it did. -/
def fnExactNormalIsSpec : ChangeSpec := { name := "fnExactNormalIs", fn := fun _ => fun
  | [d] => { results := [.lit (.bool true)], args := [d] }
  | _ => none }
def fnExactNormalIsRow : OpenClaim := { program := "ytjfjlfhckfoehaagreatdoor", sum := "f687d054ff22d5273d97d3725852ce708f3f44277132d7f7c0dc01146bc229f3", func := "loop.example/typedassembly/laws.FnExactNormalIs", spec := "fnExactNormalIs", unfollowed := true, recurses := true, named := ["strconv.ErrSyntax", "strconv.ErrRange", "internal/strconv.uint64pow10", "math/bits.deBruijn32tab", "math/bits.deBruijn64tab"], apart := false, laid := [("math/bits.deBruijn32tab", laid_math_bits_deBruijn32tab), ("math/bits.deBruijn64tab", laid_math_bits_deBruijn64tab), ("internal/strconv.uint64pow10", laid_internal_strconv_uint64pow10), ("strconv.ErrRange", laid_strconv_ErrRange), ("strconv.ErrSyntax", laid_strconv_ErrSyntax)] }
def FnExactNormalIsSaid : Prop := fnExactNormalIsRow.holds Tryz.pinned (OpenSpec.ofChange fnExactNormalIsSpec)

/-- ITS FALSE NEIGHBOUR: 'it returns false'. Refute it at one input. -/
def fnExactNormalIsWrong : ChangeSpec := { name := "fnExactNormalIs", fn := fun _ => fun
  | [d] => { results := [.lit (.bool false)], args := [d] }
  | _ => none }
def FnExactNormalIsWrongFalsely : Prop := fnExactNormalIsRow.holds Tryz.pinned (OpenSpec.ofChange fnExactNormalIsWrong)

/-- 'laws.FnExactNormalOf': WHATEVER THE INPUT: true; the input reads as it did. -/
def fnExactNormalOfSpec : ChangeSpec := { name := "fnExactNormalOf", fn := fun _ => fun
  | [d] => { results := [.lit (.bool true)], args := [d] }
  | _ => none }
def fnExactNormalOfRow : OpenClaim := { program := "ytjfjlfhckfoehaagreatdoor", sum := "f687d054ff22d5273d97d3725852ce708f3f44277132d7f7c0dc01146bc229f3", func := "loop.example/typedassembly/laws.FnExactNormalOf", spec := "fnExactNormalOf", inPlace := ["internal/abi.NoEscape", "internal/bytealg.MakeNoZero"], unfollowed := true, recurses := true, named := ["strconv.ErrSyntax", "strconv.ErrRange", "internal/strconv.uint64pow10", "math/bits.deBruijn32tab", "math/bits.deBruijn64tab"], apart := false, laid := [("math/bits.deBruijn32tab", laid_math_bits_deBruijn32tab), ("math/bits.deBruijn64tab", laid_math_bits_deBruijn64tab), ("internal/strconv.uint64pow10", laid_internal_strconv_uint64pow10), ("strconv.ErrRange", laid_strconv_ErrRange), ("strconv.ErrSyntax", laid_strconv_ErrSyntax)] }
def FnExactNormalOfSaid : Prop := fnExactNormalOfRow.holds Tryz.pinned (OpenSpec.ofChange fnExactNormalOfSpec)

/-- ITS FALSE NEIGHBOUR: 'it returns false'. Refute it at one input. -/
def fnExactNormalOfWrong : ChangeSpec := { name := "fnExactNormalOf", fn := fun _ => fun
  | [d] => { results := [.lit (.bool false)], args := [d] }
  | _ => none }
def FnExactNormalOfWrongFalsely : Prop := fnExactNormalOfRow.holds Tryz.pinned (OpenSpec.ofChange fnExactNormalOfWrong)

/-- 'laws.FnExactNormalLets': WHATEVER THE INPUT: true; the input reads as it did. -/
def fnExactNormalLetsSpec : ChangeSpec := { name := "fnExactNormalLets", fn := fun _ => fun
  | [d] => { results := [.lit (.bool true)], args := [d] }
  | _ => none }
def fnExactNormalLetsRow : OpenClaim := { program := "ytjfjlfhckfoehaagreatdoor", sum := "f687d054ff22d5273d97d3725852ce708f3f44277132d7f7c0dc01146bc229f3", func := "loop.example/typedassembly/laws.FnExactNormalLets", spec := "fnExactNormalLets", unfollowed := true, recurses := true, named := ["strconv.ErrSyntax", "strconv.ErrRange", "internal/strconv.uint64pow10", "math/bits.deBruijn32tab", "math/bits.deBruijn64tab"], apart := false, laid := [("math/bits.deBruijn32tab", laid_math_bits_deBruijn32tab), ("math/bits.deBruijn64tab", laid_math_bits_deBruijn64tab), ("internal/strconv.uint64pow10", laid_internal_strconv_uint64pow10), ("strconv.ErrRange", laid_strconv_ErrRange), ("strconv.ErrSyntax", laid_strconv_ErrSyntax)] }
def FnExactNormalLetsSaid : Prop := fnExactNormalLetsRow.holds Tryz.pinned (OpenSpec.ofChange fnExactNormalLetsSpec)

/-- ITS FALSE NEIGHBOUR: 'it returns false'. Refute it at one input. -/
def fnExactNormalLetsWrong : ChangeSpec := { name := "fnExactNormalLets", fn := fun _ => fun
  | [d] => { results := [.lit (.bool false)], args := [d] }
  | _ => none }
def FnExactNormalLetsWrongFalsely : Prop := fnExactNormalLetsRow.holds Tryz.pinned (OpenSpec.ofChange fnExactNormalLetsWrong)

/-- 'laws.FnExactNormalPath': WHATEVER THE INPUT: true; the input reads as it did. -/
def fnExactNormalPathSpec : ChangeSpec := { name := "fnExactNormalPath", fn := fun _ => fun
  | [d] => { results := [.lit (.bool true)], args := [d] }
  | _ => none }
def fnExactNormalPathRow : OpenClaim := { program := "ytjfjlfhckfoehaagreatdoor", sum := "f687d054ff22d5273d97d3725852ce708f3f44277132d7f7c0dc01146bc229f3", func := "loop.example/typedassembly/laws.FnExactNormalPath", spec := "fnExactNormalPath", inPlace := ["internal/abi.NoEscape", "internal/bytealg.MakeNoZero"], unfollowed := true, recurses := true, named := ["strconv.ErrSyntax", "strconv.ErrRange", "internal/strconv.uint64pow10", "math/bits.deBruijn32tab", "math/bits.deBruijn64tab"], apart := false, laid := [("math/bits.deBruijn32tab", laid_math_bits_deBruijn32tab), ("math/bits.deBruijn64tab", laid_math_bits_deBruijn64tab), ("internal/strconv.uint64pow10", laid_internal_strconv_uint64pow10), ("strconv.ErrRange", laid_strconv_ErrRange), ("strconv.ErrSyntax", laid_strconv_ErrSyntax)] }
def FnExactNormalPathSaid : Prop := fnExactNormalPathRow.holds Tryz.pinned (OpenSpec.ofChange fnExactNormalPathSpec)

/-- ITS FALSE NEIGHBOUR: 'it returns false'. Refute it at one input. -/
def fnExactNormalPathWrong : ChangeSpec := { name := "fnExactNormalPath", fn := fun _ => fun
  | [d] => { results := [.lit (.bool false)], args := [d] }
  | _ => none }
def FnExactNormalPathWrongFalsely : Prop := fnExactNormalPathRow.holds Tryz.pinned (OpenSpec.ofChange fnExactNormalPathWrong)

/-- 'laws.FnExactNormalJoin': WHATEVER THE INPUT: true; the input reads as it did. -/
def fnExactNormalJoinSpec : ChangeSpec := { name := "fnExactNormalJoin", fn := fun _ => fun
  | [d1, d2, d3] => { results := [.lit (.bool true)], args := [d1, d2, d3] }
  | _ => none }
def fnExactNormalJoinRow : OpenClaim := { program := "ytjfjlfhckfoehaagreatdoor", sum := "f687d054ff22d5273d97d3725852ce708f3f44277132d7f7c0dc01146bc229f3", func := "loop.example/typedassembly/laws.FnExactNormalJoin", spec := "fnExactNormalJoin", inPlace := ["internal/abi.NoEscape", "internal/bytealg.MakeNoZero"], unfollowed := true, recurses := true, named := ["strconv.ErrSyntax", "strconv.ErrRange", "internal/strconv.uint64pow10", "math/bits.deBruijn32tab", "math/bits.deBruijn64tab"], apart := false, laid := [("math/bits.deBruijn32tab", laid_math_bits_deBruijn32tab), ("math/bits.deBruijn64tab", laid_math_bits_deBruijn64tab), ("internal/strconv.uint64pow10", laid_internal_strconv_uint64pow10), ("strconv.ErrRange", laid_strconv_ErrRange), ("strconv.ErrSyntax", laid_strconv_ErrSyntax)] }
def FnExactNormalJoinSaid : Prop := fnExactNormalJoinRow.holds Tryz.pinned (OpenSpec.ofChange fnExactNormalJoinSpec)

/-- ITS FALSE NEIGHBOUR: 'it returns false'. Refute it at one input. -/
def fnExactNormalJoinWrong : ChangeSpec := { name := "fnExactNormalJoin", fn := fun _ => fun
  | [d1, d2, d3] => { results := [.lit (.bool false)], args := [d1, d2, d3] }
  | _ => none }
def FnExactNormalJoinWrongFalsely : Prop := fnExactNormalJoinRow.holds Tryz.pinned (OpenSpec.ofChange fnExactNormalJoinWrong)

/- THE SECOND FORM. 'bulk': how many values and letters a reading holds, each counted each time it is reached (what is shared counts as often as it is met; a slice's spare places count too). A statement '..UptoSaid' is the law's where the arguments, and the package variables that the reading takes, are together of bulk at most 1048576: NARROWER than '..Said'. Prove '..Said' where nothing that the law and all that it calls make is longer than what came in: it says more and counts as full. Else prove '..UptoSaid'. A law counts once. -/
mutual
def uptoBulk {H : Type} : DataW H → Nat
  | .lit (.string bytes) => bytes.length + 1
  | .lit _ => 1
  | .nil => 1
  | .ptr d => uptoBulk d + 1
  | .slice elems spare => uptoBulkAll elems + uptoBulkAll spare + 1
  | .agg parts => uptoBulkAll parts + 1
  | .iface _ d => uptoBulk d + 1
  | .map entries => uptoBulkEntries entries + 1
  | .held _ => 1
def uptoBulkAll {H : Type} : List (DataW H) → Nat
  | [] => 0
  | d :: r => uptoBulk d + uptoBulkAll r
def uptoBulkEntries {H : Type} : List (Lit × DataW H) → Nat
  | [] => 0
  | x :: r => uptoBulkEntry x + uptoBulkEntries r
def uptoBulkEntry {H : Type} : Lit × DataW H → Nat
  | (.string bytes, d) => bytes.length + uptoBulk d + 1
  | (_, d) => uptoBulk d + 1
 end
def uptoSmall : (H : Type) → List (DataW H) → Bool := fun _ ds => decide (uptoBulkAll ds ≤ 1048576)
def OpenSpec.upto (s : _root_.Go.ChangeSpec) : _root_.Go.OpenSpec := { _root_.Go.OpenSpec.ofChange s with cond := some uptoSmall }

/-- 'laws.FnOfType', WHERE WHAT IT READS IS OF BULK AT MOST 1048576: true; the input reads as it did. -/
def fnOfTypeUptoRow : OpenClaim := { program := "ytjfjlfhckfoehaagreatdoor", sum := "f687d054ff22d5273d97d3725852ce708f3f44277132d7f7c0dc01146bc229f3", func := "loop.example/typedassembly/laws.FnOfType", spec := "fnOfType", inPlace := ["internal/abi.NoEscape", "internal/bytealg.MakeNoZero"], unfollowed := true, recurses := true, named := ["internal/strconv.uint64pow10", "math/bits.deBruijn32tab", "math/bits.deBruijn64tab", "strconv.ErrSyntax", "strconv.ErrRange"], apart := false, laid := [("math/bits.deBruijn32tab", laid_math_bits_deBruijn32tab), ("math/bits.deBruijn64tab", laid_math_bits_deBruijn64tab), ("internal/strconv.uint64pow10", laid_internal_strconv_uint64pow10), ("strconv.ErrRange", laid_strconv_ErrRange), ("strconv.ErrSyntax", laid_strconv_ErrSyntax)], narrowed := true }
def FnOfTypeUptoSaid : Prop := fnOfTypeUptoRow.holds Tryz.pinned (OpenSpec.upto fnOfTypeSpec)

/-- 'laws.FnExactExprPlain', WHERE WHAT IT READS IS OF BULK AT MOST 1048576: true; the input reads as it did. -/
def fnExactExprPlainUptoRow : OpenClaim := { program := "ytjfjlfhckfoehaagreatdoor", sum := "f687d054ff22d5273d97d3725852ce708f3f44277132d7f7c0dc01146bc229f3", func := "loop.example/typedassembly/laws.FnExactExprPlain", spec := "fnExactExprPlain", inPlace := ["internal/abi.NoEscape", "internal/bytealg.MakeNoZero"], unfollowed := true, recurses := true, named := ["strconv.ErrSyntax", "strconv.ErrRange", "internal/strconv.uint64pow10", "math/bits.deBruijn32tab", "math/bits.deBruijn64tab"], apart := false, laid := [("math/bits.deBruijn32tab", laid_math_bits_deBruijn32tab), ("math/bits.deBruijn64tab", laid_math_bits_deBruijn64tab), ("internal/strconv.uint64pow10", laid_internal_strconv_uint64pow10), ("strconv.ErrRange", laid_strconv_ErrRange), ("strconv.ErrSyntax", laid_strconv_ErrSyntax)], narrowed := true }
def FnExactExprPlainUptoSaid : Prop := fnExactExprPlainUptoRow.holds Tryz.pinned (OpenSpec.upto fnExactExprPlainSpec)

/-- 'laws.FnExactExprAlike', WHERE WHAT IT READS IS OF BULK AT MOST 1048576: true; the input reads as it did. -/
def fnExactExprAlikeUptoRow : OpenClaim := { program := "ytjfjlfhckfoehaagreatdoor", sum := "f687d054ff22d5273d97d3725852ce708f3f44277132d7f7c0dc01146bc229f3", func := "loop.example/typedassembly/laws.FnExactExprAlike", spec := "fnExactExprAlike", inPlace := ["internal/abi.NoEscape", "internal/bytealg.MakeNoZero"], unfollowed := true, recurses := true, named := ["strconv.ErrSyntax", "strconv.ErrRange", "internal/strconv.uint64pow10", "math/bits.deBruijn32tab", "math/bits.deBruijn64tab"], apart := false, laid := [("math/bits.deBruijn32tab", laid_math_bits_deBruijn32tab), ("math/bits.deBruijn64tab", laid_math_bits_deBruijn64tab), ("internal/strconv.uint64pow10", laid_internal_strconv_uint64pow10), ("strconv.ErrRange", laid_strconv_ErrRange), ("strconv.ErrSyntax", laid_strconv_ErrSyntax)], narrowed := true }
def FnExactExprAlikeUptoSaid : Prop := fnExactExprAlikeUptoRow.holds Tryz.pinned (OpenSpec.upto fnExactExprAlikeSpec)

/-- 'laws.FnExactValuePrint', WHERE WHAT IT READS IS OF BULK AT MOST 1048576: true; the input reads as it did. -/
def fnExactValuePrintUptoRow : OpenClaim := { program := "ytjfjlfhckfoehaagreatdoor", sum := "f687d054ff22d5273d97d3725852ce708f3f44277132d7f7c0dc01146bc229f3", func := "loop.example/typedassembly/laws.FnExactValuePrint", spec := "fnExactValuePrint", unfollowed := true, recurses := true, named := ["strconv.ErrSyntax", "strconv.ErrRange", "internal/strconv.uint64pow10", "math/bits.deBruijn32tab", "math/bits.deBruijn64tab", "loop.example/typedassembly/impl.errNoFuel", "loop.example/typedassembly/impl.errStuck"], ifaces := true, apart := false, laid := [("math/bits.deBruijn32tab", laid_math_bits_deBruijn32tab), ("math/bits.deBruijn64tab", laid_math_bits_deBruijn64tab), ("internal/strconv.uint64pow10", laid_internal_strconv_uint64pow10), ("strconv.ErrRange", laid_strconv_ErrRange), ("strconv.ErrSyntax", laid_strconv_ErrSyntax), ("loop.example/typedassembly/impl.errNoFuel", laid_loop_example_typedassembly_impl_errNoFuel), ("loop.example/typedassembly/impl.errStuck", laid_loop_example_typedassembly_impl_errStuck)], narrowed := true }
def FnExactValuePrintUptoSaid : Prop := fnExactValuePrintUptoRow.holds Tryz.pinned (OpenSpec.upto fnExactValuePrintSpec)

/-- 'laws.FnExactStep', WHERE WHAT IT READS IS OF BULK AT MOST 1048576: true; the input reads as it did. -/
def fnExactStepUptoRow : OpenClaim := { program := "ytjfjlfhckfoehaagreatdoor", sum := "f687d054ff22d5273d97d3725852ce708f3f44277132d7f7c0dc01146bc229f3", func := "loop.example/typedassembly/laws.FnExactStep", spec := "fnExactStep", inPlace := ["internal/abi.NoEscape", "internal/bytealg.MakeNoZero"], unfollowed := true, recurses := true, named := ["strconv.ErrSyntax", "strconv.ErrRange", "internal/strconv.uint64pow10", "math/bits.deBruijn32tab", "math/bits.deBruijn64tab"], apart := false, laid := [("math/bits.deBruijn32tab", laid_math_bits_deBruijn32tab), ("math/bits.deBruijn64tab", laid_math_bits_deBruijn64tab), ("internal/strconv.uint64pow10", laid_internal_strconv_uint64pow10), ("strconv.ErrRange", laid_strconv_ErrRange), ("strconv.ErrSyntax", laid_strconv_ErrSyntax)], narrowed := true }
def FnExactStepUptoSaid : Prop := fnExactStepUptoRow.holds Tryz.pinned (OpenSpec.upto fnExactStepSpec)

/-- 'laws.FnExactSimpleIs', WHERE WHAT IT READS IS OF BULK AT MOST 1048576: true; the input reads as it did. -/
def fnExactSimpleIsUptoRow : OpenClaim := { program := "ytjfjlfhckfoehaagreatdoor", sum := "f687d054ff22d5273d97d3725852ce708f3f44277132d7f7c0dc01146bc229f3", func := "loop.example/typedassembly/laws.FnExactSimpleIs", spec := "fnExactSimpleIs", unfollowed := true, recurses := true, named := ["strconv.ErrSyntax", "strconv.ErrRange", "internal/strconv.uint64pow10", "math/bits.deBruijn32tab", "math/bits.deBruijn64tab"], apart := false, laid := [("math/bits.deBruijn32tab", laid_math_bits_deBruijn32tab), ("math/bits.deBruijn64tab", laid_math_bits_deBruijn64tab), ("internal/strconv.uint64pow10", laid_internal_strconv_uint64pow10), ("strconv.ErrRange", laid_strconv_ErrRange), ("strconv.ErrSyntax", laid_strconv_ErrSyntax)], narrowed := true }
def FnExactSimpleIsUptoSaid : Prop := fnExactSimpleIsUptoRow.holds Tryz.pinned (OpenSpec.upto fnExactSimpleIsSpec)

/-- 'laws.FnExactNormalIs', WHERE WHAT IT READS IS OF BULK AT MOST 1048576: true; the input reads as it did. -/
def fnExactNormalIsUptoRow : OpenClaim := { program := "ytjfjlfhckfoehaagreatdoor", sum := "f687d054ff22d5273d97d3725852ce708f3f44277132d7f7c0dc01146bc229f3", func := "loop.example/typedassembly/laws.FnExactNormalIs", spec := "fnExactNormalIs", unfollowed := true, recurses := true, named := ["strconv.ErrSyntax", "strconv.ErrRange", "internal/strconv.uint64pow10", "math/bits.deBruijn32tab", "math/bits.deBruijn64tab"], apart := false, laid := [("math/bits.deBruijn32tab", laid_math_bits_deBruijn32tab), ("math/bits.deBruijn64tab", laid_math_bits_deBruijn64tab), ("internal/strconv.uint64pow10", laid_internal_strconv_uint64pow10), ("strconv.ErrRange", laid_strconv_ErrRange), ("strconv.ErrSyntax", laid_strconv_ErrSyntax)], narrowed := true }
def FnExactNormalIsUptoSaid : Prop := fnExactNormalIsUptoRow.holds Tryz.pinned (OpenSpec.upto fnExactNormalIsSpec)

/-- 'laws.FnExactNormalOf', WHERE WHAT IT READS IS OF BULK AT MOST 1048576: true; the input reads as it did. -/
def fnExactNormalOfUptoRow : OpenClaim := { program := "ytjfjlfhckfoehaagreatdoor", sum := "f687d054ff22d5273d97d3725852ce708f3f44277132d7f7c0dc01146bc229f3", func := "loop.example/typedassembly/laws.FnExactNormalOf", spec := "fnExactNormalOf", inPlace := ["internal/abi.NoEscape", "internal/bytealg.MakeNoZero"], unfollowed := true, recurses := true, named := ["strconv.ErrSyntax", "strconv.ErrRange", "internal/strconv.uint64pow10", "math/bits.deBruijn32tab", "math/bits.deBruijn64tab"], apart := false, laid := [("math/bits.deBruijn32tab", laid_math_bits_deBruijn32tab), ("math/bits.deBruijn64tab", laid_math_bits_deBruijn64tab), ("internal/strconv.uint64pow10", laid_internal_strconv_uint64pow10), ("strconv.ErrRange", laid_strconv_ErrRange), ("strconv.ErrSyntax", laid_strconv_ErrSyntax)], narrowed := true }
def FnExactNormalOfUptoSaid : Prop := fnExactNormalOfUptoRow.holds Tryz.pinned (OpenSpec.upto fnExactNormalOfSpec)

/-- 'laws.FnExactNormalLets', WHERE WHAT IT READS IS OF BULK AT MOST 1048576: true; the input reads as it did. -/
def fnExactNormalLetsUptoRow : OpenClaim := { program := "ytjfjlfhckfoehaagreatdoor", sum := "f687d054ff22d5273d97d3725852ce708f3f44277132d7f7c0dc01146bc229f3", func := "loop.example/typedassembly/laws.FnExactNormalLets", spec := "fnExactNormalLets", unfollowed := true, recurses := true, named := ["strconv.ErrSyntax", "strconv.ErrRange", "internal/strconv.uint64pow10", "math/bits.deBruijn32tab", "math/bits.deBruijn64tab"], apart := false, laid := [("math/bits.deBruijn32tab", laid_math_bits_deBruijn32tab), ("math/bits.deBruijn64tab", laid_math_bits_deBruijn64tab), ("internal/strconv.uint64pow10", laid_internal_strconv_uint64pow10), ("strconv.ErrRange", laid_strconv_ErrRange), ("strconv.ErrSyntax", laid_strconv_ErrSyntax)], narrowed := true }
def FnExactNormalLetsUptoSaid : Prop := fnExactNormalLetsUptoRow.holds Tryz.pinned (OpenSpec.upto fnExactNormalLetsSpec)

/-- 'laws.FnExactNormalPath', WHERE WHAT IT READS IS OF BULK AT MOST 1048576: true; the input reads as it did. -/
def fnExactNormalPathUptoRow : OpenClaim := { program := "ytjfjlfhckfoehaagreatdoor", sum := "f687d054ff22d5273d97d3725852ce708f3f44277132d7f7c0dc01146bc229f3", func := "loop.example/typedassembly/laws.FnExactNormalPath", spec := "fnExactNormalPath", inPlace := ["internal/abi.NoEscape", "internal/bytealg.MakeNoZero"], unfollowed := true, recurses := true, named := ["strconv.ErrSyntax", "strconv.ErrRange", "internal/strconv.uint64pow10", "math/bits.deBruijn32tab", "math/bits.deBruijn64tab"], apart := false, laid := [("math/bits.deBruijn32tab", laid_math_bits_deBruijn32tab), ("math/bits.deBruijn64tab", laid_math_bits_deBruijn64tab), ("internal/strconv.uint64pow10", laid_internal_strconv_uint64pow10), ("strconv.ErrRange", laid_strconv_ErrRange), ("strconv.ErrSyntax", laid_strconv_ErrSyntax)], narrowed := true }
def FnExactNormalPathUptoSaid : Prop := fnExactNormalPathUptoRow.holds Tryz.pinned (OpenSpec.upto fnExactNormalPathSpec)

/-- 'laws.FnExactNormalJoin', WHERE WHAT IT READS IS OF BULK AT MOST 1048576: true; the input reads as it did. -/
def fnExactNormalJoinUptoRow : OpenClaim := { program := "ytjfjlfhckfoehaagreatdoor", sum := "f687d054ff22d5273d97d3725852ce708f3f44277132d7f7c0dc01146bc229f3", func := "loop.example/typedassembly/laws.FnExactNormalJoin", spec := "fnExactNormalJoin", inPlace := ["internal/abi.NoEscape", "internal/bytealg.MakeNoZero"], unfollowed := true, recurses := true, named := ["strconv.ErrSyntax", "strconv.ErrRange", "internal/strconv.uint64pow10", "math/bits.deBruijn32tab", "math/bits.deBruijn64tab"], apart := false, laid := [("math/bits.deBruijn32tab", laid_math_bits_deBruijn32tab), ("math/bits.deBruijn64tab", laid_math_bits_deBruijn64tab), ("internal/strconv.uint64pow10", laid_internal_strconv_uint64pow10), ("strconv.ErrRange", laid_strconv_ErrRange), ("strconv.ErrSyntax", laid_strconv_ErrSyntax)], narrowed := true }
def FnExactNormalJoinUptoSaid : Prop := fnExactNormalJoinUptoRow.holds Tryz.pinned (OpenSpec.upto fnExactNormalJoinSpec)

end Rows
end Go.Proofs.YtjfjlfhckfoehaaGreatDoor
