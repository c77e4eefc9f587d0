/- TypeMake, for either mark. -/
import Derived.Test.YtgliggljegghhaaImpl1s
import Derived.Test.YtgliggljegghhaaSpec1i
namespace Go.Proofs.Ytgliggljegghhaa
open Go.RowKit
theorem implTypeMake_c (f : Bool) (a b : ByteArray) (ha : a.size ≤ 1048576) (hb : b.size ≤ 1048576) (w : World) :
    Calls Try.prog 13 #[.bool f, .string a, .string b] w fun e w' => MakePost (makeT (if f = true then 62 else 42) a.data.toList b.data.toList) e ∧ Below w.heap.size w w' := implTypeMake_h f _ rfl a b ha hb w
theorem specTypeMake_c (f : Bool) (a b : ByteArray) (ha : a.size ≤ 1048576) (hb : b.size ≤ 1048576) (w : World) :
    Calls Try.prog 12 #[.bool f, .string a, .string b] w fun e w' => MakePost (makeT (if f = true then 62 else 42) a.data.toList b.data.toList) e ∧ Below w.heap.size w w' := by
  cases f
  · exact specTypeMake_pair a b ha hb w
  · exact specTypeMake_fun a b ha hb w
end Go.Proofs.Ytgliggljegghhaa
