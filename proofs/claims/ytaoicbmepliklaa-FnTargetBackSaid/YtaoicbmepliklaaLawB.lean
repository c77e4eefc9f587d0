/- The program's answers that are numbers and bools; the walks of the laws on them. -/
import Derived.Test.YtaoicbmepliklaaI1z
import Derived.Test.YtaoicbmepliklaaS1z
namespace Go.Proofs.Ytaoicbmepliklaa
open Go.RowKit
set_option maxRecDepth 8000
set_option linter.unusedSimpArgs false
set_option linter.unusedVariables false
theorem tyPost_shape {B : Nat} {res : Option Tr} {e : Ending} {w' : World} (h : TyPost B res e w') :
    ∃ a p n c x y z, e = .returned (.tuple #[.agg #[.string a, .slice p n c, .int .i64 x, .int .i64 y, .int .i64 z], .bool res.isSome]) := by
  match res, h with
  | none, h => exact ⟨_, _, _, _, _, _, _, h⟩
  | some t, ⟨p, n, c, h1, _⟩ => exact ⟨_, _, _, _, _, _, _, h1⟩
set_option maxHeartbeats 400000 in
theorem implTypeValid_c (s : ByteArray) (hs : s.size ≤ 1048576) (w : World) :
    Calls Try.prog 21 #[.string s] w fun e w' => e = .returned (.bool (readTy s.data.toList).isSome) ∧ Below w.heap.size w w' := by
  go_enter Try.func21, Try.ntmps21
  go_wp2_with (go_at_call 32; go_must (refine (readType_c s hs _).mono ?_; rintro e w1 ⟨hp, hb1⟩; obtain ⟨a, p, n, c, x, y, z, rfl⟩ := tyPost_shape hp; clear hp))
  go_ret
  exact ⟨rfl, hb1.alloc hb1.size _⟩
end Go.Proofs.Ytaoicbmepliklaa
