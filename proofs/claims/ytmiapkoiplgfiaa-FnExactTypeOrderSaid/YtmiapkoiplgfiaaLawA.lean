/- The walks of the laws on FormValid, FormSize, FormDepth. -/
import Derived.Test.YtmiapkoiplgfiaaImpl1e
import Derived.Test.YtmiapkoiplgfiaaSpec1b
namespace Go.Proofs.Ytmiapkoiplgfiaa
open Go.RowKit
set_option linter.unusedSimpArgs false
set_option linter.unusedVariables false
theorem readPost_shape {B : Nat} {res : Option Tr} {e : Ending} {w' : World} (h : ReadPost B res e w') :
    ∃ a p n c x y z, e = .returned (.tuple #[.agg #[.string a, .slice p n c, .int .i64 x, .int .i64 y, .int .i64 z], .bool res.isSome]) := by
  match res, h with
  | none, h => exact ⟨_, _, _, _, _, _, _, h⟩
  | some t, ⟨p, n, c, h1, _⟩ => exact ⟨_, _, _, _, _, _, _, h1⟩
theorem parsePost_shape {B : Nat} {res : Option Tr} {e : Ending} {w' : World} (h : ParsePost B res e w') :
    ∃ a p n c, e = .returned (.tuple #[.agg #[.string a, .slice p n c], .bool res.isSome]) := by
  match res, h with
  | none, ⟨a, p, n, c, h1, _⟩ => exact ⟨_, _, _, _, h1⟩
  | some t, ⟨p, n, c, h1, _⟩ => exact ⟨_, _, _, _, h1⟩
set_option maxHeartbeats 400000 in
theorem specFormValid_c (s : ByteArray) (hs : s.size ≤ 1048576) (w : World) :
    Calls Try.prog 32 #[.string s] w fun e w' => e = .returned (.bool (parse s.data.toList).isSome) ∧ Below w.heap.size w w' := by
  go_enter Try.func32, Try.ntmps32
  go_wp2_with (go_at_call 37; go_must (refine (l1Parse_c s hs _).mono ?_; rintro e w1 ⟨hp, hb1⟩; obtain ⟨a, p, n, c, rfl⟩ := parsePost_shape hp; clear hp))
  go_ret
  exact ⟨rfl, hb1.alloc hb1.size _⟩
end Go.Proofs.Ytmiapkoiplgfiaa
