/- The reference model's numerals. -/
import Derived.Test.YtpaaglamcmfdjaaProg
import Derived.Test.YtpaaglamcmfdjaaB1
import Derived.Test.YtpaaglamcmfdjaaB3
import Derived.Deep.LoopGhost
namespace Go.Proofs.Ytpaaglamcmfdjaa
open Go.RowKit
set_option maxRecDepth 8000
set_option linter.unusedSimpArgs false
set_option linter.unusedVariables false
set_option maxHeartbeats 400000 in
theorem l6In_c (n a b : Int) (w : World) : Calls Try.prog 21 #[.int .i64 n, .int .i64 a, .int .i64 b] w fun e w' => e = .returned (.bool (decide (a ≤ n ∧ n ≤ b))) ∧ w' = w := by
  by_cases h1 : a ≤ n
  · by_cases h2 : n ≤ b
    · have hF : Hid (decide (a ≤ n ∧ n ≤ b) = true) := Lib.hid (by simp [h1, h2])
      go_enter Try.func21, Try.ntmps21
      go_wp2_with fail
      all_goals
        go_ret
        exact ⟨ret_bool (by first | rfl | (simp; omega)), rfl⟩
    · have hF : Hid (decide (a ≤ n ∧ n ≤ b) = false) := Lib.hid (by simp [h2])
      go_enter Try.func21, Try.ntmps21
      go_wp2_with fail
      all_goals
        go_ret
        exact ⟨ret_bool (by first | rfl | (simp; omega)), rfl⟩
  · have hF : Hid (decide (a ≤ n ∧ n ≤ b) = false) := Lib.hid (by simp [h1])
    go_enter Try.func21, Try.ntmps21
    go_wp2_with fail
    all_goals
      go_ret
      exact ⟨ret_bool (by first | rfl | (simp; omega)), rfl⟩
def NumPost (r : Option Int) (e : Ending) : Prop := e = .returned (.tuple #[.int .i64 (r.getD 0), .bool r.isSome])
theorem bsv (s : ByteArray) : s = bs s.data.toList := bs_ext rfl
end Go.Proofs.Ytpaaglamcmfdjaa
