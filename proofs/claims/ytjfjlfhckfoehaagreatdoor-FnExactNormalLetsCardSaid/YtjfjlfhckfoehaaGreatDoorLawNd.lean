/- The law on NormalLets: its walk. -/
import Derived.Test.YtjfjlfhckfoehaaGreatDoorNf4
import Derived.Test.YtjfjlfhckfoehaaGreatDoorNf5
import Derived.Test.YtjfjlfhckfoehaaGreatDoorPureK
namespace Go.Proofs.YtjfjlfhckfoehaaGreatDoor
open Go.RowKit
set_option maxRecDepth 8000
set_option linter.unusedSimpArgs false
set_option linter.unusedVariables false
set_option maxHeartbeats 1000000 in
theorem walk_FnExactNormalLets (a0 : ByteArray) (w0 : a0.size ≤ maxLen) (w : World) :
    Calls Tryz.prog 11 #[.string a0] w fun e w' => e = .returned (.bool true) ∧ Below w.heap.size w w' := by
  by_cases h0 : a0.size ≤ 1048576
  · have hd0 : decide (1048576 < (a0.size : Int)) = false := by simp; omega
    obtain ⟨x0, hx⟩ := shape_i (letsOf a0.data.toList)
    have C1 : Hid (∀ W, Calls Tryz.prog 34 #[.string a0] W fun e w' => e = .returned (.int .i64 x0) ∧ Below W.heap.size W w') := Lib.hid (fun W => (specNormalLets_c a0 h0 W).mono fun e w' ⟨k1, k2⟩ => ⟨hx e k1, k2⟩)
    have C2 : Hid (∀ W, Calls Tryz.prog 35 #[.string a0] W fun e w' => e = .returned (.int .i64 x0) ∧ Below W.heap.size W w') := Lib.hid (fun W => (implNormalLets_c a0 h0 W).mono fun e w' ⟨k1, k2⟩ => ⟨hx e k1, k2⟩)
    clear hx
    go_enter Tryz.func11, Tryz.ntmps11
    go_wp2_with (first | (go_at_call 34; go_must (refine (C1.out _).mono ?_; rintro e w1 ⟨rfl, hb1⟩)) | (go_at_call 35; go_must (refine (C2.out _).mono ?_; rintro e w2 ⟨rfl, hb2⟩)))
    go_ret
    exact ⟨rfl, hb1.trans (hb2.mono hb1.size)⟩
  · have hd0 : decide (1048576 < (a0.size : Int)) = true := by simp; omega
    have hm0 := maxLen_le w0
    go_enter Tryz.func11, Tryz.ntmps11
    go_wp2_with fail
    go_ret
    exact ⟨rfl, Below.refl _ _⟩
end Go.Proofs.YtjfjlfhckfoehaaGreatDoor
