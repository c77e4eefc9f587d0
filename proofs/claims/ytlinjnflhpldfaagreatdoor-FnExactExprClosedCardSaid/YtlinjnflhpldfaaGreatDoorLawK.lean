/- Walks of laws. -/
import Derived.Test.YtlinjnflhpldfaaGreatDoorPureK
namespace Go.Proofs.YtlinjnflhpldfaaGreatDoor
open Go.RowKit
set_option maxRecDepth 8000
set_option linter.unusedSimpArgs false
set_option linter.unusedVariables false
set_option maxHeartbeats 1000000 in
theorem walk_FnExactExprCount (a0 : ByteArray) (w0 : a0.size ≤ maxLen) (a1 : ByteArray) (w1 : a1.size ≤ maxLen) (w : World) :
    Calls Tryz.prog 9 #[.string a0, .string a1] w fun e w' => e = .returned (.bool true) ∧ Below w.heap.size w w' := by
  by_cases h0 : a0.size ≤ 1048576
  · have hd0 : decide (1048576 < (a0.size : Int)) = false := by simp; omega
    by_cases h1 : a1.size ≤ 1048576
    · have hd1 : decide (1048576 < (a1.size : Int)) = false := by simp; omega
      obtain ⟨x0, hx⟩ := shape_i (cntE a0.data.toList a1.data.toList)
      have C1 : Hid (∀ W, Calls Tryz.prog 27 #[.string a0, .string a1] W fun e w' => e = .returned (.int .i64 x0) ∧ Below W.heap.size W w') := Lib.hid (fun W => (specExprCount_c a0 a1 h0 h1 W).mono fun e w' ⟨k1, k2⟩ => ⟨hx e k1, k2⟩)
      have C2 : Hid (∀ W, Calls Tryz.prog 28 #[.string a0, .string a1] W fun e w' => e = .returned (.int .i64 x0) ∧ Below W.heap.size W w') := Lib.hid (fun W => (implExprCount_c a0 a1 h0 h1 W).mono fun e w' ⟨k1, k2⟩ => ⟨hx e k1, k2⟩)
      clear hx
      go_enter Tryz.func9, Tryz.ntmps9
      go_wp2_with (first | (go_at_call 27; go_must (refine (C1.out _).mono ?_; rintro e w1 ⟨rfl, hb1⟩)) | (go_at_call 28; go_must (refine (C2.out _).mono ?_; rintro e w2 ⟨rfl, hb2⟩)))
      go_ret
      exact ⟨rfl, hb1.trans (hb2.mono hb1.size)⟩
    · have hd1 : decide (1048576 < (a1.size : Int)) = true := by simp; omega
      have hm1 := maxLen_le w1
      go_enter Tryz.func9, Tryz.ntmps9
      go_wp2_with fail
      go_ret
      exact ⟨rfl, Below.refl _ _⟩
  · have hd0 : decide (1048576 < (a0.size : Int)) = true := by simp; omega
    have hm0 := maxLen_le w0
    go_enter Tryz.func9, Tryz.ntmps9
    go_wp2_with fail
    go_ret
    exact ⟨rfl, Below.refl _ _⟩
set_option maxHeartbeats 1000000 in
theorem walk_FnExactExprClosed (a0 : ByteArray) (w0 : a0.size ≤ maxLen) (w : World) :
    Calls Tryz.prog 5 #[.string a0] w fun e w' => e = .returned (.bool true) ∧ Below w.heap.size w w' := by
  by_cases h0 : a0.size ≤ 1048576
  · have hd0 : decide (1048576 < (a0.size : Int)) = false := by simp; omega
    obtain ⟨x0, hx⟩ := shape_b (readCl a0.data.toList).isSome
    have C1 : Hid (∀ W, Calls Tryz.prog 19 #[.string a0] W fun e w' => e = .returned (.bool x0) ∧ Below W.heap.size W w') := Lib.hid (fun W => (specExprClosed_c a0 h0 W).mono fun e w' ⟨k1, k2⟩ => ⟨hx e k1, k2⟩)
    have C2 : Hid (∀ W, Calls Tryz.prog 20 #[.string a0] W fun e w' => e = .returned (.bool x0) ∧ Below W.heap.size W w') := Lib.hid (fun W => (implExprClosed_c a0 h0 W).mono fun e w' ⟨k1, k2⟩ => ⟨hx e k1, k2⟩)
    clear hx
    go_enter Tryz.func5, Tryz.ntmps5
    go_wp2_with (first | (go_at_call 19; go_must (refine (C1.out _).mono ?_; rintro e w1 ⟨rfl, hb1⟩)) | (go_at_call 20; go_must (refine (C2.out _).mono ?_; rintro e w2 ⟨rfl, hb2⟩)))
    go_ret
    exact ⟨rfl, hb1.trans (hb2.mono hb1.size)⟩
  · have hd0 : decide (1048576 < (a0.size : Int)) = true := by simp; omega
    have hm0 := maxLen_le w0
    go_enter Tryz.func5, Tryz.ntmps5
    go_wp2_with fail
    go_ret
    exact ⟨rfl, Below.refl _ _⟩
end Go.Proofs.YtlinjnflhpldfaaGreatDoor
