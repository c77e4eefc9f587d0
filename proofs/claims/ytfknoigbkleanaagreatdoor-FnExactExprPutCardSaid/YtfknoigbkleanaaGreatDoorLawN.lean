/- The law on ExprPut: its walk. -/
import Derived.Test.YtfknoigbkleanaaGreatDoorSpec2n
namespace Go.Proofs.YtfknoigbkleanaaGreatDoor
open Go.RowKit
set_option maxRecDepth 8000
set_option linter.unusedSimpArgs false
set_option linter.unusedVariables false
theorem txPost_shape (r : Option (List UInt8)) : ∃ x0 x1, ∀ e, TxPost r e → e = .returned (.tuple #[.string x0, .bool x1]) := ⟨_, _, fun e h => h⟩
set_option maxHeartbeats 1000000 in
theorem walk_FnExactExprPut (a0 : ByteArray) (w0 : a0.size ≤ maxLen) (a1 : ByteArray) (w1 : a1.size ≤ maxLen) (a2 : ByteArray) (w2 : a2.size ≤ maxLen) (w : World) (hT : Tab w) :
    Calls Tryz.prog 9 #[.string a0, .string a1, .string a2] w fun e w' => e = .returned (.bool true) ∧ Below w.heap.size w w' := by
  by_cases h0 : a0.size ≤ 1048576
  · have hd0 : decide (1048576 < (a0.size : Int)) = false := by simp; omega
    by_cases h1 : a1.size ≤ 1048576
    · have hd1 : decide (1048576 < (a1.size : Int)) = false := by simp; omega
      by_cases h2 : a2.size ≤ 1048576
      · have hd2 : decide (1048576 < (a2.size : Int)) = false := by simp; omega
        obtain ⟨x0, x1, hx⟩ := txPost_shape (putTx a0.data.toList a1.data.toList a2.data.toList)
        have C1 : Hid (∀ W, Calls Tryz.prog 38 #[.string a0, .string a1, .string a2] W fun e w' => e = .returned (.tuple #[.string x0, .bool x1]) ∧ Below W.heap.size W w') := Lib.hid (fun W => (specExprPut_c a0 a1 a2 h0 h1 h2 W).mono fun e w' ⟨k1, k2⟩ => ⟨hx e k1, k2⟩)
        have hT := Lib.hid hT
        have C2 : Hid (∀ W, Tab W → Calls Tryz.prog 39 #[.string a0, .string a1, .string a2] W fun e w' => e = .returned (.tuple #[.string x0, .bool x1]) ∧ Below W.heap.size W w') := Lib.hid (fun W hTW => (implExprPut_c a0 a1 a2 h0 h1 h2 W hTW).mono fun e w' ⟨k1, k2⟩ => ⟨hx e k1, k2⟩)
        clear hx
        go_enter Tryz.func9, Tryz.ntmps9
        go_wp2_with (first | (go_at_call 38; go_must (refine (C1.out _).mono ?_; rintro e w1 ⟨rfl, hb1⟩)) | (go_at_call 39; go_must (refine (C2.out _ (hT.out.below hb1)).mono ?_; rintro e w2 ⟨rfl, hb2⟩)))
        go_ret
        exact ⟨rfl, hb1.trans (hb2.mono hb1.size)⟩
      · have hd2 : decide (1048576 < (a2.size : Int)) = true := by simp; omega
        have hm2 := maxLen_le w2
        go_enter Tryz.func9, Tryz.ntmps9
        go_wp2_with fail
        go_ret
        exact ⟨rfl, Below.refl _ _⟩
    · have hd1 : decide (1048576 < (a1.size : Int)) = true := by simp; omega
      have hm1 := maxLen_le w1
      go_enter Tryz.func9, Tryz.ntmps9
      go_wp2_with fail
      go_ret
      exact ⟨rfl, Below.refl _ _⟩
  · have hd0 : decide (1048576 < (a0.size : Int)) = true := by simp; omega
    have hm0 := maxLen_le w0
    go_enter Tryz.func9, Tryz.ntmps9
    go_wp2_with fail
    go_ret
    exact ⟨rfl, Below.refl _ _⟩
end Go.Proofs.YtfknoigbkleanaaGreatDoor
