/- Walks of laws. -/
import Derived.Test.YtgliggljegghhaaMade
namespace Go.Proofs.Ytgliggljegghhaa
open Go.RowKit
set_option linter.unusedSimpArgs false
set_option linter.unusedVariables false
set_option maxHeartbeats 1000000 in
theorem walk_FnExactTypeMake (a0 : Bool) (a1 : ByteArray) (w1 : a1.size ≤ maxLen) (a2 : ByteArray) (w2 : a2.size ≤ maxLen) (w : World) :
    Calls Try.prog 5 #[.bool a0, .string a1, .string a2] w fun e w' => e = .returned (.bool true) ∧ Below w.heap.size w w' := by
  by_cases h1 : a1.size ≤ 1048576
  · have hd1 : decide (1048576 < (a1.size : Int)) = false := by simp; omega
    by_cases h2 : a2.size ≤ 1048576
    · have hd2 : decide (1048576 < (a2.size : Int)) = false := by simp; omega
      obtain ⟨x0, x1, hx⟩ := makePost_shape (makeT (if a0 = true then 62 else 42) a1.data.toList a2.data.toList)
      have C1 : Hid (∀ W, Calls Try.prog 12 #[.bool a0, .string a1, .string a2] W fun e w' => e = .returned (.tuple #[.string x0, .bool x1]) ∧ Below W.heap.size W w') := Lib.hid (fun W => (specTypeMake_c a0 a1 a2 h1 h2 W).mono fun e w' ⟨k1, k2⟩ => ⟨hx e k1, k2⟩)
      have C2 : Hid (∀ W, Calls Try.prog 13 #[.bool a0, .string a1, .string a2] W fun e w' => e = .returned (.tuple #[.string x0, .bool x1]) ∧ Below W.heap.size W w') := Lib.hid (fun W => (implTypeMake_c a0 a1 a2 h1 h2 W).mono fun e w' ⟨k1, k2⟩ => ⟨hx e k1, k2⟩)
      clear hx
      go_enter Try.func5, Try.ntmps5
      go_wp2_with (first | (go_at_call 12; go_must (refine (C1.out _).mono ?_; rintro e w1 ⟨rfl, hb1⟩)) | (go_at_call 13; go_must (refine (C2.out _).mono ?_; rintro e w2 ⟨rfl, hb2⟩)))
      go_ret
      exact ⟨rfl, hb1.trans (hb2.mono hb1.size)⟩
    · have hd2 : decide (1048576 < (a2.size : Int)) = true := by simp; omega
      have hm2 := maxLen_le w2
      go_enter Try.func5, Try.ntmps5
      go_wp2_with fail
      go_ret
      exact ⟨rfl, Below.refl _ _⟩
  · have hd1 : decide (1048576 < (a1.size : Int)) = true := by simp; omega
    have hm1 := maxLen_le w1
    go_enter Try.func5, Try.ntmps5
    go_wp2_with fail
    go_ret
    exact ⟨rfl, Below.refl _ _⟩
end Go.Proofs.Ytgliggljegghhaa
