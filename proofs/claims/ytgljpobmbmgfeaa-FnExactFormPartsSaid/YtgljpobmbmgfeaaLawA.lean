/- The walks of the laws on FormValid, FormSize, FormDepth. -/
import Derived.Test.YtgljpobmbmgfeaaImpl1e
import Derived.Test.YtgljpobmbmgfeaaSpec1b
namespace Go.Proofs.Ytgljpobmbmgfeaa
open Go.RowKit
set_option linter.unusedSimpArgs false
set_option linter.unusedVariables false
theorem readPost_shape {B : Nat} {res : Option Tr} {e : Ending} {w' : World} (h : ReadPost B res e w') :
    ∃ a p n c x y z, e = .returned (.tuple #[.agg #[.string a, .slice p n c, .int .i64 x, .int .i64 y, .int .i64 z], .bool res.isSome]) := by
  match res, h with
  | none, h => exact ⟨_, _, _, _, _, _, _, h⟩
  | some t, ⟨p, n, c, h1, _⟩ => exact ⟨_, _, _, _, _, _, _, h1⟩
theorem parsePost_shape {B : Nat} {res : Option Tr} {e : Ending} {w' : World} (h : ParsePost B res e w') :
    ∃ a p n c, e = .returned (.tuple #[.agg #[.string a, .slice p n c], .bool res.isSome]) := by
  match res, h with
  | none, ⟨a, p, n, c, h1, _⟩ => exact ⟨_, _, _, _, h1⟩
  | some t, ⟨p, n, c, h1, _⟩ => exact ⟨_, _, _, _, h1⟩
set_option maxHeartbeats 400000 in
theorem specFormValid_c (s : ByteArray) (hs : s.size ≤ 1048576) (w : World) :
    Calls Try.prog 15 #[.string s] w fun e w' => e = .returned (.bool (parse s.data.toList).isSome) ∧ Below w.heap.size w w' := by
  go_enter Try.func15, Try.ntmps15
  go_wp2_with (go_at_call 44; go_must (refine (l1Parse_c s hs _).mono ?_; rintro e w1 ⟨hp, hb1⟩; obtain ⟨a, p, n, c, rfl⟩ := parsePost_shape hp; clear hp))
  go_ret
  exact ⟨rfl, hb1.alloc hb1.size _⟩
set_option maxHeartbeats 400000 in
theorem implFormValid_c (s : ByteArray) (hs : s.size ≤ 1048576) (w : World) :
    Calls Try.prog 16 #[.string s] w fun e w' => e = .returned (.bool (parse s.data.toList).isSome) ∧ Below w.heap.size w w' := by
  go_enter Try.func16, Try.ntmps16
  go_wp2_with (go_at_call 45; go_must (refine (readForm_c s hs _).mono ?_; rintro e w1 ⟨hp, hb1⟩; obtain ⟨a, p, n, c, x, y, z, rfl⟩ := readPost_shape hp; clear hp))
  go_ret
  exact ⟨rfl, hb1.alloc hb1.size _⟩
set_option maxHeartbeats 400000 in
theorem walk_FnExactFormValid (a0 : ByteArray) (w0 : a0.size ≤ maxLen) (w : World) :
    Calls Try.prog 3 #[.string a0] w fun e w' => e = .returned (.bool true) ∧ Below w.heap.size w w' := by
  by_cases hs : a0.size ≤ 1048576
  · have hd : decide (1048576 < (a0.size : Int)) = false := by simp; omega
    go_enter Try.func3, Try.ntmps3
    go_wp2_with (first | (go_at_call 15; go_must (refine (specFormValid_c a0 hs _).mono ?_; rintro e w1 ⟨rfl, hb1⟩)) | (go_at_call 16; go_must (refine (implFormValid_c a0 hs _).mono ?_; rintro e w2 ⟨rfl, hb2⟩)))
    go_ret
    exact ⟨rfl, hb1.trans (hb2.mono hb1.size)⟩
  · have hd : decide (1048576 < (a0.size : Int)) = true := by simp; omega
    have hm := maxLen_le w0
    go_enter Try.func3, Try.ntmps3
    go_wp2_with fail
    go_ret
    exact ⟨rfl, Below.refl _ _⟩
end Go.Proofs.Ytgljpobmbmgfeaa
