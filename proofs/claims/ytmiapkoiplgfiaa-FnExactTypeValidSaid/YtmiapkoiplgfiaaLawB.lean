/- The program's answers that are numbers and bools; the walks of the laws on them. -/
import Derived.Test.YtmiapkoiplgfiaaImpl1h
import Derived.Test.YtmiapkoiplgfiaaSpec1f
namespace Go.Proofs.Ytmiapkoiplgfiaa
open Go.RowKit
set_option linter.unusedSimpArgs false
set_option linter.unusedVariables false
theorem tyPost_shape {B : Nat} {res : Option Tr} {e : Ending} {w' : World} (h : TyPost B res e w') :
    ∃ a p n c x y z, e = .returned (.tuple #[.agg #[.string a, .slice p n c, .int .i64 x, .int .i64 y, .int .i64 z], .bool res.isSome]) := by
  match res, h with
  | none, h => exact ⟨_, _, _, _, _, _, _, h⟩
  | some t, ⟨p, n, c, h1, _⟩ => exact ⟨_, _, _, _, _, _, _, h1⟩
set_option maxHeartbeats 400000 in
theorem implTypeValid_c (s : ByteArray) (hs : s.size ≤ 1048576) (w : World) :
    Calls Try.prog 23 #[.string s] w fun e w' => e = .returned (.bool (readTy s.data.toList).isSome) ∧ Below w.heap.size w w' := by
  go_enter Try.func23, Try.ntmps23
  go_wp2_with (go_at_call 46; go_must (refine (readType_c s hs _).mono ?_; rintro e w1 ⟨hp, hb1⟩; obtain ⟨a, p, n, c, x, y, z, rfl⟩ := tyPost_shape hp; clear hp))
  go_ret
  exact ⟨rfl, hb1.alloc hb1.size _⟩
set_option maxHeartbeats 400000 in
theorem implTypeOrder_c (s : ByteArray) (hs : s.size ≤ 1048576) (w : World) :
    Calls Try.prog 29 #[.string s] w fun e w' => e = .returned (.int .i64 (orderOf s.data.toList)) ∧ Below w.heap.size w w' := by
  cases hr : readTy s.data.toList with
  | none =>
    have C : Hid (∀ W, Calls Try.prog 46 #[.string s] W fun e w' => e = .returned (.tuple #[.agg #[.string ⟨#[]⟩, .slice none 0 0, .int .i64 0, .int .i64 0, .int .i64 0], .bool false]) ∧ Below W.heap.size W w') := Lib.hid (fun W => (readType_c s hs W).mono fun e w' ⟨h1, h2⟩ => ⟨by rw [hr] at h1; exact h1, h2⟩)
    have HD := Lib.hid (show orderOf s.data.toList = -1 from by simp [orderOf, hr])
    clear hr
    go_enter Try.func29, Try.ntmps29
    go_wp2_with (go_at_call 46; go_must (refine (C.out _).mono ?_; rintro e w1 ⟨rfl, hb1⟩))
    go_ret
    exact ⟨ret_int HD.out.symm, hb1.alloc hb1.size _⟩
  | some t =>
    have C : Hid (∀ W, Calls Try.prog 46 #[.string s] W fun e w' => (∃ p n c, e = .returned (.tuple #[.agg #[.string (bs (atomOf t)), .slice p n c, .int .i64 t.bytes, .int .i64 t.size, .int .i64 t.depth], .bool true]) ∧ FV nI w' (fun k => W.heap.size ≤ k ∧ k < w'.heap.size) t (nI t (.slice p n c))) ∧ Below W.heap.size W w') := Lib.hid (fun W => (readType_c s hs W).mono fun e w' ⟨h1, h2⟩ => ⟨by rw [hr] at h1; exact h1, h2⟩)
    have HD := Lib.hid (show orderOf s.data.toList = (tyOrder t : Int) from by simp [orderOf, hr])
    have hg := readTy_got hr
    have T : Hid (∀ (W : World) (p : Option Addr) (n c : Nat) (ok : Nat → Prop), FV nI W ok t (nI t (.slice p n c)) → (∀ k, ok k → k < W.heap.size) → Calls Try.prog 50 #[.agg #[.string (bs (atomOf t)), .slice p n c, .int .i64 t.bytes, .int .i64 t.size, .int .i64 t.depth]] W fun e w' => e = .returned (.int .i64 (tyOrder t)) ∧ Below W.heap.size W w') :=
      Lib.hid (fun W p n c ok h1 h2 => order_c (t.depth + 1) t p n c ok W (by omega) (by omega) hg.1 hg.2.2.2.2.1 h1 h2)
    clear hr
    go_enter Try.func29, Try.ntmps29
    go_wp2_with (first | (go_at_call 46; go_must (refine (C.out _).mono ?_; rintro e w1 ⟨⟨p, n, c, rfl, hv⟩, hb1⟩)) | (go_at_call 50; go_must (refine (T.out _ p n c (fun k => w.heap.size ≤ k ∧ k < w1.heap.size) (hv.below (below1 _ _) (fun k hk => hk.2)) (fun k hk => by simp; omega)).mono ?_; rintro e w2 ⟨rfl, hb2⟩)))
    go_ret
    exact ⟨ret_int HD.out.symm, (hb1.alloc hb1.size _).trans (hb2.mono (by have := hb1.size; simp; omega))⟩

set_option maxHeartbeats 400000 in
theorem walk_FnExactTypeValid (a0 : ByteArray) (w0 : a0.size ≤ maxLen) (w : World) :
    Calls Try.prog 6 #[.string a0] w fun e w' => e = .returned (.bool true) ∧ Below w.heap.size w w' := by
  by_cases hs : a0.size ≤ 1048576
  · have hd : decide (1048576 < (a0.size : Int)) = false := by simp; omega
    go_enter Try.func6, Try.ntmps6
    go_wp2_with (first | (go_at_call 22; go_must (refine (specTypeValid_c a0 hs _).mono ?_; rintro e w1 ⟨rfl, hb1⟩)) | (go_at_call 23; go_must (refine (implTypeValid_c a0 hs _).mono ?_; rintro e w2 ⟨rfl, hb2⟩)))
    go_ret
    exact ⟨rfl, hb1.trans (hb2.mono hb1.size)⟩
  · have hd : decide (1048576 < (a0.size : Int)) = true := by simp; omega
    have hm := maxLen_le w0
    go_enter Try.func6, Try.ntmps6
    go_wp2_with fail
    go_ret
    exact ⟨rfl, Below.refl _ _⟩

set_option maxHeartbeats 400000 in
theorem walk_FnExactTypeOrder (a0 : ByteArray) (w0 : a0.size ≤ maxLen) (w : World) :
    Calls Try.prog 9 #[.string a0] w fun e w' => e = .returned (.bool true) ∧ Below w.heap.size w w' := by
  by_cases hs : a0.size ≤ 1048576
  · have hd : decide (1048576 < (a0.size : Int)) = false := by simp; omega
    go_enter Try.func9, Try.ntmps9
    go_wp2_with (first | (go_at_call 28; go_must (refine (specTypeOrder_c a0 hs _).mono ?_; rintro e w1 ⟨rfl, hb1⟩)) | (go_at_call 29; go_must (refine (implTypeOrder_c a0 hs _).mono ?_; rintro e w2 ⟨rfl, hb2⟩)))
    go_ret
    exact ⟨rfl, hb1.trans (hb2.mono hb1.size)⟩
  · have hd : decide (1048576 < (a0.size : Int)) = true := by simp; omega
    have hm := maxLen_le w0
    go_enter Try.func9, Try.ntmps9
    go_wp2_with fail
    go_ret
    exact ⟨rfl, Below.refl _ _⟩
end Go.Proofs.Ytmiapkoiplgfiaa
