/- The program's answers that are numbers and bools; the walks of the laws on them. -/
import Derived.Test.YtpmlpmdgmapilaaI1z
import Derived.Test.YtpmlpmdgmapilaaS1z
namespace Go.Proofs.Ytpmlpmdgmapilaa
open Go.RowKit
set_option maxRecDepth 8000
set_option linter.unusedSimpArgs false
set_option linter.unusedVariables false
theorem tyPost_shape {B : Nat} {res : Option Tr} {e : Ending} {w' : World} (h : TyPost B res e w') :
    ∃ a p n c x y z, e = .returned (.tuple #[.agg #[.string a, .slice p n c, .int .i64 x, .int .i64 y, .int .i64 z], .bool res.isSome]) := by
  match res, h with
  | none, h => exact ⟨_, _, _, _, _, _, _, h⟩
  | some t, ⟨p, n, c, h1, _⟩ => exact ⟨_, _, _, _, _, _, _, h1⟩
set_option maxHeartbeats 400000 in
theorem implTypeValid_c (s : ByteArray) (hs : s.size ≤ 1048576) (w : World) :
    Calls Try.prog 39 #[.string s] w fun e w' => e = .returned (.bool (readTy s.data.toList).isSome) ∧ Below w.heap.size w w' := by
  go_enter Try.func39, Try.ntmps39
  go_wp2_with (go_at_call 74; go_must (refine (readType_c s hs _).mono ?_; rintro e w1 ⟨hp, hb1⟩; obtain ⟨a, p, n, c, x, y, z, rfl⟩ := tyPost_shape hp; clear hp))
  go_ret
  exact ⟨rfl, hb1.alloc hb1.size _⟩
set_option maxHeartbeats 400000 in
theorem implTypeOrder_c (s : ByteArray) (hs : s.size ≤ 1048576) (w : World) :
    Calls Try.prog 43 #[.string s] w fun e w' => e = .returned (.int .i64 (orderOf s.data.toList)) ∧ Below w.heap.size w w' := by
  cases hr : readTy s.data.toList with
  | none =>
    have C : Hid (∀ W, Calls Try.prog 74 #[.string s] W fun e w' => e = .returned (.tuple #[.agg #[.string ⟨#[]⟩, .slice none 0 0, .int .i64 0, .int .i64 0, .int .i64 0], .bool false]) ∧ Below W.heap.size W w') := Lib.hid (fun W => (readType_c s hs W).mono fun e w' ⟨h1, h2⟩ => ⟨by rw [hr] at h1; exact h1, h2⟩)
    have HD := Lib.hid (show orderOf s.data.toList = -1 from by simp [orderOf, hr])
    clear hr
    go_enter Try.func43, Try.ntmps43
    go_wp2_with (go_at_call 74; go_must (refine (C.out _).mono ?_; rintro e w1 ⟨rfl, hb1⟩))
    go_ret
    exact ⟨ret_int HD.out.symm, hb1.alloc hb1.size _⟩
  | some t =>
    have C : Hid (∀ W, Calls Try.prog 74 #[.string s] W fun e w' => (∃ p n c, e = .returned (.tuple #[.agg #[.string (bs (atomOf t)), .slice p n c, .int .i64 t.bytes, .int .i64 t.size, .int .i64 t.depth], .bool true]) ∧ FV nI w' (fun k => W.heap.size ≤ k ∧ k < w'.heap.size) t (nI t (.slice p n c))) ∧ Below W.heap.size W w') := Lib.hid (fun W => (readType_c s hs W).mono fun e w' ⟨h1, h2⟩ => ⟨by rw [hr] at h1; exact h1, h2⟩)
    have HD := Lib.hid (show orderOf s.data.toList = (tyOrder t : Int) from by simp [orderOf, hr])
    have hg := readTy_got hr
    have T : Hid (∀ (W : World) (p : Option Addr) (n c : Nat) (ok : Nat → Prop), FV nI W ok t (nI t (.slice p n c)) → (∀ k, ok k → k < W.heap.size) → Calls Try.prog 77 #[.agg #[.string (bs (atomOf t)), .slice p n c, .int .i64 t.bytes, .int .i64 t.size, .int .i64 t.depth]] W fun e w' => e = .returned (.int .i64 (tyOrder t)) ∧ Below W.heap.size W w') :=
      Lib.hid (fun W p n c ok h1 h2 => order_c (t.depth + 1) t p n c ok W (by omega) (by omega) hg.1 hg.2.2.2.2.1 h1 h2)
    clear hr
    go_enter Try.func43, Try.ntmps43
    go_wp2_with (first | (go_at_call 74; go_must (refine (C.out _).mono ?_; rintro e w1 ⟨⟨p, n, c, rfl, hv⟩, hb1⟩)) | (go_at_call 77; go_must (refine (T.out _ p n c (fun k => w.heap.size ≤ k ∧ k < w1.heap.size) (hv.below (below1 _ _) (fun k hk => hk.2)) (fun k hk => by simp; omega)).mono ?_; rintro e w2 ⟨rfl, hb2⟩)))
    go_ret
    exact ⟨ret_int HD.out.symm, (hb1.alloc hb1.size _).trans (hb2.mono (by have := hb1.size; simp; omega))⟩

set_option maxHeartbeats 400000 in
theorem implFormSize_c (s : ByteArray) (hs : s.size ≤ 1048576) (w : World) :
    Calls Try.prog 20 #[.string s] w fun e w' => e = .returned (.int .i64 (sizeOfText s.data.toList)) ∧ Below w.heap.size w w' := by
  cases hp : parse s.data.toList with
  | none =>
    have C := Lib.hid (readForm_none hs hp)
    have HD := Lib.hid (show sizeOfText s.data.toList = -1 from by simp [sizeOfText, hp])
    clear hp
    go_enter Try.func20, Try.ntmps20
    go_wp2_with (go_at_call 55; go_must (refine (C.out _).mono ?_; rintro e w1 ⟨rfl, hb1⟩))
    go_ret
    exact ⟨ret_int HD.out.symm, hb1.alloc hb1.size _⟩
  | some t =>
    have C := Lib.hid (readForm_some hs hp)
    have HD := Lib.hid (show sizeOfText s.data.toList = (t.size : Int) from by simp [sizeOfText, hp])
    clear hp
    go_enter Try.func20, Try.ntmps20
    go_wp2_with (go_at_call 55; go_must (refine (C.out _).mono ?_; rintro e w1 ⟨⟨p, n, c, rfl, hv⟩, hb1⟩))
    go_ret
    exact ⟨ret_int HD.out.symm, hb1.alloc hb1.size _⟩

set_option maxHeartbeats 400000 in
theorem implFormDepth_c (s : ByteArray) (hs : s.size ≤ 1048576) (w : World) :
    Calls Try.prog 19 #[.string s] w fun e w' => e = .returned (.int .i64 (depthOfText s.data.toList)) ∧ Below w.heap.size w w' := by
  cases hp : parse s.data.toList with
  | none =>
    have C := Lib.hid (readForm_none hs hp)
    have HD := Lib.hid (show depthOfText s.data.toList = -1 from by simp [depthOfText, hp])
    clear hp
    go_enter Try.func19, Try.ntmps19
    go_wp2_with (go_at_call 55; go_must (refine (C.out _).mono ?_; rintro e w1 ⟨rfl, hb1⟩))
    go_ret
    exact ⟨ret_int HD.out.symm, hb1.alloc hb1.size _⟩
  | some t =>
    have C := Lib.hid (readForm_some hs hp)
    have HD := Lib.hid (show depthOfText s.data.toList = (t.depth : Int) from by simp [depthOfText, hp])
    clear hp
    go_enter Try.func19, Try.ntmps19
    go_wp2_with (go_at_call 55; go_must (refine (C.out _).mono ?_; rintro e w1 ⟨⟨p, n, c, rfl, hv⟩, hb1⟩))
    go_ret
    exact ⟨ret_int HD.out.symm, hb1.alloc hb1.size _⟩

end Go.Proofs.Ytpmlpmdgmapilaa
