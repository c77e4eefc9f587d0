/- The laws on TypeFun and TypePair: their walks. -/
import Derived.Test.YtgliggljegghhaaImpl1k
import Derived.Test.YtgliggljegghhaaSpec1h
namespace Go.Proofs.Ytgliggljegghhaa
open Go.RowKit
set_option linter.unusedSimpArgs false
set_option linter.unusedVariables false
theorem twoPost_shape {r : Option (List UInt8 × List UInt8)} {e : Ending} (h : TwoPost r e) : e = .returned (.tuple #[.string (bs ((r.map (·.1)).getD [])), .string (bs ((r.map (·.2)).getD [])), .bool r.isSome]) := by
  match r, h with
  | none, h => exact h
  | some (a, b), h => exact h

set_option maxHeartbeats 400000 in
theorem specTypeFun_c (s : ByteArray) (hs : s.size ≤ 1048576) (w : World) :
    Calls Try.prog 8 #[.string s] w fun e w' => e = .returned (.tuple #[.string (bs (((sidesOf [62] s.data.toList).map (·.1)).getD [])), .string (bs (((sidesOf [62] s.data.toList).map (·.2)).getD [])), .bool (sidesOf [62] s.data.toList).isSome]) ∧ Below w.heap.size w w' := by
  obtain ⟨x, hx⟩ : ∃ x, x = bs (((sidesOf [62] s.data.toList).map (·.1)).getD []) := ⟨_, rfl⟩
  obtain ⟨y, hy⟩ : ∃ y, y = bs (((sidesOf [62] s.data.toList).map (·.2)).getD []) := ⟨_, rfl⟩
  obtain ⟨z, hz⟩ : ∃ z, z = (sidesOf [62] s.data.toList).isSome := ⟨_, rfl⟩
  have C : Hid (∀ W, Calls Try.prog 21 #[.string s, .string ⟨#[62]⟩] W fun e w' => e = .returned (.tuple #[.string x, .string y, .bool z]) ∧ Below W.heap.size W w') := Lib.hid (fun W => (l1Two_c s hs [62] W).mono fun e w' ⟨h1, h2⟩ => ⟨by rw [hx, hy, hz]; exact twoPost_shape h1, h2⟩)
  rw [← hx, ← hy, ← hz]
  clear hx hy hz
  go_enter Try.func8, Try.ntmps8
  go_wp2_with (go_at_call 21; go_must (refine (C.out _).mono ?_; rintro e w1 ⟨rfl, hb1⟩))
  go_ret3
  exact ⟨rfl, hb1⟩

set_option maxHeartbeats 400000 in
theorem implTypeFun_c (s : ByteArray) (hs : s.size ≤ 1048576) (w : World) :
    Calls Try.prog 9 #[.string s] w fun e w' => e = .returned (.tuple #[.string (bs (((sidesOf [62] s.data.toList).map (·.1)).getD [])), .string (bs (((sidesOf [62] s.data.toList).map (·.2)).getD [])), .bool (sidesOf [62] s.data.toList).isSome]) ∧ Below w.heap.size w w' := by
  obtain ⟨x, hx⟩ : ∃ x, x = bs (((sidesOf [62] s.data.toList).map (·.1)).getD []) := ⟨_, rfl⟩
  obtain ⟨y, hy⟩ : ∃ y, y = bs (((sidesOf [62] s.data.toList).map (·.2)).getD []) := ⟨_, rfl⟩
  obtain ⟨z, hz⟩ : ∃ z, z = (sidesOf [62] s.data.toList).isSome := ⟨_, rfl⟩
  have C : Hid (∀ W, Calls Try.prog 22 #[.string s, .string ⟨#[62]⟩] W fun e w' => e = .returned (.tuple #[.string x, .string y, .bool z]) ∧ Below W.heap.size W w') := Lib.hid (fun W => (typeSides_c s hs 62 W).mono fun e w' ⟨h1, h2⟩ => ⟨by rw [hx, hy, hz]; exact twoPost_shape h1, h2⟩)
  rw [← hx, ← hy, ← hz]
  clear hx hy hz
  go_enter Try.func9, Try.ntmps9
  go_wp2_with (go_at_call 22; go_must (refine (C.out _).mono ?_; rintro e w1 ⟨rfl, hb1⟩))
  go_ret3
  exact ⟨rfl, hb1⟩

set_option maxHeartbeats 1000000 in
theorem walk_FnExactTypeFun (a0 : ByteArray) (w0 : a0.size ≤ maxLen) (w : World) :
    Calls Try.prog 3 #[.string a0] w fun e w' => e = .returned (.bool true) ∧ Below w.heap.size w w' := by
  by_cases hs : a0.size ≤ 1048576
  · have hd : decide (1048576 < (a0.size : Int)) = false := by simp; omega
    obtain ⟨x, hx⟩ : ∃ x, x = bs (((sidesOf [62] a0.data.toList).map (·.1)).getD []) := ⟨_, rfl⟩
    obtain ⟨y, hy⟩ : ∃ y, y = bs (((sidesOf [62] a0.data.toList).map (·.2)).getD []) := ⟨_, rfl⟩
    obtain ⟨z, hz⟩ : ∃ z, z = (sidesOf [62] a0.data.toList).isSome := ⟨_, rfl⟩
    have C1 : Hid (∀ W, Calls Try.prog 8 #[.string a0] W fun e w' => e = .returned (.tuple #[.string x, .string y, .bool z]) ∧ Below W.heap.size W w') := Lib.hid (fun W => by have := specTypeFun_c a0 hs W; rwa [← hx, ← hy, ← hz] at this)
    have C2 : Hid (∀ W, Calls Try.prog 9 #[.string a0] W fun e w' => e = .returned (.tuple #[.string x, .string y, .bool z]) ∧ Below W.heap.size W w') := Lib.hid (fun W => by have := implTypeFun_c a0 hs W; rwa [← hx, ← hy, ← hz] at this)
    clear hx hy hz
    go_enter Try.func3, Try.ntmps3
    go_wp2_with (first | (go_at_call 8; go_must (refine (C1.out _).mono ?_; rintro e w1 ⟨rfl, hb1⟩)) | (go_at_call 9; go_must (refine (C2.out _).mono ?_; rintro e w2 ⟨rfl, hb2⟩)))
    go_ret
    exact ⟨rfl, hb1.trans (hb2.mono hb1.size)⟩
  · have hd : decide (1048576 < (a0.size : Int)) = true := by simp; omega
    have hm := maxLen_le w0
    go_enter Try.func3, Try.ntmps3
    go_wp2_with fail
    go_ret
    exact ⟨rfl, Below.refl _ _⟩

set_option maxHeartbeats 400000 in
theorem specTypePair_c (s : ByteArray) (hs : s.size ≤ 1048576) (w : World) :
    Calls Try.prog 10 #[.string s] w fun e w' => e = .returned (.tuple #[.string (bs (((sidesOf [42] s.data.toList).map (·.1)).getD [])), .string (bs (((sidesOf [42] s.data.toList).map (·.2)).getD [])), .bool (sidesOf [42] s.data.toList).isSome]) ∧ Below w.heap.size w w' := by
  obtain ⟨x, hx⟩ : ∃ x, x = bs (((sidesOf [42] s.data.toList).map (·.1)).getD []) := ⟨_, rfl⟩
  obtain ⟨y, hy⟩ : ∃ y, y = bs (((sidesOf [42] s.data.toList).map (·.2)).getD []) := ⟨_, rfl⟩
  obtain ⟨z, hz⟩ : ∃ z, z = (sidesOf [42] s.data.toList).isSome := ⟨_, rfl⟩
  have C : Hid (∀ W, Calls Try.prog 21 #[.string s, .string ⟨#[42]⟩] W fun e w' => e = .returned (.tuple #[.string x, .string y, .bool z]) ∧ Below W.heap.size W w') := Lib.hid (fun W => (l1Two_c s hs [42] W).mono fun e w' ⟨h1, h2⟩ => ⟨by rw [hx, hy, hz]; exact twoPost_shape h1, h2⟩)
  rw [← hx, ← hy, ← hz]
  clear hx hy hz
  go_enter Try.func10, Try.ntmps10
  go_wp2_with (go_at_call 21; go_must (refine (C.out _).mono ?_; rintro e w1 ⟨rfl, hb1⟩))
  go_ret3
  exact ⟨rfl, hb1⟩

set_option maxHeartbeats 400000 in
theorem implTypePair_c (s : ByteArray) (hs : s.size ≤ 1048576) (w : World) :
    Calls Try.prog 11 #[.string s] w fun e w' => e = .returned (.tuple #[.string (bs (((sidesOf [42] s.data.toList).map (·.1)).getD [])), .string (bs (((sidesOf [42] s.data.toList).map (·.2)).getD [])), .bool (sidesOf [42] s.data.toList).isSome]) ∧ Below w.heap.size w w' := by
  obtain ⟨x, hx⟩ : ∃ x, x = bs (((sidesOf [42] s.data.toList).map (·.1)).getD []) := ⟨_, rfl⟩
  obtain ⟨y, hy⟩ : ∃ y, y = bs (((sidesOf [42] s.data.toList).map (·.2)).getD []) := ⟨_, rfl⟩
  obtain ⟨z, hz⟩ : ∃ z, z = (sidesOf [42] s.data.toList).isSome := ⟨_, rfl⟩
  have C : Hid (∀ W, Calls Try.prog 22 #[.string s, .string ⟨#[42]⟩] W fun e w' => e = .returned (.tuple #[.string x, .string y, .bool z]) ∧ Below W.heap.size W w') := Lib.hid (fun W => (typeSides_c s hs 42 W).mono fun e w' ⟨h1, h2⟩ => ⟨by rw [hx, hy, hz]; exact twoPost_shape h1, h2⟩)
  rw [← hx, ← hy, ← hz]
  clear hx hy hz
  go_enter Try.func11, Try.ntmps11
  go_wp2_with (go_at_call 22; go_must (refine (C.out _).mono ?_; rintro e w1 ⟨rfl, hb1⟩))
  go_ret3
  exact ⟨rfl, hb1⟩

set_option maxHeartbeats 1000000 in
theorem walk_FnExactTypePair (a0 : ByteArray) (w0 : a0.size ≤ maxLen) (w : World) :
    Calls Try.prog 4 #[.string a0] w fun e w' => e = .returned (.bool true) ∧ Below w.heap.size w w' := by
  by_cases hs : a0.size ≤ 1048576
  · have hd : decide (1048576 < (a0.size : Int)) = false := by simp; omega
    obtain ⟨x, hx⟩ : ∃ x, x = bs (((sidesOf [42] a0.data.toList).map (·.1)).getD []) := ⟨_, rfl⟩
    obtain ⟨y, hy⟩ : ∃ y, y = bs (((sidesOf [42] a0.data.toList).map (·.2)).getD []) := ⟨_, rfl⟩
    obtain ⟨z, hz⟩ : ∃ z, z = (sidesOf [42] a0.data.toList).isSome := ⟨_, rfl⟩
    have C1 : Hid (∀ W, Calls Try.prog 10 #[.string a0] W fun e w' => e = .returned (.tuple #[.string x, .string y, .bool z]) ∧ Below W.heap.size W w') := Lib.hid (fun W => by have := specTypePair_c a0 hs W; rwa [← hx, ← hy, ← hz] at this)
    have C2 : Hid (∀ W, Calls Try.prog 11 #[.string a0] W fun e w' => e = .returned (.tuple #[.string x, .string y, .bool z]) ∧ Below W.heap.size W w') := Lib.hid (fun W => by have := implTypePair_c a0 hs W; rwa [← hx, ← hy, ← hz] at this)
    clear hx hy hz
    go_enter Try.func4, Try.ntmps4
    go_wp2_with (first | (go_at_call 10; go_must (refine (C1.out _).mono ?_; rintro e w1 ⟨rfl, hb1⟩)) | (go_at_call 11; go_must (refine (C2.out _).mono ?_; rintro e w2 ⟨rfl, hb2⟩)))
    go_ret
    exact ⟨rfl, hb1.trans (hb2.mono hb1.size)⟩
  · have hd : decide (1048576 < (a0.size : Int)) = true := by simp; omega
    have hm := maxLen_le w0
    go_enter Try.func4, Try.ntmps4
    go_wp2_with fail
    go_ret
    exact ⟨rfl, Below.refl _ _⟩
end Go.Proofs.Ytgliggljegghhaa
