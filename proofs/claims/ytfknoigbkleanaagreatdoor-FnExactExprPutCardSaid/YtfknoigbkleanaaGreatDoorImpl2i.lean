/- The program's expressions: heads and kids by the methods of their types. -/
import Derived.Test.YtfknoigbkleanaaGreatDoorI2e
import Derived.Test.YtfknoigbkleanaaGreatDoorB3
import Derived.Handy
namespace Go.Proofs.YtfknoigbkleanaaGreatDoor
open Go.RowKit
set_option maxRecDepth 8000
set_option linter.unusedSimpArgs false
set_option linter.unusedVariables false
theorem head_name_c (vs : Array Value) (w : World) : Calls Tryz.prog 246 #[.agg vs] w fun e w' => e = .returned (.string (bs [110, 97, 109, 101])) ∧ Below w.heap.size w w' := by
  rw [show bs [110, 97, 109, 101] = ⟨#[110, 97, 109, 101]⟩ from rfl]
  go_enter Tryz.func246, Tryz.ntmps246
  go_wp2_with fail
  go_ret
  exact ⟨rfl, below1 _ _⟩
theorem head_number_c (vs : Array Value) (w : World) : Calls Tryz.prog 254 #[.agg vs] w fun e w' => e = .returned (.string (bs [110, 117, 109, 98, 101, 114])) ∧ Below w.heap.size w w' := by
  rw [show bs [110, 117, 109, 98, 101, 114] = ⟨#[110, 117, 109, 98, 101, 114]⟩ from rfl]
  go_enter Tryz.func254, Tryz.ntmps254
  go_wp2_with fail
  go_ret
  exact ⟨rfl, below1 _ _⟩
theorem head_add_c (vs : Array Value) (w : World) : Calls Tryz.prog 257 #[.agg vs] w fun e w' => e = .returned (.string (bs [43])) ∧ Below w.heap.size w w' := by
  rw [show bs [43] = ⟨#[43]⟩ from rfl]
  go_enter Tryz.func257, Tryz.ntmps257
  go_wp2_with fail
  go_ret
  exact ⟨rfl, below1 _ _⟩
theorem head_sub_c (vs : Array Value) (w : World) : Calls Tryz.prog 259 #[.agg vs] w fun e w' => e = .returned (.string (bs [45])) ∧ Below w.heap.size w w' := by
  rw [show bs [45] = ⟨#[45]⟩ from rfl]
  go_enter Tryz.func259, Tryz.ntmps259
  go_wp2_with fail
  go_ret
  exact ⟨rfl, below1 _ _⟩
theorem head_mul_c (vs : Array Value) (w : World) : Calls Tryz.prog 261 #[.agg vs] w fun e w' => e = .returned (.string (bs [42])) ∧ Below w.heap.size w w' := by
  rw [show bs [42] = ⟨#[42]⟩ from rfl]
  go_enter Tryz.func261, Tryz.ntmps261
  go_wp2_with fail
  go_ret
  exact ⟨rfl, below1 _ _⟩
theorem head_if_c (vs : Array Value) (w : World) : Calls Tryz.prog 263 #[.agg vs] w fun e w' => e = .returned (.string (bs [105, 102])) ∧ Below w.heap.size w w' := by
  rw [show bs [105, 102] = ⟨#[105, 102]⟩ from rfl]
  go_enter Tryz.func263, Tryz.ntmps263
  go_wp2_with fail
  go_ret
  exact ⟨rfl, below1 _ _⟩
theorem head_let_c (vs : Array Value) (w : World) : Calls Tryz.prog 240 #[.agg vs] w fun e w' => e = .returned (.string (bs [108, 101, 116])) ∧ Below w.heap.size w w' := by
  rw [show bs [108, 101, 116] = ⟨#[108, 101, 116]⟩ from rfl]
  go_enter Tryz.func240, Tryz.ntmps240
  go_wp2_with fail
  go_ret
  exact ⟨rfl, below1 _ _⟩
theorem head_fun_c (vs : Array Value) (w : World) : Calls Tryz.prog 243 #[.agg vs] w fun e w' => e = .returned (.string (bs [102, 117, 110])) ∧ Below w.heap.size w w' := by
  rw [show bs [102, 117, 110] = ⟨#[102, 117, 110]⟩ from rfl]
  go_enter Tryz.func243, Tryz.ntmps243
  go_wp2_with fail
  go_ret
  exact ⟨rfl, below1 _ _⟩
theorem head_call_c (vs : Array Value) (w : World) : Calls Tryz.prog 266 #[.agg vs] w fun e w' => e = .returned (.string (bs [99, 97, 108, 108])) ∧ Below w.heap.size w w' := by
  rw [show bs [99, 97, 108, 108] = ⟨#[99, 97, 108, 108]⟩ from rfl]
  go_enter Tryz.func266, Tryz.ntmps266
  go_wp2_with fail
  go_ret
  exact ⟨rfl, below1 _ _⟩
theorem head_pair_c (vs : Array Value) (w : World) : Calls Tryz.prog 251 #[.agg vs] w fun e w' => e = .returned (.string (bs [112, 97, 105, 114])) ∧ Below w.heap.size w w' := by
  rw [show bs [112, 97, 105, 114] = ⟨#[112, 97, 105, 114]⟩ from rfl]
  go_enter Tryz.func251, Tryz.ntmps251
  go_wp2_with fail
  go_ret
  exact ⟨rfl, below1 _ _⟩
theorem head_fst_c (vs : Array Value) (w : World) : Calls Tryz.prog 269 #[.agg vs] w fun e w' => e = .returned (.string (bs [102, 115, 116])) ∧ Below w.heap.size w w' := by
  rw [show bs [102, 115, 116] = ⟨#[102, 115, 116]⟩ from rfl]
  go_enter Tryz.func269, Tryz.ntmps269
  go_wp2_with fail
  go_ret
  exact ⟨rfl, below1 _ _⟩
theorem head_snd_c (vs : Array Value) (w : World) : Calls Tryz.prog 272 #[.agg vs] w fun e w' => e = .returned (.string (bs [115, 110, 100])) ∧ Below w.heap.size w w' := by
  rw [show bs [115, 110, 100] = ⟨#[115, 110, 100]⟩ from rfl]
  go_enter Tryz.func272, Tryz.ntmps272
  go_wp2_with fail
  go_ret
  exact ⟨rfl, below1 _ _⟩
theorem readExpr_none {s : ByteArray} (hs : s.size ≤ 1048576) (hp : readEx s.data.toList = none) (W : World) : Calls Tryz.prog 46 #[.string s] W fun e w' => (∃ v, e = .returned (.tuple #[v, .bool false])) ∧ Below W.heap.size W w' :=
  (readExpr_c s hs W).mono fun e w' ⟨h1, h2⟩ => ⟨by rw [hp] at h1; exact rdPost_shape h1, h2⟩
theorem readExpr_some {s : ByteArray} (hs : s.size ≤ 1048576) {x : Ex} (hp : readEx s.data.toList = some x) (W : World) : Calls Tryz.prog 46 #[.string s] W fun e w' => (∃ v, e = .returned (.tuple #[v, .bool true]) ∧ EV w' (fun k => W.heap.size ≤ k ∧ k < w'.heap.size) x v) ∧ Below W.heap.size W w' :=
  (readExpr_c s hs W).mono fun e w' ⟨h1, h2⟩ => ⟨by rw [hp] at h1; exact h1, h2⟩
def headI (l : List UInt8) : List UInt8 := match readEx l with | none => [] | some x => headOf x
theorem headI_none {l : List UInt8} (h : readEx l = none) : headI l = [] := by simp [headI, h]
theorem headI_some {l : List UInt8} {x : Ex} (h : readEx l = some x) : headI l = headOf x := by simp [headI, h]
set_option maxHeartbeats 2000000 in
theorem implExprHead_c (s : ByteArray) (hs : s.size ≤ 1048576) (w : World) :
    Calls Tryz.prog 24 #[.string s] w fun e w' => e = .returned (.string (bs (headI s.data.toList))) ∧ Below w.heap.size w w' := by
  cases hp : readEx s.data.toList with
  | none =>
    have C := Lib.hid (readExpr_none hs hp)
    rw [headI_none hp]
    clear hp
    go_enter Tryz.func24, Tryz.ntmps24
    go_wp2_with (go_at_call 46; go_must (refine (C.out _).mono ?_; rintro e w1 ⟨⟨v, rfl⟩, hb1⟩))
    go_ret
    exact ⟨rfl, hb1⟩
  | some t =>
    have C := Lib.hid (readExpr_some hs hp)
    rw [headI_some hp]
    clear hp
    match t, C with
    | .name s, C =>
      rw [show headOf (.name s) = [110, 97, 109, 101] from rfl]
      simp only [EV, op2T, op1T] at C
      go_enter Tryz.func24, Tryz.ntmps24
      go_wp2_with (first | (go_at_call 46; go_must (refine (C.out _).mono ?_; rintro e w1 ⟨⟨v, rfl, hv⟩, hb1⟩; subst hv)) | (go_at_call 246; go_must (refine (head_name_c _ _).mono ?_; rintro e w2 ⟨rfl, hb2⟩)))
      go_ret
      exact ⟨rfl, hb1.trans (hb2.mono hb1.size)⟩
    | .num n, C =>
      rw [show headOf (.num n) = [110, 117, 109, 98, 101, 114] from rfl]
      simp only [EV, op2T, op1T] at C
      go_enter Tryz.func24, Tryz.ntmps24
      go_wp2_with (first | (go_at_call 46; go_must (refine (C.out _).mono ?_; rintro e w1 ⟨⟨v, rfl, hv⟩, hb1⟩; subst hv)) | (go_at_call 254; go_must (refine (head_number_c _ _).mono ?_; rintro e w2 ⟨rfl, hb2⟩)))
      go_ret
      exact ⟨rfl, hb1.trans (hb2.mono hb1.size)⟩
    | .two .add a b, C =>
      rw [show headOf (.two .add a b) = [43] from rfl]
      simp only [EV, op2T, op1T] at C
      go_enter Tryz.func24, Tryz.ntmps24
      go_wp2_with (first | (go_at_call 46; go_must (refine (C.out _).mono ?_; rintro e w1 ⟨⟨v, rfl, hv⟩, hb1⟩; obtain ⟨x, y, rfl, _, _⟩ := hv)) | (go_at_call 257; go_must (refine (head_add_c _ _).mono ?_; rintro e w2 ⟨rfl, hb2⟩)))
      go_ret
      exact ⟨rfl, hb1.trans (hb2.mono hb1.size)⟩
    | .two .sub a b, C =>
      rw [show headOf (.two .sub a b) = [45] from rfl]
      simp only [EV, op2T, op1T] at C
      go_enter Tryz.func24, Tryz.ntmps24
      go_wp2_with (first | (go_at_call 46; go_must (refine (C.out _).mono ?_; rintro e w1 ⟨⟨v, rfl, hv⟩, hb1⟩; obtain ⟨x, y, rfl, _, _⟩ := hv)) | (go_at_call 259; go_must (refine (head_sub_c _ _).mono ?_; rintro e w2 ⟨rfl, hb2⟩)))
      go_ret
      exact ⟨rfl, hb1.trans (hb2.mono hb1.size)⟩
    | .two .mul a b, C =>
      rw [show headOf (.two .mul a b) = [42] from rfl]
      simp only [EV, op2T, op1T] at C
      go_enter Tryz.func24, Tryz.ntmps24
      go_wp2_with (first | (go_at_call 46; go_must (refine (C.out _).mono ?_; rintro e w1 ⟨⟨v, rfl, hv⟩, hb1⟩; obtain ⟨x, y, rfl, _, _⟩ := hv)) | (go_at_call 261; go_must (refine (head_mul_c _ _).mono ?_; rintro e w2 ⟨rfl, hb2⟩)))
      go_ret
      exact ⟨rfl, hb1.trans (hb2.mono hb1.size)⟩
    | .two .call a b, C =>
      rw [show headOf (.two .call a b) = [99, 97, 108, 108] from rfl]
      simp only [EV, op2T, op1T] at C
      go_enter Tryz.func24, Tryz.ntmps24
      go_wp2_with (first | (go_at_call 46; go_must (refine (C.out _).mono ?_; rintro e w1 ⟨⟨v, rfl, hv⟩, hb1⟩; obtain ⟨x, y, rfl, _, _⟩ := hv)) | (go_at_call 266; go_must (refine (head_call_c _ _).mono ?_; rintro e w2 ⟨rfl, hb2⟩)))
      go_ret
      exact ⟨rfl, hb1.trans (hb2.mono hb1.size)⟩
    | .two .pair a b, C =>
      rw [show headOf (.two .pair a b) = [112, 97, 105, 114] from rfl]
      simp only [EV, op2T, op1T] at C
      go_enter Tryz.func24, Tryz.ntmps24
      go_wp2_with (first | (go_at_call 46; go_must (refine (C.out _).mono ?_; rintro e w1 ⟨⟨v, rfl, hv⟩, hb1⟩; obtain ⟨x, y, rfl, _, _⟩ := hv)) | (go_at_call 251; go_must (refine (head_pair_c _ _).mono ?_; rintro e w2 ⟨rfl, hb2⟩)))
      go_ret
      exact ⟨rfl, hb1.trans (hb2.mono hb1.size)⟩
    | .one .fst a, C =>
      rw [show headOf (.one .fst a) = [102, 115, 116] from rfl]
      simp only [EV, op2T, op1T] at C
      go_enter Tryz.func24, Tryz.ntmps24
      go_wp2_with (first | (go_at_call 46; go_must (refine (C.out _).mono ?_; rintro e w1 ⟨⟨v, rfl, hv⟩, hb1⟩; obtain ⟨x, rfl, _⟩ := hv)) | (go_at_call 269; go_must (refine (head_fst_c _ _).mono ?_; rintro e w2 ⟨rfl, hb2⟩)))
      go_ret
      exact ⟨rfl, hb1.trans (hb2.mono hb1.size)⟩
    | .one .snd a, C =>
      rw [show headOf (.one .snd a) = [115, 110, 100] from rfl]
      simp only [EV, op2T, op1T] at C
      go_enter Tryz.func24, Tryz.ntmps24
      go_wp2_with (first | (go_at_call 46; go_must (refine (C.out _).mono ?_; rintro e w1 ⟨⟨v, rfl, hv⟩, hb1⟩; obtain ⟨x, rfl, _⟩ := hv)) | (go_at_call 272; go_must (refine (head_snd_c _ _).mono ?_; rintro e w2 ⟨rfl, hb2⟩)))
      go_ret
      exact ⟨rfl, hb1.trans (hb2.mono hb1.size)⟩
    | .cond a b c, C =>
      rw [show headOf (.cond a b c) = [105, 102] from rfl]
      simp only [EV, op2T, op1T] at C
      go_enter Tryz.func24, Tryz.ntmps24
      go_wp2_with (first | (go_at_call 46; go_must (refine (C.out _).mono ?_; rintro e w1 ⟨⟨v, rfl, hv⟩, hb1⟩; obtain ⟨x, y, z, rfl, _, _, _⟩ := hv)) | (go_at_call 263; go_must (refine (head_if_c _ _).mono ?_; rintro e w2 ⟨rfl, hb2⟩)))
      go_ret
      exact ⟨rfl, hb1.trans (hb2.mono hb1.size)⟩
    | .lete s e b, C =>
      rw [show headOf (.lete s e b) = [108, 101, 116] from rfl]
      simp only [EV, op2T, op1T] at C
      go_enter Tryz.func24, Tryz.ntmps24
      go_wp2_with (first | (go_at_call 46; go_must (refine (C.out _).mono ?_; rintro e w1 ⟨⟨v, rfl, hv⟩, hb1⟩; obtain ⟨x, y, rfl, _, _⟩ := hv)) | (go_at_call 240; go_must (refine (head_let_c _ _).mono ?_; rintro e w2 ⟨rfl, hb2⟩)))
      go_ret
      exact ⟨rfl, hb1.trans (hb2.mono hb1.size)⟩
    | .func f x A B e, C =>
      rw [show headOf (.func f x A B e) = [102, 117, 110] from rfl]
      simp only [EV, op2T, op1T] at C
      go_enter Tryz.func24, Tryz.ntmps24
      go_wp2_with (first | (go_at_call 46; go_must (refine (C.out _).mono ?_; rintro e w1 ⟨⟨v, rfl, hv⟩, hb1⟩; obtain ⟨pa, na, ca, pb, nb, cb, y, rfl, _, _, _⟩ := hv)) | (go_at_call 243; go_must (refine (head_fun_c _ _).mono ?_; rintro e w2 ⟨rfl, hb2⟩)))
      go_ret
      exact ⟨rfl, hb1.trans (hb2.mono hb1.size)⟩
end Go.Proofs.YtfknoigbkleanaaGreatDoor
