/- The program's expressions: heads and kids by the methods of their types. Type switches of the program: what an assertion answers. -/
import Derived.Test.YtfknoigbkleanaaGreatDoorqI2e
import Derived.Test.YtfknoigbkleanaaGreatDoorqB3
import Derived.Handy
import Derived.Test.YtfknoigbkleanaaGreatDoorqB1
namespace Go.Proofs.YtfknoigbkleanaaGreatDoor
open Go.RowKit Go.Proofs.Tryz
set_option maxRecDepth 8000
set_option maxHeartbeats 20000000
set_option linter.unusedVariables false
set_option linter.unusedSimpArgs false
theorem Z75 (vs : Array Value) (w : World) : Calls prog 246 #[.agg vs] w fun e w' => e = .returned (.string (bs [110, 97, 109, 101])) ∧ Below w.heap.size w w' := by
 rw [show bs [110, 97, 109, 101] = ⟨#[110, 97, 109, 101]⟩ from rfl]
 go_enter func246, ntmps246
 go_wp2_with fail
 go_ret
 exact ⟨rfl, Z4 _ _⟩
theorem Z50 (vs : Array Value) (w : World) : Calls prog 254 #[.agg vs] w fun e w' => e = .returned (.string (bs [110, 117, 109, 98, 101, 114])) ∧ Below w.heap.size w w' := by
 rw [show bs [110, 117, 109, 98, 101, 114] = ⟨#[110, 117, 109, 98, 101, 114]⟩ from rfl]
 go_enter func254, ntmps254
 go_wp2_with fail
 go_ret
 exact ⟨rfl, Z4 _ _⟩
theorem Z9c (vs : Array Value) (w : World) : Calls prog 257 #[.agg vs] w fun e w' => e = .returned (.string (bs [43])) ∧ Below w.heap.size w w' := by
 rw [show bs [43] = ⟨#[43]⟩ from rfl]
 go_enter func257, ntmps257
 go_wp2_with fail
 go_ret
 exact ⟨rfl, Z4 _ _⟩
theorem Z96 (vs : Array Value) (w : World) : Calls prog 259 #[.agg vs] w fun e w' => e = .returned (.string (bs [45])) ∧ Below w.heap.size w w' := by
 rw [show bs [45] = ⟨#[45]⟩ from rfl]
 go_enter func259, ntmps259
 go_wp2_with fail
 go_ret
 exact ⟨rfl, Z4 _ _⟩
theorem Z98 (vs : Array Value) (w : World) : Calls prog 261 #[.agg vs] w fun e w' => e = .returned (.string (bs [42])) ∧ Below w.heap.size w w' := by
 rw [show bs [42] = ⟨#[42]⟩ from rfl]
 go_enter func261, ntmps261
 go_wp2_with fail
 go_ret
 exact ⟨rfl, Z4 _ _⟩
theorem head_if_c (vs : Array Value) (w : World) : Calls prog 263 #[.agg vs] w fun e w' => e = .returned (.string (bs [105, 102])) ∧ Below w.heap.size w w' := by
 rw [show bs [105, 102] = ⟨#[105, 102]⟩ from rfl]
 go_enter func263, ntmps263
 go_wp2_with fail
 go_ret
 exact ⟨rfl, Z4 _ _⟩
theorem Z99 (vs : Array Value) (w : World) : Calls prog 240 #[.agg vs] w fun e w' => e = .returned (.string (bs [108, 101, 116])) ∧ Below w.heap.size w w' := by
 rw [show bs [108, 101, 116] = ⟨#[108, 101, 116]⟩ from rfl]
 go_enter func240, ntmps240
 go_wp2_with fail
 go_ret
 exact ⟨rfl, Z4 _ _⟩
theorem Z9a (vs : Array Value) (w : World) : Calls prog 243 #[.agg vs] w fun e w' => e = .returned (.string (bs [102, 117, 110])) ∧ Below w.heap.size w w' := by
 rw [show bs [102, 117, 110] = ⟨#[102, 117, 110]⟩ from rfl]
 go_enter func243, ntmps243
 go_wp2_with fail
 go_ret
 exact ⟨rfl, Z4 _ _⟩
theorem Z76 (vs : Array Value) (w : World) : Calls prog 266 #[.agg vs] w fun e w' => e = .returned (.string (bs [99, 97, 108, 108])) ∧ Below w.heap.size w w' := by
 rw [show bs [99, 97, 108, 108] = ⟨#[99, 97, 108, 108]⟩ from rfl]
 go_enter func266, ntmps266
 go_wp2_with fail
 go_ret
 exact ⟨rfl, Z4 _ _⟩
theorem Z74 (vs : Array Value) (w : World) : Calls prog 251 #[.agg vs] w fun e w' => e = .returned (.string (bs [112, 97, 105, 114])) ∧ Below w.heap.size w w' := by
 rw [show bs [112, 97, 105, 114] = ⟨#[112, 97, 105, 114]⟩ from rfl]
 go_enter func251, ntmps251
 go_wp2_with fail
 go_ret
 exact ⟨rfl, Z4 _ _⟩
theorem Z9b (vs : Array Value) (w : World) : Calls prog 269 #[.agg vs] w fun e w' => e = .returned (.string (bs [102, 115, 116])) ∧ Below w.heap.size w w' := by
 rw [show bs [102, 115, 116] = ⟨#[102, 115, 116]⟩ from rfl]
 go_enter func269, ntmps269
 go_wp2_with fail
 go_ret
 exact ⟨rfl, Z4 _ _⟩
theorem Z97 (vs : Array Value) (w : World) : Calls prog 272 #[.agg vs] w fun e w' => e = .returned (.string (bs [115, 110, 100])) ∧ Below w.heap.size w w' := by
 rw [show bs [115, 110, 100] = ⟨#[115, 110, 100]⟩ from rfl]
 go_enter func272, ntmps272
 go_wp2_with fail
 go_ret
 exact ⟨rfl, Z4 _ _⟩
theorem Z02 {s : ByteArray} (hs : s.size ≤ 1048576) (hp : Yb s.data.toList = none) (W : World) : Calls prog 46 #[.string s] W fun e w' => (∃ v, e = .returned (.tuple #[v, .bool false])) ∧ Below W.heap.size W w' :=
 (Z8j s hs W).mono fun e w' ⟨h1, h2⟩ => ⟨by rw [hp] at h1; exact Z0q h1, h2⟩
theorem Z01 {s : ByteArray} (hs : s.size ≤ 1048576) {x : Ex} (hp : Yb s.data.toList = some x) (W : World) : Calls prog 46 #[.string s] W fun e w' => (∃ v, e = .returned (.tuple #[v, .bool true]) ∧ EV w' (fun k => W.heap.size ≤ k ∧ k < w'.heap.size) x v) ∧ Below W.heap.size W w' :=
 (Z8j s hs W).mono fun e w' ⟨h1, h2⟩ => ⟨by rw [hp] at h1; exact h1, h2⟩
def headI (l : List UInt8) : List UInt8 := match Yb l with | none => [] | some x => Q5 x
theorem headI_none {l : List UInt8} (h : Yb l = none) : headI l = [] := by simp [headI, h]
theorem Z9d {l : List UInt8} {x : Ex} (h : Yb l = some x) : headI l = Q5 x := by simp [headI, h]
theorem Z95 (s : ByteArray) (hs : s.size ≤ 1048576) (w : World) :
 Calls prog 24 #[.string s] w fun e w' => e = .returned (.string (bs (headI s.data.toList))) ∧ Below w.heap.size w w' := by
 cases hp : Yb s.data.toList with
 | none =>
   have C := H_ (Z02 hs hp)
   rw [headI_none hp]
   clear hp
   go_enter func24, ntmps24
   go_wp2_with (go_at_call 46; go_must (refine (C.out _).mono ?_; rintro e w1 ⟨⟨v, rfl⟩, hb1⟩))
   go_ret
   exact ⟨rfl, hb1⟩
 | some t =>
   have C := H_ (Z01 hs hp)
   rw [Z9d hp]
   clear hp
   match t, C with
   | .name s, C =>
     rw [show Q5 (.name s) = [110, 97, 109, 101] from rfl]
     simp only [EV, Jm, Kg] at C
     go_enter func24, ntmps24
     go_wp2_with (first | (go_at_call 46; go_must (refine (C.out _).mono ?_; rintro e w1 ⟨⟨v, rfl, hv⟩, hb1⟩; subst hv)) | (go_at_call 246; go_must (refine (Z75 _ _).mono ?_; rintro e w2 ⟨rfl, hb2⟩)))
     go_ret
     exact ⟨rfl, hb1.trans (hb2.mono hb1.size)⟩
   | .num n, C =>
     rw [show Q5 (.num n) = [110, 117, 109, 98, 101, 114] from rfl]
     simp only [EV, Jm, Kg] at C
     go_enter func24, ntmps24
     go_wp2_with (first | (go_at_call 46; go_must (refine (C.out _).mono ?_; rintro e w1 ⟨⟨v, rfl, hv⟩, hb1⟩; subst hv)) | (go_at_call 254; go_must (refine (Z50 _ _).mono ?_; rintro e w2 ⟨rfl, hb2⟩)))
     go_ret
     exact ⟨rfl, hb1.trans (hb2.mono hb1.size)⟩
   | .two .add a b, C =>
     rw [show Q5 (.two .add a b) = [43] from rfl]
     simp only [EV, Jm, Kg] at C
     go_enter func24, ntmps24
     go_wp2_with (first | (go_at_call 46; go_must (refine (C.out _).mono ?_; rintro e w1 ⟨⟨v, rfl, hv⟩, hb1⟩; obtain ⟨x, y, rfl, _, _⟩ := hv)) | (go_at_call 257; go_must (refine (Z9c _ _).mono ?_; rintro e w2 ⟨rfl, hb2⟩)))
     go_ret
     exact ⟨rfl, hb1.trans (hb2.mono hb1.size)⟩
   | .two .sub a b, C =>
     rw [show Q5 (.two .sub a b) = [45] from rfl]
     simp only [EV, Jm, Kg] at C
     go_enter func24, ntmps24
     go_wp2_with (first | (go_at_call 46; go_must (refine (C.out _).mono ?_; rintro e w1 ⟨⟨v, rfl, hv⟩, hb1⟩; obtain ⟨x, y, rfl, _, _⟩ := hv)) | (go_at_call 259; go_must (refine (Z96 _ _).mono ?_; rintro e w2 ⟨rfl, hb2⟩)))
     go_ret
     exact ⟨rfl, hb1.trans (hb2.mono hb1.size)⟩
   | .two .mul a b, C =>
     rw [show Q5 (.two .mul a b) = [42] from rfl]
     simp only [EV, Jm, Kg] at C
     go_enter func24, ntmps24
     go_wp2_with (first | (go_at_call 46; go_must (refine (C.out _).mono ?_; rintro e w1 ⟨⟨v, rfl, hv⟩, hb1⟩; obtain ⟨x, y, rfl, _, _⟩ := hv)) | (go_at_call 261; go_must (refine (Z98 _ _).mono ?_; rintro e w2 ⟨rfl, hb2⟩)))
     go_ret
     exact ⟨rfl, hb1.trans (hb2.mono hb1.size)⟩
   | .two .call a b, C =>
     rw [show Q5 (.two .call a b) = [99, 97, 108, 108] from rfl]
     simp only [EV, Jm, Kg] at C
     go_enter func24, ntmps24
     go_wp2_with (first | (go_at_call 46; go_must (refine (C.out _).mono ?_; rintro e w1 ⟨⟨v, rfl, hv⟩, hb1⟩; obtain ⟨x, y, rfl, _, _⟩ := hv)) | (go_at_call 266; go_must (refine (Z76 _ _).mono ?_; rintro e w2 ⟨rfl, hb2⟩)))
     go_ret
     exact ⟨rfl, hb1.trans (hb2.mono hb1.size)⟩
   | .two .pair a b, C =>
     rw [show Q5 (.two .pair a b) = [112, 97, 105, 114] from rfl]
     simp only [EV, Jm, Kg] at C
     go_enter func24, ntmps24
     go_wp2_with (first | (go_at_call 46; go_must (refine (C.out _).mono ?_; rintro e w1 ⟨⟨v, rfl, hv⟩, hb1⟩; obtain ⟨x, y, rfl, _, _⟩ := hv)) | (go_at_call 251; go_must (refine (Z74 _ _).mono ?_; rintro e w2 ⟨rfl, hb2⟩)))
     go_ret
     exact ⟨rfl, hb1.trans (hb2.mono hb1.size)⟩
   | .one .fst a, C =>
     rw [show Q5 (.one .fst a) = [102, 115, 116] from rfl]
     simp only [EV, Jm, Kg] at C
     go_enter func24, ntmps24
     go_wp2_with (first | (go_at_call 46; go_must (refine (C.out _).mono ?_; rintro e w1 ⟨⟨v, rfl, hv⟩, hb1⟩; obtain ⟨x, rfl, _⟩ := hv)) | (go_at_call 269; go_must (refine (Z9b _ _).mono ?_; rintro e w2 ⟨rfl, hb2⟩)))
     go_ret
     exact ⟨rfl, hb1.trans (hb2.mono hb1.size)⟩
   | .one .snd a, C =>
     rw [show Q5 (.one .snd a) = [115, 110, 100] from rfl]
     simp only [EV, Jm, Kg] at C
     go_enter func24, ntmps24
     go_wp2_with (first | (go_at_call 46; go_must (refine (C.out _).mono ?_; rintro e w1 ⟨⟨v, rfl, hv⟩, hb1⟩; obtain ⟨x, rfl, _⟩ := hv)) | (go_at_call 272; go_must (refine (Z97 _ _).mono ?_; rintro e w2 ⟨rfl, hb2⟩)))
     go_ret
     exact ⟨rfl, hb1.trans (hb2.mono hb1.size)⟩
   | .cond a b c, C =>
     rw [show Q5 (.cond a b c) = [105, 102] from rfl]
     simp only [EV, Jm, Kg] at C
     go_enter func24, ntmps24
     go_wp2_with (first | (go_at_call 46; go_must (refine (C.out _).mono ?_; rintro e w1 ⟨⟨v, rfl, hv⟩, hb1⟩; obtain ⟨x, y, z, rfl, _, _, _⟩ := hv)) | (go_at_call 263; go_must (refine (head_if_c _ _).mono ?_; rintro e w2 ⟨rfl, hb2⟩)))
     go_ret
     exact ⟨rfl, hb1.trans (hb2.mono hb1.size)⟩
   | .lete s e b, C =>
     rw [show Q5 (.lete s e b) = [108, 101, 116] from rfl]
     simp only [EV, Jm, Kg] at C
     go_enter func24, ntmps24
     go_wp2_with (first | (go_at_call 46; go_must (refine (C.out _).mono ?_; rintro e w1 ⟨⟨v, rfl, hv⟩, hb1⟩; obtain ⟨x, y, rfl, _, _⟩ := hv)) | (go_at_call 240; go_must (refine (Z99 _ _).mono ?_; rintro e w2 ⟨rfl, hb2⟩)))
     go_ret
     exact ⟨rfl, hb1.trans (hb2.mono hb1.size)⟩
   | .func f x A B e, C =>
     rw [show Q5 (.func f x A B e) = [102, 117, 110] from rfl]
     simp only [EV, Jm, Kg] at C
     go_enter func24, ntmps24
     go_wp2_with (first | (go_at_call 46; go_must (refine (C.out _).mono ?_; rintro e w1 ⟨⟨v, rfl, hv⟩, hb1⟩; obtain ⟨pa, na, ca, pb, nb, cb, y, rfl, _, _, _⟩ := hv)) | (go_at_call 243; go_must (refine (Z9a _ _).mono ?_; rintro e w2 ⟨rfl, hb2⟩)))
     go_ret
     exact ⟨rfl, hb1.trans (hb2.mono hb1.size)⟩
@[go_sem] theorem as_number_add (v : Value) (w : World) : (Instr.typeAssert (.iface 130 v) 51 155 true).run prog w = .ok (.tuple #[.agg #[.nilIface, .nilIface], .bool false]) w := by kernel_rfl
@[go_sem] theorem as_number_sub (v : Value) (w : World) : (Instr.typeAssert (.iface 130 v) 51 156 true).run prog w = .ok (.tuple #[.agg #[.nilIface, .nilIface], .bool false]) w := by kernel_rfl
@[go_sem] theorem as_number_mul (v : Value) (w : World) : (Instr.typeAssert (.iface 130 v) 51 157 true).run prog w = .ok (.tuple #[.agg #[.nilIface, .nilIface], .bool false]) w := by kernel_rfl
@[go_sem] theorem as_number_if (v : Value) (w : World) : (Instr.typeAssert (.iface 130 v) 51 159 true).run prog w = .ok (.tuple #[.agg #[.nilIface, .nilIface, .nilIface], .bool false]) w := by kernel_rfl
@[go_sem] theorem as_number_call (v : Value) (w : World) : (Instr.typeAssert (.iface 130 v) 51 160 true).run prog w = .ok (.tuple #[.agg #[.nilIface, .nilIface], .bool false]) w := by kernel_rfl
@[go_sem] theorem as_number_pair (v : Value) (w : World) : (Instr.typeAssert (.iface 130 v) 51 128 true).run prog w = .ok (.tuple #[.agg #[.nilIface, .nilIface], .bool false]) w := by kernel_rfl
@[go_sem] theorem as_number_fst (v : Value) (w : World) : (Instr.typeAssert (.iface 130 v) 51 164 true).run prog w = .ok (.tuple #[.agg #[.nilIface], .bool false]) w := by kernel_rfl
@[go_sem] theorem as_number_snd (v : Value) (w : World) : (Instr.typeAssert (.iface 130 v) 51 165 true).run prog w = .ok (.tuple #[.agg #[.nilIface], .bool false]) w := by kernel_rfl
@[go_sem] theorem as_add_add (v : Value) (w : World) : (Instr.typeAssert (.iface 155 v) 51 155 true).run prog w = .ok (.tuple #[v, .bool true]) w := by kernel_rfl
@[go_sem] theorem as_add_sub (v : Value) (w : World) : (Instr.typeAssert (.iface 155 v) 51 156 true).run prog w = .ok (.tuple #[.agg #[.nilIface, .nilIface], .bool false]) w := by kernel_rfl
@[go_sem] theorem as_add_mul (v : Value) (w : World) : (Instr.typeAssert (.iface 155 v) 51 157 true).run prog w = .ok (.tuple #[.agg #[.nilIface, .nilIface], .bool false]) w := by kernel_rfl
@[go_sem] theorem as_add_if (v : Value) (w : World) : (Instr.typeAssert (.iface 155 v) 51 159 true).run prog w = .ok (.tuple #[.agg #[.nilIface, .nilIface, .nilIface], .bool false]) w := by kernel_rfl
@[go_sem] theorem as_add_call (v : Value) (w : World) : (Instr.typeAssert (.iface 155 v) 51 160 true).run prog w = .ok (.tuple #[.agg #[.nilIface, .nilIface], .bool false]) w := by kernel_rfl
@[go_sem] theorem as_add_pair (v : Value) (w : World) : (Instr.typeAssert (.iface 155 v) 51 128 true).run prog w = .ok (.tuple #[.agg #[.nilIface, .nilIface], .bool false]) w := by kernel_rfl
@[go_sem] theorem as_add_fst (v : Value) (w : World) : (Instr.typeAssert (.iface 155 v) 51 164 true).run prog w = .ok (.tuple #[.agg #[.nilIface], .bool false]) w := by kernel_rfl
@[go_sem] theorem as_add_snd (v : Value) (w : World) : (Instr.typeAssert (.iface 155 v) 51 165 true).run prog w = .ok (.tuple #[.agg #[.nilIface], .bool false]) w := by kernel_rfl
@[go_sem] theorem as_sub_add (v : Value) (w : World) : (Instr.typeAssert (.iface 156 v) 51 155 true).run prog w = .ok (.tuple #[.agg #[.nilIface, .nilIface], .bool false]) w := by kernel_rfl
@[go_sem] theorem as_sub_sub (v : Value) (w : World) : (Instr.typeAssert (.iface 156 v) 51 156 true).run prog w = .ok (.tuple #[v, .bool true]) w := by kernel_rfl
@[go_sem] theorem as_sub_mul (v : Value) (w : World) : (Instr.typeAssert (.iface 156 v) 51 157 true).run prog w = .ok (.tuple #[.agg #[.nilIface, .nilIface], .bool false]) w := by kernel_rfl
@[go_sem] theorem as_sub_if (v : Value) (w : World) : (Instr.typeAssert (.iface 156 v) 51 159 true).run prog w = .ok (.tuple #[.agg #[.nilIface, .nilIface, .nilIface], .bool false]) w := by kernel_rfl
@[go_sem] theorem as_sub_call (v : Value) (w : World) : (Instr.typeAssert (.iface 156 v) 51 160 true).run prog w = .ok (.tuple #[.agg #[.nilIface, .nilIface], .bool false]) w := by kernel_rfl
@[go_sem] theorem as_sub_pair (v : Value) (w : World) : (Instr.typeAssert (.iface 156 v) 51 128 true).run prog w = .ok (.tuple #[.agg #[.nilIface, .nilIface], .bool false]) w := by kernel_rfl
@[go_sem] theorem as_sub_fst (v : Value) (w : World) : (Instr.typeAssert (.iface 156 v) 51 164 true).run prog w = .ok (.tuple #[.agg #[.nilIface], .bool false]) w := by kernel_rfl
@[go_sem] theorem as_sub_snd (v : Value) (w : World) : (Instr.typeAssert (.iface 156 v) 51 165 true).run prog w = .ok (.tuple #[.agg #[.nilIface], .bool false]) w := by kernel_rfl
@[go_sem] theorem as_mul_add (v : Value) (w : World) : (Instr.typeAssert (.iface 157 v) 51 155 true).run prog w = .ok (.tuple #[.agg #[.nilIface, .nilIface], .bool false]) w := by kernel_rfl
@[go_sem] theorem as_mul_sub (v : Value) (w : World) : (Instr.typeAssert (.iface 157 v) 51 156 true).run prog w = .ok (.tuple #[.agg #[.nilIface, .nilIface], .bool false]) w := by kernel_rfl
@[go_sem] theorem as_mul_mul (v : Value) (w : World) : (Instr.typeAssert (.iface 157 v) 51 157 true).run prog w = .ok (.tuple #[v, .bool true]) w := by kernel_rfl
@[go_sem] theorem as_mul_if (v : Value) (w : World) : (Instr.typeAssert (.iface 157 v) 51 159 true).run prog w = .ok (.tuple #[.agg #[.nilIface, .nilIface, .nilIface], .bool false]) w := by kernel_rfl
@[go_sem] theorem as_mul_call (v : Value) (w : World) : (Instr.typeAssert (.iface 157 v) 51 160 true).run prog w = .ok (.tuple #[.agg #[.nilIface, .nilIface], .bool false]) w := by kernel_rfl
@[go_sem] theorem as_mul_pair (v : Value) (w : World) : (Instr.typeAssert (.iface 157 v) 51 128 true).run prog w = .ok (.tuple #[.agg #[.nilIface, .nilIface], .bool false]) w := by kernel_rfl
@[go_sem] theorem as_mul_fst (v : Value) (w : World) : (Instr.typeAssert (.iface 157 v) 51 164 true).run prog w = .ok (.tuple #[.agg #[.nilIface], .bool false]) w := by kernel_rfl
@[go_sem] theorem as_mul_snd (v : Value) (w : World) : (Instr.typeAssert (.iface 157 v) 51 165 true).run prog w = .ok (.tuple #[.agg #[.nilIface], .bool false]) w := by kernel_rfl
@[go_sem] theorem as_if_add (v : Value) (w : World) : (Instr.typeAssert (.iface 159 v) 51 155 true).run prog w = .ok (.tuple #[.agg #[.nilIface, .nilIface], .bool false]) w := by kernel_rfl
@[go_sem] theorem as_if_sub (v : Value) (w : World) : (Instr.typeAssert (.iface 159 v) 51 156 true).run prog w = .ok (.tuple #[.agg #[.nilIface, .nilIface], .bool false]) w := by kernel_rfl
@[go_sem] theorem as_if_mul (v : Value) (w : World) : (Instr.typeAssert (.iface 159 v) 51 157 true).run prog w = .ok (.tuple #[.agg #[.nilIface, .nilIface], .bool false]) w := by kernel_rfl
@[go_sem] theorem as_if_if (v : Value) (w : World) : (Instr.typeAssert (.iface 159 v) 51 159 true).run prog w = .ok (.tuple #[v, .bool true]) w := by kernel_rfl
@[go_sem] theorem as_if_call (v : Value) (w : World) : (Instr.typeAssert (.iface 159 v) 51 160 true).run prog w = .ok (.tuple #[.agg #[.nilIface, .nilIface], .bool false]) w := by kernel_rfl
@[go_sem] theorem as_if_pair (v : Value) (w : World) : (Instr.typeAssert (.iface 159 v) 51 128 true).run prog w = .ok (.tuple #[.agg #[.nilIface, .nilIface], .bool false]) w := by kernel_rfl
@[go_sem] theorem as_if_fst (v : Value) (w : World) : (Instr.typeAssert (.iface 159 v) 51 164 true).run prog w = .ok (.tuple #[.agg #[.nilIface], .bool false]) w := by kernel_rfl
@[go_sem] theorem as_if_snd (v : Value) (w : World) : (Instr.typeAssert (.iface 159 v) 51 165 true).run prog w = .ok (.tuple #[.agg #[.nilIface], .bool false]) w := by kernel_rfl
@[go_sem] theorem as_call_add (v : Value) (w : World) : (Instr.typeAssert (.iface 160 v) 51 155 true).run prog w = .ok (.tuple #[.agg #[.nilIface, .nilIface], .bool false]) w := by kernel_rfl
@[go_sem] theorem as_call_sub (v : Value) (w : World) : (Instr.typeAssert (.iface 160 v) 51 156 true).run prog w = .ok (.tuple #[.agg #[.nilIface, .nilIface], .bool false]) w := by kernel_rfl
@[go_sem] theorem as_call_mul (v : Value) (w : World) : (Instr.typeAssert (.iface 160 v) 51 157 true).run prog w = .ok (.tuple #[.agg #[.nilIface, .nilIface], .bool false]) w := by kernel_rfl
@[go_sem] theorem as_call_if (v : Value) (w : World) : (Instr.typeAssert (.iface 160 v) 51 159 true).run prog w = .ok (.tuple #[.agg #[.nilIface, .nilIface, .nilIface], .bool false]) w := by kernel_rfl
@[go_sem] theorem as_call_call (v : Value) (w : World) : (Instr.typeAssert (.iface 160 v) 51 160 true).run prog w = .ok (.tuple #[v, .bool true]) w := by kernel_rfl
@[go_sem] theorem as_call_pair (v : Value) (w : World) : (Instr.typeAssert (.iface 160 v) 51 128 true).run prog w = .ok (.tuple #[.agg #[.nilIface, .nilIface], .bool false]) w := by kernel_rfl
@[go_sem] theorem as_call_fst (v : Value) (w : World) : (Instr.typeAssert (.iface 160 v) 51 164 true).run prog w = .ok (.tuple #[.agg #[.nilIface], .bool false]) w := by kernel_rfl
@[go_sem] theorem as_call_snd (v : Value) (w : World) : (Instr.typeAssert (.iface 160 v) 51 165 true).run prog w = .ok (.tuple #[.agg #[.nilIface], .bool false]) w := by kernel_rfl
@[go_sem] theorem as_pair_add (v : Value) (w : World) : (Instr.typeAssert (.iface 128 v) 51 155 true).run prog w = .ok (.tuple #[.agg #[.nilIface, .nilIface], .bool false]) w := by kernel_rfl
@[go_sem] theorem as_pair_sub (v : Value) (w : World) : (Instr.typeAssert (.iface 128 v) 51 156 true).run prog w = .ok (.tuple #[.agg #[.nilIface, .nilIface], .bool false]) w := by kernel_rfl
@[go_sem] theorem as_pair_mul (v : Value) (w : World) : (Instr.typeAssert (.iface 128 v) 51 157 true).run prog w = .ok (.tuple #[.agg #[.nilIface, .nilIface], .bool false]) w := by kernel_rfl
@[go_sem] theorem as_pair_if (v : Value) (w : World) : (Instr.typeAssert (.iface 128 v) 51 159 true).run prog w = .ok (.tuple #[.agg #[.nilIface, .nilIface, .nilIface], .bool false]) w := by kernel_rfl
@[go_sem] theorem as_pair_call (v : Value) (w : World) : (Instr.typeAssert (.iface 128 v) 51 160 true).run prog w = .ok (.tuple #[.agg #[.nilIface, .nilIface], .bool false]) w := by kernel_rfl
@[go_sem] theorem as_pair_pair (v : Value) (w : World) : (Instr.typeAssert (.iface 128 v) 51 128 true).run prog w = .ok (.tuple #[v, .bool true]) w := by kernel_rfl
@[go_sem] theorem as_pair_fst (v : Value) (w : World) : (Instr.typeAssert (.iface 128 v) 51 164 true).run prog w = .ok (.tuple #[.agg #[.nilIface], .bool false]) w := by kernel_rfl
@[go_sem] theorem as_pair_snd (v : Value) (w : World) : (Instr.typeAssert (.iface 128 v) 51 165 true).run prog w = .ok (.tuple #[.agg #[.nilIface], .bool false]) w := by kernel_rfl
@[go_sem] theorem as_fst_add (v : Value) (w : World) : (Instr.typeAssert (.iface 164 v) 51 155 true).run prog w = .ok (.tuple #[.agg #[.nilIface, .nilIface], .bool false]) w := by kernel_rfl
@[go_sem] theorem as_fst_sub (v : Value) (w : World) : (Instr.typeAssert (.iface 164 v) 51 156 true).run prog w = .ok (.tuple #[.agg #[.nilIface, .nilIface], .bool false]) w := by kernel_rfl
@[go_sem] theorem as_fst_mul (v : Value) (w : World) : (Instr.typeAssert (.iface 164 v) 51 157 true).run prog w = .ok (.tuple #[.agg #[.nilIface, .nilIface], .bool false]) w := by kernel_rfl
@[go_sem] theorem as_fst_if (v : Value) (w : World) : (Instr.typeAssert (.iface 164 v) 51 159 true).run prog w = .ok (.tuple #[.agg #[.nilIface, .nilIface, .nilIface], .bool false]) w := by kernel_rfl
@[go_sem] theorem as_fst_call (v : Value) (w : World) : (Instr.typeAssert (.iface 164 v) 51 160 true).run prog w = .ok (.tuple #[.agg #[.nilIface, .nilIface], .bool false]) w := by kernel_rfl
@[go_sem] theorem as_fst_pair (v : Value) (w : World) : (Instr.typeAssert (.iface 164 v) 51 128 true).run prog w = .ok (.tuple #[.agg #[.nilIface, .nilIface], .bool false]) w := by kernel_rfl
@[go_sem] theorem as_fst_fst (v : Value) (w : World) : (Instr.typeAssert (.iface 164 v) 51 164 true).run prog w = .ok (.tuple #[v, .bool true]) w := by kernel_rfl
@[go_sem] theorem as_fst_snd (v : Value) (w : World) : (Instr.typeAssert (.iface 164 v) 51 165 true).run prog w = .ok (.tuple #[.agg #[.nilIface], .bool false]) w := by kernel_rfl
@[go_sem] theorem as_snd_add (v : Value) (w : World) : (Instr.typeAssert (.iface 165 v) 51 155 true).run prog w = .ok (.tuple #[.agg #[.nilIface, .nilIface], .bool false]) w := by kernel_rfl
@[go_sem] theorem as_snd_sub (v : Value) (w : World) : (Instr.typeAssert (.iface 165 v) 51 156 true).run prog w = .ok (.tuple #[.agg #[.nilIface, .nilIface], .bool false]) w := by kernel_rfl
@[go_sem] theorem as_snd_mul (v : Value) (w : World) : (Instr.typeAssert (.iface 165 v) 51 157 true).run prog w = .ok (.tuple #[.agg #[.nilIface, .nilIface], .bool false]) w := by kernel_rfl
@[go_sem] theorem as_snd_if (v : Value) (w : World) : (Instr.typeAssert (.iface 165 v) 51 159 true).run prog w = .ok (.tuple #[.agg #[.nilIface, .nilIface, .nilIface], .bool false]) w := by kernel_rfl
@[go_sem] theorem as_snd_call (v : Value) (w : World) : (Instr.typeAssert (.iface 165 v) 51 160 true).run prog w = .ok (.tuple #[.agg #[.nilIface, .nilIface], .bool false]) w := by kernel_rfl
@[go_sem] theorem as_snd_pair (v : Value) (w : World) : (Instr.typeAssert (.iface 165 v) 51 128 true).run prog w = .ok (.tuple #[.agg #[.nilIface, .nilIface], .bool false]) w := by kernel_rfl
@[go_sem] theorem as_snd_fst (v : Value) (w : World) : (Instr.typeAssert (.iface 165 v) 51 164 true).run prog w = .ok (.tuple #[.agg #[.nilIface], .bool false]) w := by kernel_rfl
@[go_sem] theorem as_snd_snd (v : Value) (w : World) : (Instr.typeAssert (.iface 165 v) 51 165 true).run prog w = .ok (.tuple #[v, .bool true]) w := by kernel_rfl
end Go.Proofs.YtfknoigbkleanaaGreatDoor
