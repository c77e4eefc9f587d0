/- Instructions: the program's letters of operands. -/
import Derived.Test.YtfknoigbkleanaaGreatDoorIn1
import Derived.Test.YtfknoigbkleanaaGreatDoorInR
namespace Go.Proofs.YtfknoigbkleanaaGreatDoor
open Go.RowKit
set_option maxRecDepth 8000
set_option linter.unusedSimpArgs false
set_option linter.unusedVariables false
theorem sEqI {S : ByteArray} {h k : List UInt8} (hS : S = bs h) (e : h = k) : (S.toList == k) = true ∧ S.toList = k := by subst hS; subst e; simp [bs_toList]
theorem sNeI {S : ByteArray} {h k : List UInt8} (hS : S = bs h) (e : ¬ h = k) : (S.toList == k) = false ∧ ¬ S.toList = k := by subst hS; simp [bs_toList, e]
set_option maxHeartbeats 4000000 in
theorem operandsOf_c (h : List UInt8) (n : Nat) (hn : n ≤ 8000) (w : World) :
    Calls Tryz.prog 117 #[.string (bs h), .int .i64 n] w fun e w' => e = .returned (.string (bs (lettersOf h n))) ∧ Below w.heap.size w w' := by
  obtain ⟨S, hS⟩ : ∃ S, S = bs h := ⟨_, rfl⟩
  rw [← hS]
  by_cases h1 : h = kConst
  · have HR := Lib.hid (show bs (lettersOf h n) = bs [100, 110] by rw [h1]; rfl)
    obtain ⟨f1, g1⟩ := sEqI (k := [99, 111, 110, 115, 116]) hS h1
    rw [HR.out]
    clear HR hS h1
    go_enter Tryz.func117, Tryz.ntmps117
    go_wp2_with fail
    go_ret
    exact ⟨rfl, Below.refl _ _⟩
  by_cases h2 : h = kMov
  · have HR := Lib.hid (show bs (lettersOf h n) = bs [100, 115] by rw [h2]; rfl)
    obtain ⟨f1, g1⟩ := sNeI (k := [99, 111, 110, 115, 116]) hS h1
    obtain ⟨f2, g2⟩ := sEqI (k := [109, 111, 118]) hS h2
    rw [HR.out]
    clear HR hS h1 h2
    go_enter Tryz.func117, Tryz.ntmps117
    go_wp2_with fail
    go_ret
    exact ⟨rfl, Below.refl _ _⟩
  by_cases h3 : h = kOpen
  · have HR := Lib.hid (show bs (lettersOf h n) = bs [100, 115] by rw [h3]; rfl)
    obtain ⟨f1, g1⟩ := sNeI (k := [99, 111, 110, 115, 116]) hS h1
    obtain ⟨f2, g2⟩ := sNeI (k := [109, 111, 118]) hS h2
    obtain ⟨f3, g3⟩ := sEqI (k := [111, 112, 101, 110]) hS h3
    rw [HR.out]
    clear HR hS h1 h2 h3
    go_enter Tryz.func117, Tryz.ntmps117
    go_wp2_with fail
    go_ret
    exact ⟨rfl, Below.refl _ _⟩
  by_cases h4 : h = kAdd
  · have HR := Lib.hid (show bs (lettersOf h n) = bs [100, 115, 115] by rw [h4]; rfl)
    obtain ⟨f1, g1⟩ := sNeI (k := [99, 111, 110, 115, 116]) hS h1
    obtain ⟨f2, g2⟩ := sNeI (k := [109, 111, 118]) hS h2
    obtain ⟨f3, g3⟩ := sNeI (k := [111, 112, 101, 110]) hS h3
    obtain ⟨f4, g4⟩ := sEqI (k := [97, 100, 100]) hS h4
    rw [HR.out]
    clear HR hS h1 h2 h3 h4
    go_enter Tryz.func117, Tryz.ntmps117
    go_wp2_with fail
    go_ret
    exact ⟨rfl, Below.refl _ _⟩
  by_cases h5 : h = kSub
  · have HR := Lib.hid (show bs (lettersOf h n) = bs [100, 115, 115] by rw [h5]; rfl)
    obtain ⟨f1, g1⟩ := sNeI (k := [99, 111, 110, 115, 116]) hS h1
    obtain ⟨f2, g2⟩ := sNeI (k := [109, 111, 118]) hS h2
    obtain ⟨f3, g3⟩ := sNeI (k := [111, 112, 101, 110]) hS h3
    obtain ⟨f4, g4⟩ := sNeI (k := [97, 100, 100]) hS h4
    obtain ⟨f5, g5⟩ := sEqI (k := [115, 117, 98]) hS h5
    rw [HR.out]
    clear HR hS h1 h2 h3 h4 h5
    go_enter Tryz.func117, Tryz.ntmps117
    go_wp2_with fail
    go_ret
    exact ⟨rfl, Below.refl _ _⟩
  by_cases h6 : h = kMul
  · have HR := Lib.hid (show bs (lettersOf h n) = bs [100, 115, 115] by rw [h6]; rfl)
    obtain ⟨f1, g1⟩ := sNeI (k := [99, 111, 110, 115, 116]) hS h1
    obtain ⟨f2, g2⟩ := sNeI (k := [109, 111, 118]) hS h2
    obtain ⟨f3, g3⟩ := sNeI (k := [111, 112, 101, 110]) hS h3
    obtain ⟨f4, g4⟩ := sNeI (k := [97, 100, 100]) hS h4
    obtain ⟨f5, g5⟩ := sNeI (k := [115, 117, 98]) hS h5
    obtain ⟨f6, g6⟩ := sEqI (k := [109, 117, 108]) hS h6
    rw [HR.out]
    clear HR hS h1 h2 h3 h4 h5 h6
    go_enter Tryz.func117, Tryz.ntmps117
    go_wp2_with fail
    go_ret
    exact ⟨rfl, Below.refl _ _⟩
  by_cases h7 : h = kNew
  · have HR := Lib.hid (show bs (lettersOf h n) = ⟨#[100]⟩ ++ bs (List.replicate (n - 1) 115) by rw [h7]; rw [show lettersOf kNew n = [100] ++ List.replicate (n - 1) 115 from rfl, ← bs_append]; rfl)
    have CR := Lib.hid (fun W => repeat_c (n - 1) (by omega) W)
    have hmx : max ((n : Int) - 1) 0 = ((n - 1 : Nat) : Int) := by omega
    have hmw : IntKind.i64.wrap ((n : Int) - 1) = (n : Int) - 1 := by rw [IntKind.wrap_i64]; omega
    have hsz : (bs (List.replicate (n - 1) (115 : UInt8))).size ≤ 8000 := by rw [bs_size, List.length_replicate]; omega
    obtain ⟨f1, g1⟩ := sNeI (k := [99, 111, 110, 115, 116]) hS h1
    obtain ⟨f2, g2⟩ := sNeI (k := [109, 111, 118]) hS h2
    obtain ⟨f3, g3⟩ := sNeI (k := [111, 112, 101, 110]) hS h3
    obtain ⟨f4, g4⟩ := sNeI (k := [97, 100, 100]) hS h4
    obtain ⟨f5, g5⟩ := sNeI (k := [115, 117, 98]) hS h5
    obtain ⟨f6, g6⟩ := sNeI (k := [109, 117, 108]) hS h6
    obtain ⟨f7, g7⟩ := sEqI (k := [110, 101, 119]) hS h7
    rw [HR.out]
    clear HR hS h1 h2 h3 h4 h5 h6 h7
    generalize bs (List.replicate (n - 1) (115 : UInt8)) = RP at *
    go_enter Tryz.func117, Tryz.ntmps117
    go_wp2_with (go_at_call 164; go_must (refine (CR.out _).mono ?_; rintro e w1 ⟨rfl, hb1⟩))
    go_ret
    exact ⟨rfl, hb1⟩
  by_cases h8 : h = kGet
  · have HR := Lib.hid (show bs (lettersOf h n) = bs [100, 115, 120] by rw [h8]; rfl)
    obtain ⟨f1, g1⟩ := sNeI (k := [99, 111, 110, 115, 116]) hS h1
    obtain ⟨f2, g2⟩ := sNeI (k := [109, 111, 118]) hS h2
    obtain ⟨f3, g3⟩ := sNeI (k := [111, 112, 101, 110]) hS h3
    obtain ⟨f4, g4⟩ := sNeI (k := [97, 100, 100]) hS h4
    obtain ⟨f5, g5⟩ := sNeI (k := [115, 117, 98]) hS h5
    obtain ⟨f6, g6⟩ := sNeI (k := [109, 117, 108]) hS h6
    obtain ⟨f7, g7⟩ := sNeI (k := [110, 101, 119]) hS h7
    obtain ⟨f8, g8⟩ := sEqI (k := [103, 101, 116]) hS h8
    rw [HR.out]
    clear HR hS h1 h2 h3 h4 h5 h6 h7 h8
    go_enter Tryz.func117, Tryz.ntmps117
    go_wp2_with fail
    go_ret
    exact ⟨rfl, Below.refl _ _⟩
  by_cases h9 : h = kLab
  · have HR := Lib.hid (show bs (lettersOf h n) = bs [100, 108] by rw [h9]; rfl)
    obtain ⟨f1, g1⟩ := sNeI (k := [99, 111, 110, 115, 116]) hS h1
    obtain ⟨f2, g2⟩ := sNeI (k := [109, 111, 118]) hS h2
    obtain ⟨f3, g3⟩ := sNeI (k := [111, 112, 101, 110]) hS h3
    obtain ⟨f4, g4⟩ := sNeI (k := [97, 100, 100]) hS h4
    obtain ⟨f5, g5⟩ := sNeI (k := [115, 117, 98]) hS h5
    obtain ⟨f6, g6⟩ := sNeI (k := [109, 117, 108]) hS h6
    obtain ⟨f7, g7⟩ := sNeI (k := [110, 101, 119]) hS h7
    obtain ⟨f8, g8⟩ := sNeI (k := [103, 101, 116]) hS h8
    obtain ⟨f9, g9⟩ := sEqI (k := [108, 97, 98]) hS h9
    rw [HR.out]
    clear HR hS h1 h2 h3 h4 h5 h6 h7 h8 h9
    go_enter Tryz.func117, Tryz.ntmps117
    go_wp2_with fail
    go_ret
    exact ⟨rfl, Below.refl _ _⟩
  by_cases h10 : h = kPack
  · have HR := Lib.hid (show bs (lettersOf h n) = bs [100, 115, 69, 87] by rw [h10]; rfl)
    obtain ⟨f1, g1⟩ := sNeI (k := [99, 111, 110, 115, 116]) hS h1
    obtain ⟨f2, g2⟩ := sNeI (k := [109, 111, 118]) hS h2
    obtain ⟨f3, g3⟩ := sNeI (k := [111, 112, 101, 110]) hS h3
    obtain ⟨f4, g4⟩ := sNeI (k := [97, 100, 100]) hS h4
    obtain ⟨f5, g5⟩ := sNeI (k := [115, 117, 98]) hS h5
    obtain ⟨f6, g6⟩ := sNeI (k := [109, 117, 108]) hS h6
    obtain ⟨f7, g7⟩ := sNeI (k := [110, 101, 119]) hS h7
    obtain ⟨f8, g8⟩ := sNeI (k := [103, 101, 116]) hS h8
    obtain ⟨f9, g9⟩ := sNeI (k := [108, 97, 98]) hS h9
    obtain ⟨f10, g10⟩ := sEqI (k := [112, 97, 99, 107]) hS h10
    rw [HR.out]
    clear HR hS h1 h2 h3 h4 h5 h6 h7 h8 h9 h10
    go_enter Tryz.func117, Tryz.ntmps117
    go_wp2_with fail
    go_ret
    exact ⟨rfl, Below.refl _ _⟩
  by_cases h11 : h = kZero
  · have HR := Lib.hid (show bs (lettersOf h n) = bs [115, 108] by rw [h11]; rfl)
    obtain ⟨f1, g1⟩ := sNeI (k := [99, 111, 110, 115, 116]) hS h1
    obtain ⟨f2, g2⟩ := sNeI (k := [109, 111, 118]) hS h2
    obtain ⟨f3, g3⟩ := sNeI (k := [111, 112, 101, 110]) hS h3
    obtain ⟨f4, g4⟩ := sNeI (k := [97, 100, 100]) hS h4
    obtain ⟨f5, g5⟩ := sNeI (k := [115, 117, 98]) hS h5
    obtain ⟨f6, g6⟩ := sNeI (k := [109, 117, 108]) hS h6
    obtain ⟨f7, g7⟩ := sNeI (k := [110, 101, 119]) hS h7
    obtain ⟨f8, g8⟩ := sNeI (k := [103, 101, 116]) hS h8
    obtain ⟨f9, g9⟩ := sNeI (k := [108, 97, 98]) hS h9
    obtain ⟨f10, g10⟩ := sNeI (k := [112, 97, 99, 107]) hS h10
    obtain ⟨f11, g11⟩ := sEqI (k := [122, 101, 114, 111]) hS h11
    rw [HR.out]
    clear HR hS h1 h2 h3 h4 h5 h6 h7 h8 h9 h10 h11
    go_enter Tryz.func117, Tryz.ntmps117
    go_wp2_with fail
    go_ret
    exact ⟨rfl, Below.refl _ _⟩
  by_cases h12 : h = kJump
  · have HR := Lib.hid (show bs (lettersOf h n) = bs [115] by rw [h12]; rfl)
    obtain ⟨f1, g1⟩ := sNeI (k := [99, 111, 110, 115, 116]) hS h1
    obtain ⟨f2, g2⟩ := sNeI (k := [109, 111, 118]) hS h2
    obtain ⟨f3, g3⟩ := sNeI (k := [111, 112, 101, 110]) hS h3
    obtain ⟨f4, g4⟩ := sNeI (k := [97, 100, 100]) hS h4
    obtain ⟨f5, g5⟩ := sNeI (k := [115, 117, 98]) hS h5
    obtain ⟨f6, g6⟩ := sNeI (k := [109, 117, 108]) hS h6
    obtain ⟨f7, g7⟩ := sNeI (k := [110, 101, 119]) hS h7
    obtain ⟨f8, g8⟩ := sNeI (k := [103, 101, 116]) hS h8
    obtain ⟨f9, g9⟩ := sNeI (k := [108, 97, 98]) hS h9
    obtain ⟨f10, g10⟩ := sNeI (k := [112, 97, 99, 107]) hS h10
    obtain ⟨f11, g11⟩ := sNeI (k := [122, 101, 114, 111]) hS h11
    obtain ⟨f12, g12⟩ := sEqI (k := [106, 117, 109, 112]) hS h12
    rw [HR.out]
    clear HR hS h1 h2 h3 h4 h5 h6 h7 h8 h9 h10 h11 h12
    go_enter Tryz.func117, Tryz.ntmps117
    go_wp2_with fail
    go_ret
    exact ⟨rfl, Below.refl _ _⟩
  by_cases h13 : h = kHalt
  · have HR := Lib.hid (show bs (lettersOf h n) = bs [115] by rw [h13]; rfl)
    obtain ⟨f1, g1⟩ := sNeI (k := [99, 111, 110, 115, 116]) hS h1
    obtain ⟨f2, g2⟩ := sNeI (k := [109, 111, 118]) hS h2
    obtain ⟨f3, g3⟩ := sNeI (k := [111, 112, 101, 110]) hS h3
    obtain ⟨f4, g4⟩ := sNeI (k := [97, 100, 100]) hS h4
    obtain ⟨f5, g5⟩ := sNeI (k := [115, 117, 98]) hS h5
    obtain ⟨f6, g6⟩ := sNeI (k := [109, 117, 108]) hS h6
    obtain ⟨f7, g7⟩ := sNeI (k := [110, 101, 119]) hS h7
    obtain ⟨f8, g8⟩ := sNeI (k := [103, 101, 116]) hS h8
    obtain ⟨f9, g9⟩ := sNeI (k := [108, 97, 98]) hS h9
    obtain ⟨f10, g10⟩ := sNeI (k := [112, 97, 99, 107]) hS h10
    obtain ⟨f11, g11⟩ := sNeI (k := [122, 101, 114, 111]) hS h11
    obtain ⟨f12, g12⟩ := sNeI (k := [106, 117, 109, 112]) hS h12
    obtain ⟨f13, g13⟩ := sEqI (k := [104, 97, 108, 116]) hS h13
    rw [HR.out]
    clear HR hS h1 h2 h3 h4 h5 h6 h7 h8 h9 h10 h11 h12 h13
    go_enter Tryz.func117, Tryz.ntmps117
    go_wp2_with fail
    go_ret
    exact ⟨rfl, Below.refl _ _⟩
  have HR := Lib.hid (show bs (lettersOf h n) = bs [] by simp [lettersOf, h1, h2, h3, h4, h5, h6, h7, h8, h9, h10, h11, h12, h13])
  obtain ⟨f1, g1⟩ := sNeI (k := [99, 111, 110, 115, 116]) hS h1
  obtain ⟨f2, g2⟩ := sNeI (k := [109, 111, 118]) hS h2
  obtain ⟨f3, g3⟩ := sNeI (k := [111, 112, 101, 110]) hS h3
  obtain ⟨f4, g4⟩ := sNeI (k := [97, 100, 100]) hS h4
  obtain ⟨f5, g5⟩ := sNeI (k := [115, 117, 98]) hS h5
  obtain ⟨f6, g6⟩ := sNeI (k := [109, 117, 108]) hS h6
  obtain ⟨f7, g7⟩ := sNeI (k := [110, 101, 119]) hS h7
  obtain ⟨f8, g8⟩ := sNeI (k := [103, 101, 116]) hS h8
  obtain ⟨f9, g9⟩ := sNeI (k := [108, 97, 98]) hS h9
  obtain ⟨f10, g10⟩ := sNeI (k := [112, 97, 99, 107]) hS h10
  obtain ⟨f11, g11⟩ := sNeI (k := [122, 101, 114, 111]) hS h11
  obtain ⟨f12, g12⟩ := sNeI (k := [106, 117, 109, 112]) hS h12
  obtain ⟨f13, g13⟩ := sNeI (k := [104, 97, 108, 116]) hS h13
  rw [HR.out]
  clear HR hS h1 h2 h3 h4 h5 h6 h7 h8 h9 h10 h11 h12 h13
  go_enter Tryz.func117, Tryz.ntmps117
  go_wp2_with fail
  go_ret
  exact ⟨rfl, Below.refl _ _⟩
end Go.Proofs.YtfknoigbkleanaaGreatDoor
