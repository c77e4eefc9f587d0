/- Shorts: the reference and the program; the law. -/
import Derived.Test.YtibiennbjegomaaProg
import Derived.Test.YtibiennbjegomaaB1
import Derived.Test.YtibiennbjegomaaNumS
namespace Go.Proofs.Ytibiennbjegomaa
open Go.RowKit
set_option linter.unusedSimpArgs false
set_option linter.unusedVariables false
/-- The short of a number, as both reckon it. -/
def shortR (n : Int) : Int := ((n + 500).tmod 1000 + 1000).tmod 1000 - 500
theorem tmod_range (a : Int) : -1000 < a.tmod 1000 ∧ a.tmod 1000 < 1000 := by
  have h1 := Int.tmod_lt_of_pos a (show (0 : Int) < 1000 by decide)
  have h2 := Int.lt_tmod_of_pos a (show (0 : Int) < 1000 by decide)
  omega
theorem shortR_facts (n : Int) (hn : -1000000 ≤ n ∧ n ≤ 1000000) : IntKind.i64.wrap (n + 500) = n + 500 ∧ IntKind.i64.wrap ((n + 500).tmod 1000) = (n + 500).tmod 1000 ∧ IntKind.i64.wrap ((n + 500).tmod 1000 + 1000) = (n + 500).tmod 1000 + 1000 ∧ IntKind.i64.wrap (((n + 500).tmod 1000 + 1000).tmod 1000) = ((n + 500).tmod 1000 + 1000).tmod 1000 ∧ IntKind.i64.wrap (((n + 500).tmod 1000 + 1000).tmod 1000 - 500) = ((n + 500).tmod 1000 + 1000).tmod 1000 - 500 := by
  have h1 := tmod_range (n + 500)
  have h2 := tmod_range ((n + 500).tmod 1000 + 1000)
  simp only [IntKind.wrap_i64]
  generalize ((n + 500).tmod 1000 + 1000).tmod 1000 = y at *
  generalize (n + 500).tmod 1000 = x at *
  omega
theorem shortR_eq (n : Int) : shortR n = (n + 500) % 1000 - 500 := by
  have h := tmod_range (n + 500)
  unfold shortR
  rw [Int.tmod_eq_emod_of_nonneg (show 0 ≤ (n + 500).tmod 1000 + 1000 by omega), Int.add_emod_right]
  rcases Int.le_total 0 (n + 500) with h0 | h0
  · rw [Int.tmod_eq_emod_of_nonneg h0]; omega
  · have e : (n + 500).tmod 1000 = -((-(n + 500)) % 1000) := by
      rw [show n + 500 = -(-(n + 500)) by omega, Int.neg_tmod, Int.tmod_eq_emod_of_nonneg (by omega)]; simp
    rw [e]; omega
theorem l4Short_c (n : Int) (hn : -1000000 ≤ n ∧ n ≤ 1000000) (w : World) : Calls Try.prog 12 #[.int .i64 n] w fun e w' => e = .returned (.int .i64 (shortR n)) ∧ w' = w := by
  obtain ⟨h1, h2, h3, h4, h5⟩ := shortR_facts n hn
  have HR := Lib.hid (show shortR n = ((n + 500).tmod 1000 + 1000).tmod 1000 - 500 from rfl)
  go_enter Try.func12, Try.ntmps12
  go_wp2_with fail
  go_ret
  exact ⟨ret_int (by rw [HR.out]), rfl⟩
theorem short_c (n : Int) (hn : -1000000 ≤ n ∧ n ≤ 1000000) (w : World) : Calls Try.prog 10 #[.int .i64 n] w fun e w' => e = .returned (.int .i64 (shortR n)) ∧ w' = w := by
  obtain ⟨h1, h2, h3, h4, h5⟩ := shortR_facts n hn
  have HR := Lib.hid (show shortR n = ((n + 500).tmod 1000 + 1000).tmod 1000 - 500 from rfl)
  go_enter Try.func10, Try.ntmps10
  go_wp2_with fail
  go_ret
  exact ⟨ret_int (by rw [HR.out]), rfl⟩
/-- The short of a number that is in range. -/
def nshort (n : Int) : Option Int := if -1000000 ≤ n ∧ n ≤ 1000000 then some (shortR n) else none
theorem specNumberShort_c (n : Int) (w : World) : Calls Try.prog 7 #[.int .i64 n] w fun e w' => e = .returned (.tuple #[.int .i64 ((nshort n).getD 0), .bool (nshort n).isSome]) ∧ w' = w := by
  have CI := Lib.hid (l6In_c n (-1000000) 1000000)
  by_cases h : -1000000 ≤ n ∧ n ≤ 1000000
  · have HN := Lib.hid (show nshort n = some (shortR n) from if_pos h)
    have hd : decide (-1000000 ≤ n ∧ n ≤ 1000000) = true := decide_eq_true h
    have C := Lib.hid (l4Short_c n h)
    rw [HN.out]
    clear h
    go_enter Try.func7, Try.ntmps7
    go_wp2_with (first | (go_at_call 11; go_must (refine (CI.out _).mono ?_; rintro e w1 ⟨rfl, rfl⟩; try rw [hd])) | (go_at_call 12; go_must (refine (C.out _).mono ?_; rintro e w2 ⟨rfl, rfl⟩)))
    go_ret2
    exact ⟨rfl, rfl⟩
  · have HN := Lib.hid (show nshort n = none from if_neg h)
    have hd : decide (-1000000 ≤ n ∧ n ≤ 1000000) = false := decide_eq_false h
    rw [HN.out]
    clear h
    go_enter Try.func7, Try.ntmps7
    go_wp2_with (go_at_call 11; go_must (refine (CI.out _).mono ?_; rintro e w1 ⟨rfl, rfl⟩; try rw [hd]))
    go_ret2
    exact ⟨rfl, rfl⟩
theorem implNumberShort_c (n : Int) (w : World) : Calls Try.prog 6 #[.int .i64 n] w fun e w' => e = .returned (.tuple #[.int .i64 ((nshort n).getD 0), .bool (nshort n).isSome]) ∧ w' = w := by
  by_cases h1 : n < -1000000
  · have HN := Lib.hid (show nshort n = none from if_neg (by omega))
    rw [HN.out]
    go_enter Try.func6, Try.ntmps6
    go_wp2_with fail
    go_ret2
    exact ⟨rfl, rfl⟩
  · by_cases h2 : n ≤ 1000000
    · have HN := Lib.hid (show nshort n = some (shortR n) from if_pos (by omega))
      have C := Lib.hid (short_c n (by omega))
      rw [HN.out]
      have h3 : ¬ n > 1000000 := by omega
      go_enter Try.func6, Try.ntmps6
      go_wp2_with (go_at_call 10; go_must (refine (C.out _).mono ?_; rintro e w2 ⟨rfl, rfl⟩))
      go_ret2
      exact ⟨rfl, rfl⟩
    · have HN := Lib.hid (show nshort n = none from if_neg (by omega))
      have h3 : n > 1000000 := by omega
      rw [HN.out]
      go_enter Try.func6, Try.ntmps6
      go_wp2_with fail
      go_ret2
      exact ⟨rfl, rfl⟩
theorem walk_FnExactNumberShort (a0 : Int) (w0 : (Lit.int .i64 a0).wf = true) (w : World) :
    Calls Try.prog 4 #[.int .i64 a0] w fun e w' => e = .returned (.bool true) ∧ Below w.heap.size w w' := by
  obtain ⟨x0, h0⟩ : ∃ x, x = (nshort a0).getD 0 := ⟨_, rfl⟩
  obtain ⟨x1, h1⟩ : ∃ x, x = (nshort a0).isSome := ⟨_, rfl⟩
  have C1 := Lib.hid (specNumberShort_c a0)
  have C2 := Lib.hid (implNumberShort_c a0)
  rw [← h0, ← h1] at C1 C2
  clear h0 h1
  go_enter Try.func4, Try.ntmps4
  go_wp2_with (first | (go_at_call 7; go_must (refine (C1.out _).mono ?_; rintro e w1 ⟨rfl, rfl⟩)) | (go_at_call 6; go_must (refine (C2.out _).mono ?_; rintro e w2 ⟨rfl, rfl⟩)))
  go_ret
  exact ⟨rfl, Below.refl _ _⟩
end Go.Proofs.Ytibiennbjegomaa
