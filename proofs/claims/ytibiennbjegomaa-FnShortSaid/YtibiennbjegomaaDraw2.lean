/- The law FnShort: drawn numbers. -/
import Derived.Test.YtibiennbjegomaaDraw1
import Derived.Test.YtibiennbjegomaaNumJ
namespace Go.Proofs.Ytibiennbjegomaa
open Go.RowKit
set_option linter.unusedSimpArgs false
set_option linter.unusedVariables false
set_option maxHeartbeats 2000000 in
theorem drawNumberShort_c (a : Option Addr) (L c : Nat) (zs : List Int) (w : World) (hr : BRow w a L c zs) :
    Calls Try.prog 5 #[.slice a L c] w fun e w' => (∃ r : Int, e = .returned (.int .i64 r) ∧ -2000000 ≤ r ∧ r ≤ 2000000) ∧ Below w.heap.size w w' := by
  have CO := Lib.hid (l6Open_c a L c zs w hr)
  have CP : Hid (∀ (W : World) L' c' p n, Rd W w.heap.size a L' c' p zs → p ≤ 100 → n ≤ 1000000 → Calls Try.prog 9 #[.pointer (some ⟨w.heap.size, 0, none⟩), .int .i64 n] W fun e w' => (∃ r : Int, e = .returned (.int .i64 r) ∧ 0 ≤ r ∧ (r < n ∨ r = 0)) ∧ Rd w' w.heap.size a L' c' (p + 1) zs ∧ Only w.heap.size W w') := Lib.hid (fun W L' c' p n h hp hn => (pick_c _ _ _ _ _ _ _ W h (by omega) hn).mono fun e w' ⟨h1, h2, h3⟩ => ⟨h1, ⟨h2, h.row.only h3 h.ne, h.ne, h.len⟩, h3⟩)
  clear hr
  go_enter Try.func5, Try.ntmps5
  go_wp2_with (first | (go_at_call 8; go_must (refine (CO.out).mono ?_; rintro e w1 ⟨rfl, ⟨L', c', hR1⟩, hb1⟩; have HB1 := Lib.hid hb1; clear hb1)))
  refine (CP.out _ _ _ _ _ hR1 (by omega) (by omega)).mono ?_
  rintro e w2 ⟨⟨r, rfl, hr0, hr1⟩, hR2, ho2⟩
  have HO2 := Lib.hid ho2
  clear ho2 hR1
  by_cases hz : r = 0
  · subst hz
    go_wp2_with fail
    have q9 := heap_alloc_new w2 (.cells #[.int .i64 499, .int .i64 500, .int .i64 (-500), .int .i64 (-501), .int .i64 1000000, .int .i64 1000001, .int .i64 (-1000000), .int .i64 999] 3)
    refine (CP.out _ _ _ _ _ (hR2.below (below1 _ _)) (by omega) (by omega)).mono ?_
    rintro e w3 ⟨⟨k, rfl, hk0, hk1⟩, hR3, ho3⟩
    have hlt : w.heap.size < w2.heap.size := Nat.lt_of_lt_of_le (lt_of_block hR2.blk) (Nat.le_refl _)
    have y9 := ho3.blk q9 (by omega)
    obtain ⟨j, rfl⟩ : ∃ j : Nat, k = (j : Int) := ⟨k.toNat, by omega⟩
    have hj8 : j < 8 := by omega
    have hc : ∃ x : Int, w3.cell? ⟨w2.heap.size, j, none⟩ = some (.int .i64 x) ∧ -2000000 ≤ x ∧ x ≤ 2000000 := by
      have e := cell_of (j := j) y9
      rw [e]
      match j, hj8 with
      | 0, _ => exact ⟨_, rfl, by decide, by decide⟩
      | 1, _ => exact ⟨_, rfl, by decide, by decide⟩
      | 2, _ => exact ⟨_, rfl, by decide, by decide⟩
      | 3, _ => exact ⟨_, rfl, by decide, by decide⟩
      | 4, _ => exact ⟨_, rfl, by decide, by decide⟩
      | 5, _ => exact ⟨_, rfl, by decide, by decide⟩
      | 6, _ => exact ⟨_, rfl, by decide, by decide⟩
      | 7, _ => exact ⟨_, rfl, by decide, by decide⟩
    obtain ⟨x, hx, hx1, hx2⟩ := hc
    have hjI : (j : Int) < 8 := by omega
    have hB : Below w.heap.size w w3 := Only.fresh ((Only.fresh HB1.out HO2.out (Nat.le_refl _) HB1.out.size).alloc (by omega) _) ho3 (Nat.le_refl _) (by simp; omega)
    clear y9 q9
    go_wp2_with fail
    go_ret
    exact ⟨⟨x, rfl, hx1, hx2⟩, hB⟩
  · have hz2 : (r == 0) = false := by simpa using hz
    go_wp2_with fail
    refine (CP.out _ _ _ _ _ hR2 (by omega) (by omega)).mono ?_
    rintro e w3 ⟨⟨r2, rfl, hs0, hs1⟩, hR3, ho3⟩
    have HO3 := Lib.hid ho3
    clear ho3 hR2
    go_wp2_with fail
    refine (CP.out _ _ _ _ _ hR3 (by omega) (by omega)).mono ?_
    rintro e w4 ⟨⟨r3, rfl, ht0, ht1⟩, hR4, ho4⟩
    have hb1 : 0 ≤ r2 * r3 := Int.mul_nonneg hs0 ht0
    have hb2 : r2 * r3 ≤ 30000 * 30 := Int.mul_le_mul (by omega) (by omega) ht0 (by omega)
    have k1 : IntKind.i64.wrap (r2 * r3) = r2 * r3 := by rw [IntKind.wrap_i64]; omega
    have k2 : IntKind.i64.wrap (r2 * r3 - 9000) = r2 * r3 - 9000 := by rw [IntKind.wrap_i64]; omega
    go_wp2_with fail
    go_ret
    exact ⟨⟨r2 * r3 - 9000, rfl, by omega, by omega⟩, Only.fresh (Only.fresh (Only.fresh HB1.out HO2.out (Nat.le_refl _) HB1.out.size) HO3.out (Nat.le_refl _) (Nat.le_trans HB1.out.size HO2.out.size)) ho4 (Nat.le_refl _) (Nat.le_trans HB1.out.size (Nat.le_trans HO2.out.size HO3.out.size))⟩
set_option maxHeartbeats 1000000 in
theorem walk_FnShort (a : Option Addr) (L c : Nat) (zs : List Int) (w : World) (hr : BRow w a L c zs) :
    Calls Try.prog 3 #[.slice a L c] w fun e w' => e = .returned (.bool true) ∧ Below w.heap.size w w' := by
  by_cases h0 : L ≤ 1048576
  · have hd0 : decide (1048576 < (L : Int)) = false := by simp; omega
    have C := Lib.hid (drawNumberShort_c a L c zs w hr)
    clear hr
    go_enter Try.func3, Try.ntmps3
    go_wp2_with fail
    refine (C.out).mono ?_
    rintro e w1 ⟨⟨n, rfl, hn0, hn1⟩, hb1⟩
    by_cases hn : -1000000 ≤ n ∧ n ≤ 1000000
    · have hsn : nshort n = some (shortR n) := if_pos hn
      have hR : -500 ≤ shortR n ∧ shortR n ≤ 499 := by rw [shortR_eq]; omega
      have hM : (n - shortR n).tmod 1000 = 0 := by rw [Int.tmod_eq_zero_of_dvd (by rw [shortR_eq]; omega)]
      have hS2 : nshort (shortR n) = some (shortR n) := by unfold nshort; rw [if_pos (by omega)]; congr 1; rw [shortR_eq (shortR n), shortR_eq n]; omega
      have C1 := Lib.hid (implNumberShort_c n)
      have C2 := Lib.hid (specNumberShort_c n)
      have C3 := Lib.hid (implNumberShort_c (shortR n))
      rw [hsn] at C1 C2
      rw [hS2] at C3
      simp only [Option.getD_some, Option.isSome_some] at C1 C2 C3
      have k1 : IntKind.i64.wrap (n - shortR n) = n - shortR n := by rw [IntKind.wrap_i64]; omega
      clear hsn hS2 hn
      generalize shortR n = s at *
      go_wp2_with (first | (go_at_call_of 6 n; go_must (refine (C1.out _).mono ?_; rintro e w2 ⟨rfl, rfl⟩)) | (go_at_call_of 6 s; go_must (refine (C3.out _).mono ?_; rintro e w3 ⟨rfl, rfl⟩)) | (go_at_call 7; go_must (refine (C2.out _).mono ?_; rintro e w4 ⟨rfl, rfl⟩)))
      go_ret
      exact ⟨rfl, hb1⟩
    · have hsn : nshort n = none := if_neg hn
      have C1 := Lib.hid (implNumberShort_c n)
      have C2 := Lib.hid (specNumberShort_c n)
      rw [hsn] at C1 C2
      simp only [Option.getD_none, Option.isSome_none] at C1 C2
      clear hsn hn
      go_wp2_with (first | (go_at_call 6; go_must (refine (C1.out _).mono ?_; rintro e w2 ⟨rfl, rfl⟩)) | (go_at_call 7; go_must (refine (C2.out _).mono ?_; rintro e w4 ⟨rfl, rfl⟩)))
      go_ret
      exact ⟨rfl, hb1⟩
  · have hd0 : decide (1048576 < (L : Int)) = true := by simp; omega
    have hm0 : L ≤ 9223372036854775807 := hr.bound
    go_enter Try.func3, Try.ntmps3
    go_wp2_with fail
    go_ret
    exact ⟨rfl, Below.refl _ _⟩
end Go.Proofs.Ytibiennbjegomaa
