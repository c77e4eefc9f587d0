/- The reference model's types. -/
import Derived.Test.YtlinjnflhpldfaaGreatDoorSpec1c
namespace Go.Proofs.YtlinjnflhpldfaaGreatDoor
open Go.RowKit
set_option maxRecDepth 8000
set_option linter.unusedSimpArgs false
set_option linter.unusedVariables false
theorem bs_eq (a b : List UInt8) : ((bs a).toList == b) = (a == b) := by rw [bs_toList]
set_option maxHeartbeats 400000 in
theorem l1Type_c (n : Nat) : ∀ (t : Tr) (cs : List Value) (ok : Nat → Prop) (w : World), t.depth < n → t.wf → FV nS w ok t cs → (∀ k, ok k → k < w.heap.size) →
    Calls Tryz.prog 99 #[.agg cs.toArray] w fun e w' => e = .returned (.bool (isTy t)) ∧ Below w.heap.size w w' := by
  induction n with
  | zero => intro t _ _ _ h; omega
  | succ n ih =>
    intro t cs ok w hd hwf hv hok
    match t, hv with
    | .atom a, hv =>
      simp only [FV] at hv
      subst hv
      have ha := atomne hwf.1
      go_enter Tryz.func99, Tryz.ntmps99
      simp only [nS, atomOf]
      go_wp2_with fail
      go_ret
      exact ⟨ret_bool (by rw [isTy_atom, bs_eq]), below1 _ _⟩
    | .list ts, hv =>
      simp only [FV] at hv
      obtain ⟨r, off, cap, xs, rfl, h2, h3, h4, h5, h6⟩ := hv
      have ha := emptyne
      have h3' : ts.length ≤ 9223372036854775807 := by have := maxLen_le h4; omega
      have hrlt := hok r h2
      by_cases hl : ts.length = 3
      · obtain ⟨x, a, b, rfl⟩ := three_of hl
        obtain ⟨⟨p0, n0, q0, v0, r0⟩, ⟨p1, n1, q1, v1, r1⟩, ⟨p2, n2, q2, v2, r2⟩⟩ := FVs.three nS_len h6 h5
        have hdd := depths3 x a b
        have e0 : w.cell? ⟨r, off, none⟩ = some (.string (bs (atomOf x))) := r0 0 _ rfl
        have e1 : w.cell? ⟨r, off + 2, none⟩ = some (.string (bs (atomOf a))) := r1 0 _ rfl
        have e2 : w.cell? ⟨r, off + 2 + 1, none⟩ = some (.slice p1 n1 q1) := r1 1 _ rfl
        have e3 : w.cell? ⟨r, off + 4, none⟩ = some (.string (bs (atomOf b))) := r2 0 _ rfl
        have e4 : w.cell? ⟨r, off + 4 + 1, none⟩ = some (.slice p2 n2 q2) := r2 1 _ rfl
        have hT := isTy_three x a b
        have HT := Lib.hid hT
        have hwa : a.wf := hwf.2.2.1
        have hwb : b.wf := hwf.2.2.2.1
        clear hl hT
        cases hx : (atomOf x == [62] || atomOf x == [42]) with
        | false =>
          simp only [Bool.or_eq_false_iff] at hx
          have hx1 : ((bs (atomOf x)).toList == [62]) = false := by rw [bs_eq]; exact hx.1
          have hx2 : ((bs (atomOf x)).toList == [42]) = false := by rw [bs_eq]; exact hx.2
          have hx := Lib.hid hx
          go_enter Tryz.func99, Tryz.ntmps99
          simp only [nS, atomOf]
          go_wp2_with fail
          go_ret
          exact ⟨ret_bool (by rw [HT.out]; simp [hx.out.1, hx.out.2]), below1 _ _⟩
        | true =>
          have hHx := Lib.hid hx
          have call1 : Hid (∀ W, Below w.heap.size w W → Calls Tryz.prog 99 #[.agg #[.string (bs (atomOf a)), .slice p1 n1 q1]] W fun e w' => e = .returned (.bool (isTy a)) ∧ Below W.heap.size W w') :=
            Lib.hid (fun W hW => ih a (nS a (.slice p1 n1 q1)) ok W (by omega) hwa (v1.below hW hok) (fun j hj => Nat.lt_of_lt_of_le (hok j hj) hW.size))
          have call2 : Hid (∀ W, Below w.heap.size w W → Calls Tryz.prog 99 #[.agg #[.string (bs (atomOf b)), .slice p2 n2 q2]] W fun e w' => e = .returned (.bool (isTy b)) ∧ Below W.heap.size W w') :=
            Lib.hid (fun W hW => ih b (nS b (.slice p2 n2 q2)) ok W (by omega) hwb (v2.below hW hok) (fun j hj => Nat.lt_of_lt_of_le (hok j hj) hW.size))
          have hcases : (((bs (atomOf x)).toList == [62]) = true) ∨ (((bs (atomOf x)).toList == [62]) = false ∧ ((bs (atomOf x)).toList == [42]) = true) := by
            rw [bs_eq, bs_eq]
            simp only [Bool.or_eq_true] at hx
            by_cases h : (atomOf x == [62]) = true
            · exact .inl h
            · exact .inr ⟨by simpa using h, hx.resolve_left h⟩
          clear hx ih
          rcases hcases with hx1 | ⟨hx1, hx2⟩
          all_goals
            cases hta : isTy a with
            | false =>
              rw [hta] at call1
              go_enter Tryz.func99, Tryz.ntmps99
              simp only [nS, atomOf]
              go_wp2_with (go_at_call 99; go_must (refine (call1.out _ (below1 _ _)).mono ?_; rintro e w1 ⟨rfl, hb1⟩))
              go_ret
              exact ⟨ret_bool (by rw [HT.out, hta, hHx.out]; rfl), (below1 w _).trans (hb1.mono (by simp))⟩
            | true =>
              rw [hta] at call1
              go_enter Tryz.func99, Tryz.ntmps99
              simp only [nS, atomOf]
              go_wp2_with (go_at_call 99; first | ((with_reducible refine (call1.out _ (below1 _ _)).mono ?_); rintro e w1 ⟨rfl, hb1⟩; have hw1 := (below1 w _).trans (hb1.mono (by simp)); have c1 := below_blk hb1 (by simp) (heap_alloc_new _ _); have d1 := cell_of (j := 1) c1; have g3 := (hw1.cell (p := ⟨r, off + 4, none⟩) hrlt).trans e3; have g4 := (hw1.cell (p := ⟨r, off + 4 + 1, none⟩) hrlt).trans e4) | (refine (call2.out _ hw1).mono ?_; rintro e w2 ⟨rfl, hb2⟩))
              go_ret
              exact ⟨ret_bool (by rw [HT.out, hta, hHx.out]; simp), hw1.trans (hb2.mono hw1.size)⟩
      · have HT := Lib.hid (isTy_other ts hl)
        have hl' : ((ts.length : Int) == 3) = false := by simp; omega
        go_enter Tryz.func99, Tryz.ntmps99
        simp only [nS, atomOf]
        go_wp2_with fail
        go_ret
        exact ⟨ret_bool HT.out.symm, below1 _ _⟩
end Go.Proofs.YtlinjnflhpldfaaGreatDoor
