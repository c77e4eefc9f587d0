/- The reference model's orders, and its functions that answer numbers and bools. -/
import Derived.Test.YtmiapkoiplgfiaaSpec1d
import Derived.Test.YtmiapkoiplgfiaaLawA
namespace Go.Proofs.Ytmiapkoiplgfiaa
open Go.RowKit
set_option linter.unusedSimpArgs false
set_option linter.unusedVariables false
set_option maxHeartbeats 400000 in
theorem l1Typed_c (t : Tr) (p : Option Addr) (m c : Nat) (ok : Nat → Prop) (w : World) (hwf : t.wf) (hb : t.bytes ≤ 1000000000) (hv : FV nS w ok t (nS t (.slice p m c))) (hok : ∀ k, ok k → k < w.heap.size) :
    Calls Try.prog 45 #[.agg #[.string (bs (atomOf t)), .slice p m c]] w fun e w' => e = .returned (.bool (isTy t && decide (t.size ≤ 16))) ∧ Below w.heap.size w w' := by
  have hs := (size_le t hwf).1
  have C1 : Hid (∀ W, Below w.heap.size w W → Calls Try.prog 58 #[.agg #[.string (bs (atomOf t)), .slice p m c]] W fun e w' => e = .returned (.bool (isTy t)) ∧ Below W.heap.size W w') :=
    Lib.hid (fun W hW => l1Type_c (t.depth + 1) t _ ok W (by omega) hwf (hv.below hW hok) (fun j hj => Nat.lt_of_lt_of_le (hok j hj) hW.size))
  have C2 : Hid (∀ W, Below w.heap.size w W → Calls Try.prog 59 #[.agg #[.string (bs (atomOf t)), .slice p m c]] W fun e w' => e = .returned (.int .i64 t.size) ∧ Below W.heap.size W w') :=
    Lib.hid (fun W hW => l1Size_c (t.depth + 1) t _ ok W (by omega) hwf hb (hv.below hW hok) (fun j hj => Nat.lt_of_lt_of_le (hok j hj) hW.size))
  clear hv
  cases ht : isTy t with
  | false =>
    rw [ht] at C1
    go_enter Try.func45, Try.ntmps45
    go_wp2_with (go_at_call 58; go_must (refine (C1.out _ (below1 _ _)).mono ?_; rintro e w1 ⟨rfl, hb1⟩))
    go_ret
    exact ⟨rfl, (below1 w _).trans (hb1.mono (by simp))⟩
  | true =>
    rw [ht] at C1
    go_enter Try.func45, Try.ntmps45
    go_wp2_with (first | (go_at_call 58; go_must (refine (C1.out _ (below1 _ _)).mono ?_; rintro e w1 ⟨rfl, hb1⟩; have hw1 := (below1 w _).trans (hb1.mono (by simp)); have c1 := below_blk hb1 (by simp) (heap_alloc_new _ _); have d0 := cell_of (j := 0) c1; have d1 := cell_of (j := 1) c1)) | (go_at_call 59; go_must (refine (C2.out _ hw1).mono ?_; rintro e w2 ⟨rfl, hb2⟩)))
    go_ret
    exact ⟨ret_bool (by rw [Bool.eq_iff_iff]; simp; omega), hw1.trans (hb2.mono hw1.size)⟩

set_option maxHeartbeats 400000 in
theorem l1Order_c (n : Nat) : ∀ (t : Tr) (cs : List Value) (ok : Nat → Prop) (w : World), t.depth < n → n ≤ 1000000000 → t.wf → isTy t = true → FV nS w ok t cs → (∀ k, ok k → k < w.heap.size) →
    Calls Try.prog 49 #[.agg cs.toArray] w fun e w' => e = .returned (.int .i64 (tyOrder t)) ∧ Below w.heap.size w w' := by
  induction n with
  | zero => intro t _ _ _ h; omega
  | succ n ih =>
    intro t cs ok w hd hn hwf hty hv hok
    match t, hv with
    | .atom a, hv =>
      simp only [FV] at hv
      subst hv
      have ha := atomne hwf.1
      go_enter Try.func49, Try.ntmps49
      simp only [nS, atomOf]
      go_wp2_with fail
      go_ret
      exact ⟨ret_int (by rw [tyOrder_atom]; rfl), below1 _ _⟩
    | .list ts, hv =>
      simp only [FV] at hv
      obtain ⟨r, off, cap, xs, rfl, h2, h3, h4, h5, h6⟩ := hv
      have ha := emptyne
      have hrlt := hok r h2
      obtain ⟨x, a, b, rfl, hx, hta, htb⟩ := isTy_list hty
      obtain ⟨⟨p0, n0, q0, v0, r0⟩, ⟨p1, n1, q1, v1, r1⟩, ⟨p2, n2, q2, v2, r2⟩⟩ := FVs.three nS_len h6 h5
      have hdd := depths3 x a b
      have e0 : w.cell? ⟨r, off, none⟩ = some (.string (bs (atomOf x))) := r0 0 _ rfl
      have e1 : w.cell? ⟨r, off + 2, none⟩ = some (.string (bs (atomOf a))) := r1 0 _ rfl
      have e2 : w.cell? ⟨r, off + 2 + 1, none⟩ = some (.slice p1 n1 q1) := r1 1 _ rfl
      have e3 : w.cell? ⟨r, off + 4, none⟩ = some (.string (bs (atomOf b))) := r2 0 _ rfl
      have e4 : w.cell? ⟨r, off + 4 + 1, none⟩ = some (.slice p2 n2 q2) := r2 1 _ rfl
      have HT := Lib.hid (tyOrder_three x a b)
      have oa := tyOrder_le a.depth a (Nat.le_refl _)
      have ob := tyOrder_le b.depth b (Nat.le_refl _)
      have oa2 : tyOrder a ≤ 1000000000 := by omega
      have ob2 : tyOrder b ≤ 1000000000 := by omega
      have hwa : a.wf := hwf.2.2.1
      have hwb : b.wf := hwf.2.2.2.1
      have C1 : Hid (∀ W, Below w.heap.size w W → Calls Try.prog 49 #[.agg #[.string (bs (atomOf a)), .slice p1 n1 q1]] W fun e w' => e = .returned (.int .i64 (tyOrder a)) ∧ Below W.heap.size W w') :=
        Lib.hid (fun W hW => ih a (nS a (.slice p1 n1 q1)) ok W (by omega) (by omega) hwa hta (v1.below hW hok) (fun j hj => Nat.lt_of_lt_of_le (hok j hj) hW.size))
      have C2 : Hid (∀ W, Below w.heap.size w W → Calls Try.prog 49 #[.agg #[.string (bs (atomOf b)), .slice p2 n2 q2]] W fun e w' => e = .returned (.int .i64 (tyOrder b)) ∧ Below W.heap.size W w') :=
        Lib.hid (fun W hW => ih b (nS b (.slice p2 n2 q2)) ok W (by omega) (by omega) hwb htb (v2.below hW hok) (fun j hj => Nat.lt_of_lt_of_le (hok j hj) hW.size))
      clear ih hty
      cases hx1 : (atomOf x == [62]) with
      | true =>
        have hx2 : ((bs (atomOf x)).toList == [62]) = true := by rw [bs_eq]; exact hx1
        have hx3 := Lib.hid (show atomOf x = [62] from by simpa using hx1)
        clear hx1 hx
        go_enter Try.func49, Try.ntmps49
        simp only [nS, atomOf]
        go_wp2_with (go_at_call 49; first | ((with_reducible refine (C1.out _ (below1 _ _)).mono ?_); rintro e w1 ⟨rfl, hb1⟩; have hw1 := (below1 w _).trans (hb1.mono (by simp)); have c1 := below_blk hb1 (by simp) (heap_alloc_new _ _); have d1 := cell_of (j := 1) c1; have g0 := (hw1.cell (p := ⟨r, off, none⟩) hrlt).trans e0; have g3 := (hw1.cell (p := ⟨r, off + 4, none⟩) hrlt).trans e3; have g4 := (hw1.cell (p := ⟨r, off + 4 + 1, none⟩) hrlt).trans e4) | (refine (C2.out _ hw1).mono ?_; rintro e w2 ⟨rfl, hb2⟩))
        all_goals
          go_ret
          exact ⟨ret_int (by rw [HT.out, if_pos hx3.out]; omega), hw1.trans (hb2.mono hw1.size)⟩
      | false =>
        have hx2 : ((bs (atomOf x)).toList == [62]) = false := by rw [bs_eq]; exact hx1
        have hx3 := Lib.hid (show ¬ atomOf x = [62] from by simpa using hx1)
        clear hx1 hx
        go_enter Try.func49, Try.ntmps49
        simp only [nS, atomOf]
        go_wp2_with (go_at_call 49; first | ((with_reducible refine (C1.out _ (below1 _ _)).mono ?_); rintro e w1 ⟨rfl, hb1⟩; have hw1 := (below1 w _).trans (hb1.mono (by simp)); have c1 := below_blk hb1 (by simp) (heap_alloc_new _ _); have d1 := cell_of (j := 1) c1; have g0 := (hw1.cell (p := ⟨r, off, none⟩) hrlt).trans e0; have g3 := (hw1.cell (p := ⟨r, off + 4, none⟩) hrlt).trans e3; have g4 := (hw1.cell (p := ⟨r, off + 4 + 1, none⟩) hrlt).trans e4) | (refine (C2.out _ hw1).mono ?_; rintro e w2 ⟨rfl, hb2⟩))
        all_goals
          go_ret
          exact ⟨ret_int (by rw [HT.out, if_neg hx3.out]; omega), hw1.trans (hb2.mono hw1.size)⟩

end Go.Proofs.Ytmiapkoiplgfiaa
