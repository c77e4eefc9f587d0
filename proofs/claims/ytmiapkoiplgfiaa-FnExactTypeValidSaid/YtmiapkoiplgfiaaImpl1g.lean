/- The program's orders. -/
import Derived.Test.YtmiapkoiplgfiaaImpl1f
import Derived.Deep.RegionHeld3
namespace Go.Proofs.Ytmiapkoiplgfiaa
open Go.RowKit
set_option linter.unusedSimpArgs false
set_option linter.unusedVariables false
theorem fin_below {w w1 W : World} {p : Prop} (h : Below w.heap.size w w1) (k : Below w1.heap.size w1 W ∧ p) : Below w.heap.size w W := h.trans (k.1.mono h.size)
set_option maxHeartbeats 1000000 in
theorem order_c (n : Nat) : ∀ (t : Tr) (p : Option Addr) (m c : Nat) (ok : Nat → Prop) (w : World), t.depth < n → n ≤ 1000000000 → t.wf → isTy t = true → FV nI w ok t (nI t (.slice p m c)) → (∀ k, ok k → k < w.heap.size) →
    Calls Try.prog 50 #[.agg #[.string (bs (atomOf t)), .slice p m c, .int .i64 t.bytes, .int .i64 t.size, .int .i64 t.depth]] w fun e w' => e = .returned (.int .i64 (tyOrder t)) ∧ Below w.heap.size w w' := by
  induction n with
  | zero => intro t _ _ _ _ _ h; omega
  | succ n ih =>
    intro t p m c ok w hd hn hwf hty hv hok
    match t, hv with
    | .atom a, hv =>
      simp only [FV] at hv
      have hh := nI_inj _ _ _ hv
      simp only [Value.slice.injEq] at hh
      obtain ⟨rfl, rfl, rfl⟩ := hh
      clear hv
      go_enter Try.func50, Try.ntmps50
      simp only [atomOf]
      go_wp2_with (go_at_call 43; go_must (refine (isAtom_yes _ _ _ _ _ _ _).mono ?_; rintro e w1 ⟨rfl, hb1⟩))
      go_ret
      exact ⟨ret_int (by rw [tyOrder_atom]; rfl), (below1 w _).trans (hb1.mono (by simp))⟩
    | .list ts, hv =>
      simp only [FV] at hv
      obtain ⟨r, off, cap, xs, hh, h2, h3, h4, h5, h6⟩ := hv
      have hh := nI_inj _ _ _ hh
      simp only [Value.slice.injEq] at hh
      obtain ⟨rfl, rfl, rfl⟩ := hh
      have hrlt := hok r h2
      obtain ⟨x, a, b, rfl, hx, hta, htb⟩ := isTy_list hty
      obtain ⟨⟨p0, n0, q0, v0, r0⟩, ⟨p1, n1, q1, v1, r1⟩, ⟨p2, n2, q2, v2, r2⟩⟩ := FVs.three nI_len h6 h5
      have hdd := depths3 x a b
      have CX : Hid (∀ W, Below w.heap.size w W → W.cell? ⟨r, off, none⟩ = some (.string (bs (atomOf x)))) := Lib.hid (fun W hW => (hW.cell (p := ⟨r, off, none⟩) hrlt).trans (r0 0 _ rfl))
      have CA : Hid (∀ W, Below w.heap.size w W → W.cell? ⟨r, off + 5, none⟩ = some (.string (bs (atomOf a))) ∧ W.cell? ⟨r, off + 5 + 1, none⟩ = some (.slice p1 n1 q1) ∧ W.cell? ⟨r, off + 5 + 2, none⟩ = some (.int .i64 a.bytes) ∧ W.cell? ⟨r, off + 5 + 3, none⟩ = some (.int .i64 a.size) ∧ W.cell? ⟨r, off + 5 + 4, none⟩ = some (.int .i64 a.depth)) :=
        Lib.hid (fun W hW => ⟨(hW.cell (p := ⟨r, off + 5, none⟩) hrlt).trans (r1 0 _ rfl), (hW.cell (p := ⟨r, off + 5 + 1, none⟩) hrlt).trans (r1 1 _ rfl), (hW.cell (p := ⟨r, off + 5 + 2, none⟩) hrlt).trans (r1 2 _ rfl), (hW.cell (p := ⟨r, off + 5 + 3, none⟩) hrlt).trans (r1 3 _ rfl), (hW.cell (p := ⟨r, off + 5 + 4, none⟩) hrlt).trans (r1 4 _ rfl)⟩)
      have CB : Hid (∀ W, Below w.heap.size w W → W.cell? ⟨r, off + 10, none⟩ = some (.string (bs (atomOf b))) ∧ W.cell? ⟨r, off + 10 + 1, none⟩ = some (.slice p2 n2 q2) ∧ W.cell? ⟨r, off + 10 + 2, none⟩ = some (.int .i64 b.bytes) ∧ W.cell? ⟨r, off + 10 + 3, none⟩ = some (.int .i64 b.size) ∧ W.cell? ⟨r, off + 10 + 4, none⟩ = some (.int .i64 b.depth)) :=
        Lib.hid (fun W hW => ⟨(hW.cell (p := ⟨r, off + 10, none⟩) hrlt).trans (r2 0 _ rfl), (hW.cell (p := ⟨r, off + 10 + 1, none⟩) hrlt).trans (r2 1 _ rfl), (hW.cell (p := ⟨r, off + 10 + 2, none⟩) hrlt).trans (r2 2 _ rfl), (hW.cell (p := ⟨r, off + 10 + 3, none⟩) hrlt).trans (r2 3 _ rfl), (hW.cell (p := ⟨r, off + 10 + 4, none⟩) hrlt).trans (r2 4 _ rfl)⟩)
      have HT := Lib.hid (tyOrder_three x a b)
      have oa := tyOrder_le a.depth a (Nat.le_refl _)
      have ob := tyOrder_le b.depth b (Nat.le_refl _)
      have oa2 : tyOrder a ≤ 1000000000 := by omega
      have ob2 : tyOrder b ≤ 1000000000 := by omega
      have hwa : a.wf := hwf.2.2.1
      have hwb : b.wf := hwf.2.2.2.1
      have C1 : Hid (∀ W, Below w.heap.size w W → Calls Try.prog 50 #[.agg #[.string (bs (atomOf a)), .slice p1 n1 q1, .int .i64 a.bytes, .int .i64 a.size, .int .i64 a.depth]] W fun e w' => e = .returned (.int .i64 (tyOrder a)) ∧ Below W.heap.size W w') :=
        Lib.hid (fun W hW => ih a p1 n1 q1 ok W (by omega) (by omega) hwa hta (v1.below hW hok) (fun j hj => Nat.lt_of_lt_of_le (hok j hj) hW.size))
      have C2 : Hid (∀ W, Below w.heap.size w W → Calls Try.prog 50 #[.agg #[.string (bs (atomOf b)), .slice p2 n2 q2, .int .i64 b.bytes, .int .i64 b.size, .int .i64 b.depth]] W fun e w' => e = .returned (.int .i64 (tyOrder b)) ∧ Below W.heap.size W w') :=
        Lib.hid (fun W hW => ih b p2 n2 q2 ok W (by omega) (by omega) hwb htb (v2.below hW hok) (fun j hj => Nat.lt_of_lt_of_le (hok j hj) hW.size))
      clear ih hty v0 v1 v2 r0 r1 r2 h5 h6
      go_enter Try.func50, Try.ntmps50
      simp only [atomOf, bs]
      go_wp2_with (go_at_call 43; go_must (refine (isAtom_no _ _ _ _ (by simp) _ _ _ _).mono ?_; rintro e w1 ⟨rfl, hb1⟩; have c1 := below_blk hb1 (by simp) (heap_alloc_new _ _); have hw1 := (below1 w _).trans (hb1.mono (by simp))))
      have HW1 := Lib.hid hw1
      have y1 := cell_of (j := 1) c1
      have hlt1 := lt_of_block c1
      clear hb1 hw1
      have K : Hid (∀ W, Below w1.heap.size w1 W → (fun W => Below w1.heap.size w1 W ∧ W.cell? ⟨w.heap.size, 1, none⟩ = some (.slice (some ⟨r, off, none⟩) 3 c) ∧ W.cell? ⟨r, off, none⟩ = some (.string (bs (atomOf x))) ∧ (W.cell? ⟨r, off + 5, none⟩ = some (.string (bs (atomOf a))) ∧ W.cell? ⟨r, off + 5 + 1, none⟩ = some (.slice p1 n1 q1) ∧ W.cell? ⟨r, off + 5 + 2, none⟩ = some (.int .i64 a.bytes) ∧ W.cell? ⟨r, off + 5 + 3, none⟩ = some (.int .i64 a.size) ∧ W.cell? ⟨r, off + 5 + 4, none⟩ = some (.int .i64 a.depth)) ∧ (W.cell? ⟨r, off + 10, none⟩ = some (.string (bs (atomOf b))) ∧ W.cell? ⟨r, off + 10 + 1, none⟩ = some (.slice p2 n2 q2) ∧ W.cell? ⟨r, off + 10 + 2, none⟩ = some (.int .i64 b.bytes) ∧ W.cell? ⟨r, off + 10 + 3, none⟩ = some (.int .i64 b.size) ∧ W.cell? ⟨r, off + 10 + 4, none⟩ = some (.int .i64 b.depth))) W) :=
        Lib.hid (fun W hW => ⟨hW, (hW.cell (p := ⟨w.heap.size, 1, none⟩) hlt1).trans y1, CX.out _ (HW1.out.trans (hW.mono HW1.out.size)), CA.out _ (HW1.out.trans (hW.mono HW1.out.size)), CB.out _ (HW1.out.trans (hW.mono HW1.out.size))⟩)
      have S0 := Lib.hid (K.out _ ((Below.refl _ _).drew))
      go_region_held3 (fun W => Below w1.heap.size w1 W ∧ W.cell? ⟨w.heap.size, 1, none⟩ = some (.slice (some ⟨r, off, none⟩) 3 c) ∧ W.cell? ⟨r, off, none⟩ = some (.string (bs (atomOf x))) ∧ (W.cell? ⟨r, off + 5, none⟩ = some (.string (bs (atomOf a))) ∧ W.cell? ⟨r, off + 5 + 1, none⟩ = some (.slice p1 n1 q1) ∧ W.cell? ⟨r, off + 5 + 2, none⟩ = some (.int .i64 a.bytes) ∧ W.cell? ⟨r, off + 5 + 3, none⟩ = some (.int .i64 a.size) ∧ W.cell? ⟨r, off + 5 + 4, none⟩ = some (.int .i64 a.depth)) ∧ (W.cell? ⟨r, off + 10, none⟩ = some (.string (bs (atomOf b))) ∧ W.cell? ⟨r, off + 10 + 1, none⟩ = some (.slice p2 n2 q2) ∧ W.cell? ⟨r, off + 10 + 2, none⟩ = some (.int .i64 b.bytes) ∧ W.cell? ⟨r, off + 10 + 3, none⟩ = some (.int .i64 b.size) ∧ W.cell? ⟨r, off + 10 + 4, none⟩ = some (.int .i64 b.depth)))
        (first | exact S0.out | assumption)
        (first | (go_at_call 50; have hh := And.left (by assumption : Below w1.heap.size w1 _ ∧ _); first | ((with_reducible refine (C1.out _ (HW1.out.trans (hh.mono HW1.out.size))).mono ?_); rintro e w' ⟨rfl, hb2⟩; have hS2 := K.out _ (hh.trans (hb2.mono hh.size))) | ((with_reducible refine (C2.out _ (HW1.out.trans (hh.mono HW1.out.size))).mono ?_); rintro e w' ⟨rfl, hb2⟩; have hS2 := K.out _ (hh.trans (hb2.mono hh.size)))))
      cases hx1 : (atomOf x == [62]) with
      | true =>
        have hx2 : ((bs (atomOf x)).toList == [62]) = true := by rw [bs_toList]; exact hx1
        have hx3 := Lib.hid (show atomOf x = [62] from by simpa using hx1)
        clear hx1 hx
        go_wp2_with fail
        all_goals
          go_ret
          exact ⟨ret_int (by rw [HT.out, if_pos hx3.out]; omega), fin_below HW1.out (by assumption)⟩
      | false =>
        have hx2 : ((bs (atomOf x)).toList == [62]) = false := by rw [bs_toList]; exact hx1
        have hx3 := Lib.hid (show ¬ atomOf x = [62] from by simpa using hx1)
        clear hx1 hx
        go_wp2_with fail
        all_goals
          go_ret
          exact ⟨ret_int (by rw [HT.out, if_neg hx3.out]; omega), fin_below HW1.out (by assumption)⟩
end Go.Proofs.Ytmiapkoiplgfiaa
