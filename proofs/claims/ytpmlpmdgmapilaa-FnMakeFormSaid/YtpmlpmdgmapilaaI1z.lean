/- The program's orders. The program reads types; its answers that are numbers and bools. -/
import Derived.Test.YtpmlpmdgmapilaaI1y
import Derived.Deep.RegionHeld3
namespace Go.Proofs.Ytpmlpmdgmapilaa
open Go.RowKit
set_option maxRecDepth 8000
set_option linter.unusedSimpArgs false
set_option linter.unusedVariables false
theorem fin_below {w w1 W : World} {p : Prop} (h : Below w.heap.size w w1) (k : Below w1.heap.size w1 W ∧ p) : Below w.heap.size w W := h.trans (k.1.mono h.size)
set_option maxHeartbeats 1000000 in
theorem order_c (n : Nat) : ∀ (t : Tr) (p : Option Addr) (m c : Nat) (ok : Nat → Prop) (w : World), t.depth < n → n ≤ 1000000000 → t.wf → isTy t = true → FV nI w ok t (nI t (.slice p m c)) → (∀ k, ok k → k < w.heap.size) →
    Calls Try.prog 77 #[.agg #[.string (bs (atomOf t)), .slice p m c, .int .i64 t.bytes, .int .i64 t.size, .int .i64 t.depth]] w fun e w' => e = .returned (.int .i64 (tyOrder t)) ∧ Below w.heap.size w w' := by
  induction n with
  | zero => intro t _ _ _ _ _ h; omega
  | succ n ih =>
    intro t p m c ok w hd hn hwf hty hv hok
    match t, hv with
    | .atom a, hv =>
      simp only [FV] at hv
      have hh := nI_inj _ _ _ hv
      simp only [Value.slice.injEq] at hh
      obtain ⟨rfl, rfl, rfl⟩ := hh
      clear hv
      go_enter Try.func77, Try.ntmps77
      simp only [atomOf]
      go_wp2_with (go_at_call 58; go_must (refine (isAtom_yes _ _ _ _ _ _ _).mono ?_; rintro e w1 ⟨rfl, hb1⟩))
      go_ret
      exact ⟨ret_int (by rw [tyOrder_atom]; rfl), (below1 w _).trans (hb1.mono (by simp))⟩
    | .list ts, hv =>
      simp only [FV] at hv
      obtain ⟨r, off, cap, xs, hh, h2, h3, h4, h5, h6⟩ := hv
      have hh := nI_inj _ _ _ hh
      simp only [Value.slice.injEq] at hh
      obtain ⟨rfl, rfl, rfl⟩ := hh
      have hrlt := hok r h2
      obtain ⟨x, a, b, rfl, hx, hta, htb⟩ := isTy_list hty
      obtain ⟨⟨p0, n0, q0, v0, r0⟩, ⟨p1, n1, q1, v1, r1⟩, ⟨p2, n2, q2, v2, r2⟩⟩ := FVs.three nI_len h6 h5
      have hdd := depths3 x a b
      have CX : Hid (∀ W, Below w.heap.size w W → W.cell? ⟨r, off, none⟩ = some (.string (bs (atomOf x)))) := Lib.hid (fun W hW => (hW.cell (p := ⟨r, off, none⟩) hrlt).trans (r0 0 _ rfl))
      have CA : Hid (∀ W, Below w.heap.size w W → W.cell? ⟨r, off + 5, none⟩ = some (.string (bs (atomOf a))) ∧ W.cell? ⟨r, off + 5 + 1, none⟩ = some (.slice p1 n1 q1) ∧ W.cell? ⟨r, off + 5 + 2, none⟩ = some (.int .i64 a.bytes) ∧ W.cell? ⟨r, off + 5 + 3, none⟩ = some (.int .i64 a.size) ∧ W.cell? ⟨r, off + 5 + 4, none⟩ = some (.int .i64 a.depth)) :=
        Lib.hid (fun W hW => ⟨(hW.cell (p := ⟨r, off + 5, none⟩) hrlt).trans (r1 0 _ rfl), (hW.cell (p := ⟨r, off + 5 + 1, none⟩) hrlt).trans (r1 1 _ rfl), (hW.cell (p := ⟨r, off + 5 + 2, none⟩) hrlt).trans (r1 2 _ rfl), (hW.cell (p := ⟨r, off + 5 + 3, none⟩) hrlt).trans (r1 3 _ rfl), (hW.cell (p := ⟨r, off + 5 + 4, none⟩) hrlt).trans (r1 4 _ rfl)⟩)
      have CB : Hid (∀ W, Below w.heap.size w W → W.cell? ⟨r, off + 10, none⟩ = some (.string (bs (atomOf b))) ∧ W.cell? ⟨r, off + 10 + 1, none⟩ = some (.slice p2 n2 q2) ∧ W.cell? ⟨r, off + 10 + 2, none⟩ = some (.int .i64 b.bytes) ∧ W.cell? ⟨r, off + 10 + 3, none⟩ = some (.int .i64 b.size) ∧ W.cell? ⟨r, off + 10 + 4, none⟩ = some (.int .i64 b.depth)) :=
        Lib.hid (fun W hW => ⟨(hW.cell (p := ⟨r, off + 10, none⟩) hrlt).trans (r2 0 _ rfl), (hW.cell (p := ⟨r, off + 10 + 1, none⟩) hrlt).trans (r2 1 _ rfl), (hW.cell (p := ⟨r, off + 10 + 2, none⟩) hrlt).trans (r2 2 _ rfl), (hW.cell (p := ⟨r, off + 10 + 3, none⟩) hrlt).trans (r2 3 _ rfl), (hW.cell (p := ⟨r, off + 10 + 4, none⟩) hrlt).trans (r2 4 _ rfl)⟩)
      have HT := Lib.hid (tyOrder_three x a b)
      have oa := tyOrder_le a.depth a (Nat.le_refl _)
      have ob := tyOrder_le b.depth b (Nat.le_refl _)
      have oa2 : tyOrder a ≤ 1000000000 := by omega
      have ob2 : tyOrder b ≤ 1000000000 := by omega
      have hwa : a.wf := hwf.2.2.1
      have hwb : b.wf := hwf.2.2.2.1
      have C1 : Hid (∀ W, Below w.heap.size w W → Calls Try.prog 77 #[.agg #[.string (bs (atomOf a)), .slice p1 n1 q1, .int .i64 a.bytes, .int .i64 a.size, .int .i64 a.depth]] W fun e w' => e = .returned (.int .i64 (tyOrder a)) ∧ Below W.heap.size W w') :=
        Lib.hid (fun W hW => ih a p1 n1 q1 ok W (by omega) (by omega) hwa hta (v1.below hW hok) (fun j hj => Nat.lt_of_lt_of_le (hok j hj) hW.size))
      have C2 : Hid (∀ W, Below w.heap.size w W → Calls Try.prog 77 #[.agg #[.string (bs (atomOf b)), .slice p2 n2 q2, .int .i64 b.bytes, .int .i64 b.size, .int .i64 b.depth]] W fun e w' => e = .returned (.int .i64 (tyOrder b)) ∧ Below W.heap.size W w') :=
        Lib.hid (fun W hW => ih b p2 n2 q2 ok W (by omega) (by omega) hwb htb (v2.below hW hok) (fun j hj => Nat.lt_of_lt_of_le (hok j hj) hW.size))
      clear ih hty v0 v1 v2 r0 r1 r2 h5 h6
      go_enter Try.func77, Try.ntmps77
      simp only [atomOf, bs]
      go_wp2_with (go_at_call 58; go_must (refine (isAtom_no _ _ _ _ (by simp) _ _ _ _).mono ?_; rintro e w1 ⟨rfl, hb1⟩; have c1 := below_blk hb1 (by simp) (heap_alloc_new _ _); have hw1 := (below1 w _).trans (hb1.mono (by simp))))
      have HW1 := Lib.hid hw1
      have y1 := cell_of (j := 1) c1
      have hlt1 := lt_of_block c1
      clear hb1 hw1
      have K : Hid (∀ W, Below w1.heap.size w1 W → (fun W => Below w1.heap.size w1 W ∧ W.cell? ⟨w.heap.size, 1, none⟩ = some (.slice (some ⟨r, off, none⟩) 3 c) ∧ W.cell? ⟨r, off, none⟩ = some (.string (bs (atomOf x))) ∧ (W.cell? ⟨r, off + 5, none⟩ = some (.string (bs (atomOf a))) ∧ W.cell? ⟨r, off + 5 + 1, none⟩ = some (.slice p1 n1 q1) ∧ W.cell? ⟨r, off + 5 + 2, none⟩ = some (.int .i64 a.bytes) ∧ W.cell? ⟨r, off + 5 + 3, none⟩ = some (.int .i64 a.size) ∧ W.cell? ⟨r, off + 5 + 4, none⟩ = some (.int .i64 a.depth)) ∧ (W.cell? ⟨r, off + 10, none⟩ = some (.string (bs (atomOf b))) ∧ W.cell? ⟨r, off + 10 + 1, none⟩ = some (.slice p2 n2 q2) ∧ W.cell? ⟨r, off + 10 + 2, none⟩ = some (.int .i64 b.bytes) ∧ W.cell? ⟨r, off + 10 + 3, none⟩ = some (.int .i64 b.size) ∧ W.cell? ⟨r, off + 10 + 4, none⟩ = some (.int .i64 b.depth))) W) :=
        Lib.hid (fun W hW => ⟨hW, (hW.cell (p := ⟨w.heap.size, 1, none⟩) hlt1).trans y1, CX.out _ (HW1.out.trans (hW.mono HW1.out.size)), CA.out _ (HW1.out.trans (hW.mono HW1.out.size)), CB.out _ (HW1.out.trans (hW.mono HW1.out.size))⟩)
      have S0 := Lib.hid (K.out _ ((Below.refl _ _).drew))
      go_region_held3 (fun W => Below w1.heap.size w1 W ∧ W.cell? ⟨w.heap.size, 1, none⟩ = some (.slice (some ⟨r, off, none⟩) 3 c) ∧ W.cell? ⟨r, off, none⟩ = some (.string (bs (atomOf x))) ∧ (W.cell? ⟨r, off + 5, none⟩ = some (.string (bs (atomOf a))) ∧ W.cell? ⟨r, off + 5 + 1, none⟩ = some (.slice p1 n1 q1) ∧ W.cell? ⟨r, off + 5 + 2, none⟩ = some (.int .i64 a.bytes) ∧ W.cell? ⟨r, off + 5 + 3, none⟩ = some (.int .i64 a.size) ∧ W.cell? ⟨r, off + 5 + 4, none⟩ = some (.int .i64 a.depth)) ∧ (W.cell? ⟨r, off + 10, none⟩ = some (.string (bs (atomOf b))) ∧ W.cell? ⟨r, off + 10 + 1, none⟩ = some (.slice p2 n2 q2) ∧ W.cell? ⟨r, off + 10 + 2, none⟩ = some (.int .i64 b.bytes) ∧ W.cell? ⟨r, off + 10 + 3, none⟩ = some (.int .i64 b.size) ∧ W.cell? ⟨r, off + 10 + 4, none⟩ = some (.int .i64 b.depth)))
        (first | exact S0.out | assumption)
        (first | (go_at_call 77; have hh := And.left (by assumption : Below w1.heap.size w1 _ ∧ _); first | ((with_reducible refine (C1.out _ (HW1.out.trans (hh.mono HW1.out.size))).mono ?_); rintro e w' ⟨rfl, hb2⟩; have hS2 := K.out _ (hh.trans (hb2.mono hh.size))) | ((with_reducible refine (C2.out _ (HW1.out.trans (hh.mono HW1.out.size))).mono ?_); rintro e w' ⟨rfl, hb2⟩; have hS2 := K.out _ (hh.trans (hb2.mono hh.size)))))
      cases hx1 : (atomOf x == [62]) with
      | true =>
        have hx2 : ((bs (atomOf x)).toList == [62]) = true := by rw [bs_toList]; exact hx1
        have hx3 := Lib.hid (show atomOf x = [62] from by simpa using hx1)
        clear hx1 hx
        go_wp2_with fail
        all_goals
          go_ret
          exact ⟨ret_int (by rw [HT.out, if_pos hx3.out]; omega), fin_below HW1.out (by assumption)⟩
      | false =>
        have hx2 : ((bs (atomOf x)).toList == [62]) = false := by rw [bs_toList]; exact hx1
        have hx3 := Lib.hid (show ¬ atomOf x = [62] from by simpa using hx1)
        clear hx1 hx
        go_wp2_with fail
        all_goals
          go_ret
          exact ⟨ret_int (by rw [HT.out, if_neg hx3.out]; omega), fin_below HW1.out (by assumption)⟩
end Go.Proofs.Ytpmlpmdgmapilaa
namespace Go.Proofs.Ytpmlpmdgmapilaa
open Go.RowKit
set_option linter.unusedSimpArgs false
set_option linter.unusedVariables false
theorem readForm_none {s : ByteArray} (hs : s.size ≤ 1048576) (hp : parse s.data.toList = none) (W : World) : Calls Try.prog 55 #[.string s] W fun e w' => e = .returned (.tuple #[.agg #[.string ⟨#[]⟩, .slice none 0 0, .int .i64 0, .int .i64 0, .int .i64 0], .bool false]) ∧ Below W.heap.size W w' :=
  (readForm_c s hs W).mono fun e w' ⟨h1, h2⟩ => ⟨by rw [hp] at h1; exact h1, h2⟩
theorem readForm_some {s : ByteArray} (hs : s.size ≤ 1048576) {t : Tr} (hp : parse s.data.toList = some t) (W : World) : Calls Try.prog 55 #[.string s] W fun e w' => (∃ p n c, e = .returned (.tuple #[.agg #[.string (bs (atomOf t)), .slice p n c, .int .i64 t.bytes, .int .i64 t.size, .int .i64 t.depth], .bool true]) ∧ FV nI w' (fun k => W.heap.size ≤ k ∧ k < w'.heap.size) t (nI t (.slice p n c))) ∧ Below W.heap.size W w' :=
  (readForm_c s hs W).mono fun e w' ⟨h1, h2⟩ => ⟨by rw [hp] at h1; exact h1, h2⟩
/-- What reading a type hands back. -/
def TyPost (B : Nat) (res : Option Tr) (e : Ending) (w' : World) : Prop :=
  match res with
  | none => e = .returned (.tuple #[.agg #[.string ⟨#[]⟩, .slice none 0 0, .int .i64 0, .int .i64 0, .int .i64 0], .bool false])
  | some t => ∃ p n c, e = .returned (.tuple #[.agg #[.string (bs (atomOf t)), .slice p n c, .int .i64 t.bytes, .int .i64 t.size, .int .i64 t.depth], .bool true]) ∧ FV nI w' (fun k => B ≤ k ∧ k < w'.heap.size) t (nI t (.slice p n c))
set_option maxHeartbeats 1000000 in
theorem isTypeInLimit_c (t : Tr) (p : Option Addr) (n c : Nat) (ok : Nat → Prop) (w : World) (hwf : t.wf) (hsz : t.size ≤ 1000000000) (hv : FV nI w ok t (nI t (.slice p n c))) (hok : ∀ k, ok k → k < w.heap.size) :
    Calls Try.prog 88 #[.agg #[.string (bs (atomOf t)), .slice p n c, .int .i64 t.bytes, .int .i64 t.size, .int .i64 t.depth]] w fun e w' => e = .returned (.bool (isTy t && decide (t.size ≤ 16))) ∧ Below w.heap.size w w' := by
  have T : Hid (Calls Try.prog 100 #[.agg #[.string (bs (atomOf t)), .slice p n c, .int .i64 t.bytes, .int .i64 t.size, .int .i64 t.depth]] (w.alloc (.cells #[.string (bs (atomOf t)), .slice p n c, .int .i64 t.bytes, .int .i64 t.size, .int .i64 t.depth] 48)) fun e w' => e = .returned (.bool (isTy t)) ∧ Below (w.heap.size + 1) (w.alloc (.cells #[.string (bs (atomOf t)), .slice p n c, .int .i64 t.bytes, .int .i64 t.size, .int .i64 t.depth] 48)) w') :=
    Lib.hid ((isType_all (t.depth + 1) t p n c ok _ (by omega) hwf (hv.below (below1 w _) hok) (fun k hk => by have := hok k hk; simp; omega)).mono fun e w' ⟨h1, h2⟩ => ⟨h1, by simpa using h2⟩)
  by_cases h16 : t.size ≤ 16
  · have hd : decide ((t.size : Int) ≤ 16) = true := by simp; omega
    have HF : Hid ((isTy t && decide (t.size ≤ 16)) = isTy t) := Lib.hid (by simp [h16])
    clear hv
    go_enter Try.func88, Try.ntmps88
    go_wp2_with (go_at_call 100; go_must (refine T.out.mono ?_; rintro e w2 ⟨rfl, hb2⟩))
    go_ret
    exact ⟨by rw [HF.out]; rfl, (below1 w _).trans (hb2.mono (by omega))⟩
  · have hd : decide ((t.size : Int) ≤ 16) = false := by simp; omega
    have HF : Hid ((isTy t && decide (t.size ≤ 16)) = false) := Lib.hid (by simp; omega)
    clear hv T
    go_enter Try.func88, Try.ntmps88
    go_wp2_with fail
    go_ret
    exact ⟨by rw [HF.out]; rfl, below1 w _⟩
set_option maxHeartbeats 1000000 in
theorem readType_c (s : ByteArray) (hs : s.size ≤ 1048576) (w : World) :
    Calls Try.prog 74 #[.string s] w fun e w' => TyPost w.heap.size (readTy s.data.toList) e w' ∧ Below w.heap.size w w' := by
  cases hp : parse s.data.toList with
  | none =>
    have C := Lib.hid (readForm_none hs hp)
    have HR := Lib.hid (readTy_none hp)
    clear hp
    go_enter Try.func74, Try.ntmps74
    go_wp2_with (go_at_call 55; go_must (refine (C.out _).mono ?_; rintro e w1 ⟨rfl, hb1⟩; have y0 := below_blk hb1 (by simp) (heap_alloc_new _ _); have z0 := cell_of (j := 0) y0; have z1 := cell_of (j := 1) y0; have z2 := cell_of (j := 2) y0; have z3 := cell_of (j := 3) y0; have z4 := cell_of (j := 4) y0; have f0 := free_of (j := 0) y0; have f1 := free_of (j := 1) y0; have f2 := free_of (j := 2) y0; have f3 := free_of (j := 3) y0; have f4 := free_of (j := 4) y0; have hs1 := hb1.size; have hs4 : w.heap.size < w1.heap.size := (by simp at hs1; omega)))
    refine bodyPost_ret (v := .tuple #[.agg #[.string ⟨#[]⟩, .slice none 0 0, .int .i64 0, .int .i64 0, .int .i64 0], .bool false]) (by simp [results, Try.results74, go_sem, z0, z1, z2, z3, z4, hs4]) rfl ⟨by rw [HR.out]; rfl, ?_⟩
    exact (((((((below1 w _).trans (hb1.mono (by simp))).setCell (by simp) _).setCell (by simp) _).setCell (by simp) _).setCell (by simp) _).setCell (by simp) _).alloc (by simp; omega) _
  | some t =>
    have C := Lib.hid (readForm_some hs hp)
    have hg := parse_got hp
    have HR := Lib.hid (readTy_some hp)
    have hsz := size_le _ hg.1
    have hsz2 : t.size ≤ 12000 := by omega
    clear hp
    have T : Hid (∀ (W : World) (p : Option Addr) (n c : Nat) (ok : Nat → Prop), FV nI W ok t (nI t (.slice p n c)) → (∀ k, ok k → k < W.heap.size) → Calls Try.prog 88 #[.agg #[.string (bs (atomOf t)), .slice p n c, .int .i64 t.bytes, .int .i64 t.size, .int .i64 t.depth]] W fun e w' => e = .returned (.bool (isTy t && decide (t.size ≤ 16))) ∧ Below W.heap.size W w') :=
      Lib.hid (fun W p n c ok h1 h2 => isTypeInLimit_c t p n c ok W hg.1 (by omega) h1 h2)
    cases hty : (isTy t && decide (t.size ≤ 16)) with
    | false =>
      rw [hty] at T HR
      go_enter Try.func74, Try.ntmps74
      go_wp2_with (first | (go_at_call 55; go_must (refine (C.out _).mono ?_; rintro e w1 ⟨⟨p, n, c, rfl, hv⟩, hb1⟩; have y0 := below_blk hb1 (by simp) (heap_alloc_new _ _); have z0 := cell_of (j := 0) y0; have z1 := cell_of (j := 1) y0; have z2 := cell_of (j := 2) y0; have z3 := cell_of (j := 3) y0; have z4 := cell_of (j := 4) y0; have f0 := free_of (j := 0) y0; have f1 := free_of (j := 1) y0; have f2 := free_of (j := 2) y0; have f3 := free_of (j := 3) y0; have f4 := free_of (j := 4) y0; have hs1 := hb1.size; have hs4 : w.heap.size < w1.heap.size := (by simp at hs1; omega))) | (go_at_call 88; go_must (refine (T.out _ p n c (fun k => w.heap.size + 1 ≤ k ∧ k < w1.heap.size) (FV.move (fun k hk => by simp at hk ⊢; omega) (fun k hk => heap_alloc_old _ _ hk.2) _ _ hv) (fun k hk => by simp; omega)).mono ?_; rintro e w2 ⟨rfl, hb2⟩; have x0 := below_blk hb2 (by simp; omega) (blk_alloc y0); have x1 := below_blk hb2 (by simp) (heap_alloc_new _ _); have r0 := cell_of (j := 0) x0; have r1 := cell_of (j := 1) x0; have r2 := cell_of (j := 2) x0; have r3 := cell_of (j := 3) x0; have r4 := cell_of (j := 4) x0; have g0 := free_of (j := 0) x0; have g1 := free_of (j := 1) x0; have g2 := free_of (j := 2) x0; have g3 := free_of (j := 3) x0; have g4 := free_of (j := 4) x0; have q0 := cell_of (j := 0) x1; have q1 := cell_of (j := 1) x1; have q2 := cell_of (j := 2) x1; have q3 := cell_of (j := 3) x1; have q4 := cell_of (j := 4) x1; have hs2 := hb2.size; have hs5 : w.heap.size < w2.heap.size := (by simp at hs2; omega))))
      refine bodyPost_ret (v := .tuple #[.agg #[.string ⟨#[]⟩, .slice none 0 0, .int .i64 0, .int .i64 0, .int .i64 0], .bool false]) (by simp [results, Try.results74, go_sem, r0, r1, r2, r3, r4, hs5]) rfl ⟨by rw [HR.out]; rfl, ?_⟩
      exact (((((((((below1 w _).trans (hb1.mono (by simp))).alloc (by omega) _).trans (hb2.mono (by simp; omega))).setCell (by simp) _).setCell (by simp) _).setCell (by simp) _).setCell (by simp) _).setCell (by simp) _)
    | true =>
      rw [hty] at T HR
      go_enter Try.func74, Try.ntmps74
      go_wp2_with (first | (go_at_call 55; go_must (refine (C.out _).mono ?_; rintro e w1 ⟨⟨p, n, c, rfl, hv⟩, hb1⟩; have y0 := below_blk hb1 (by simp) (heap_alloc_new _ _); have z0 := cell_of (j := 0) y0; have z1 := cell_of (j := 1) y0; have z2 := cell_of (j := 2) y0; have z3 := cell_of (j := 3) y0; have z4 := cell_of (j := 4) y0; have f0 := free_of (j := 0) y0; have f1 := free_of (j := 1) y0; have f2 := free_of (j := 2) y0; have f3 := free_of (j := 3) y0; have f4 := free_of (j := 4) y0; have hs1 := hb1.size; have hs4 : w.heap.size < w1.heap.size := (by simp at hs1; omega))) | (go_at_call 88; go_must (refine (T.out _ p n c (fun k => w.heap.size + 1 ≤ k ∧ k < w1.heap.size) (FV.move (fun k hk => by simp at hk ⊢; omega) (fun k hk => heap_alloc_old _ _ hk.2) _ _ hv) (fun k hk => by simp; omega)).mono ?_; rintro e w2 ⟨rfl, hb2⟩; have x0 := below_blk hb2 (by simp; omega) (blk_alloc y0); have x1 := below_blk hb2 (by simp) (heap_alloc_new _ _); have r0 := cell_of (j := 0) x0; have r1 := cell_of (j := 1) x0; have r2 := cell_of (j := 2) x0; have r3 := cell_of (j := 3) x0; have r4 := cell_of (j := 4) x0; have g0 := free_of (j := 0) x0; have g1 := free_of (j := 1) x0; have g2 := free_of (j := 2) x0; have g3 := free_of (j := 3) x0; have g4 := free_of (j := 4) x0; have q0 := cell_of (j := 0) x1; have q1 := cell_of (j := 1) x1; have q2 := cell_of (j := 2) x1; have q3 := cell_of (j := 3) x1; have q4 := cell_of (j := 4) x1; have hs2 := hb2.size; have hs5 : w.heap.size < w2.heap.size := (by simp at hs2; omega))))
      refine bodyPost_ret (v := .tuple #[.agg #[.string (bs (atomOf t)), .slice p n c, .int .i64 t.bytes, .int .i64 t.size, .int .i64 t.depth], .bool true]) (by simp [results, Try.results74, go_sem, r0, r1, r2, r3, r4, hs5]) rfl ⟨?_, ?_⟩
      · rw [HR.out, if_pos trivial]
        refine ⟨p, n, c, rfl, FV.move (fun k hk => ?_) (fun k hk => ?_) _ _ hv⟩
        · have := hb2.size; simp at hk this ⊢; omega
        · simp only [alloc_size] at hk
          rw [blk_set_other _ (by simp; omega), blk_set_other _ (by simp; omega), blk_set_other _ (by simp; omega), blk_set_other _ (by simp; omega), blk_set_other _ (by simp; omega), hb2.block k (by simp; omega), heap_alloc_old _ _ hk.2]
      · exact (((((((((below1 w _).trans (hb1.mono (by simp))).alloc (by omega) _).trans (hb2.mono (by simp; omega))).setCell (by simp) _).setCell (by simp) _).setCell (by simp) _).setCell (by simp) _).setCell (by simp) _)
end Go.Proofs.Ytpmlpmdgmapilaa
