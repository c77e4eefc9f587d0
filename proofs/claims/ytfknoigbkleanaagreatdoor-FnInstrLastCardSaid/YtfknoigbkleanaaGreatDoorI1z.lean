/- The program's orders. The program reads types; its answers that are numbers and bools. -/
import Derived.Test.YtfknoigbkleanaaGreatDoorI1y
import Derived.Deep.RegionHeld3
namespace Go.Proofs.YtfknoigbkleanaaGreatDoor
open Go.RowKit
set_option maxRecDepth 8000
set_option linter.unusedSimpArgs false
set_option linter.unusedVariables false
theorem fin_below {w w1 W : World} {p : Prop} (h : Below w.heap.size w w1) (k : Below w1.heap.size w1 W ∧ p) : Below w.heap.size w W := h.trans (k.1.mono h.size)
end Go.Proofs.YtfknoigbkleanaaGreatDoor
namespace Go.Proofs.YtfknoigbkleanaaGreatDoor
open Go.RowKit
set_option linter.unusedSimpArgs false
set_option linter.unusedVariables false
theorem readForm_none {s : ByteArray} (hs : s.size ≤ 1048576) (hp : parse s.data.toList = none) (W : World) : Calls Tryz.prog 61 #[.string s] W fun e w' => e = .returned (.tuple #[.agg #[.string ⟨#[]⟩, .slice none 0 0, .int .i64 0, .int .i64 0, .int .i64 0], .bool false]) ∧ Below W.heap.size W w' :=
  (readForm_c s hs W).mono fun e w' ⟨h1, h2⟩ => ⟨by rw [hp] at h1; exact h1, h2⟩
theorem readForm_some {s : ByteArray} (hs : s.size ≤ 1048576) {t : Tr} (hp : parse s.data.toList = some t) (W : World) : Calls Tryz.prog 61 #[.string s] W fun e w' => (∃ p n c, e = .returned (.tuple #[.agg #[.string (bs (atomOf t)), .slice p n c, .int .i64 t.bytes, .int .i64 t.size, .int .i64 t.depth], .bool true]) ∧ FV nI w' (fun k => W.heap.size ≤ k ∧ k < w'.heap.size) t (nI t (.slice p n c))) ∧ Below W.heap.size W w' :=
  (readForm_c s hs W).mono fun e w' ⟨h1, h2⟩ => ⟨by rw [hp] at h1; exact h1, h2⟩
/-- What reading a type hands back. -/
def TyPost (B : Nat) (res : Option Tr) (e : Ending) (w' : World) : Prop :=
  match res with
  | none => e = .returned (.tuple #[.agg #[.string ⟨#[]⟩, .slice none 0 0, .int .i64 0, .int .i64 0, .int .i64 0], .bool false])
  | some t => ∃ p n c, e = .returned (.tuple #[.agg #[.string (bs (atomOf t)), .slice p n c, .int .i64 t.bytes, .int .i64 t.size, .int .i64 t.depth], .bool true]) ∧ FV nI w' (fun k => B ≤ k ∧ k < w'.heap.size) t (nI t (.slice p n c))
set_option maxHeartbeats 1000000 in
theorem isTypeInLimit_c (t : Tr) (p : Option Addr) (n c : Nat) (ok : Nat → Prop) (w : World) (hwf : t.wf) (hsz : t.size ≤ 1000000000) (hv : FV nI w ok t (nI t (.slice p n c))) (hok : ∀ k, ok k → k < w.heap.size) :
    Calls Tryz.prog 107 #[.agg #[.string (bs (atomOf t)), .slice p n c, .int .i64 t.bytes, .int .i64 t.size, .int .i64 t.depth]] w fun e w' => e = .returned (.bool (isTy t && decide (t.size ≤ 16))) ∧ Below w.heap.size w w' := by
  have T : Hid (Calls Tryz.prog 155 #[.agg #[.string (bs (atomOf t)), .slice p n c, .int .i64 t.bytes, .int .i64 t.size, .int .i64 t.depth]] (w.alloc (.cells #[.string (bs (atomOf t)), .slice p n c, .int .i64 t.bytes, .int .i64 t.size, .int .i64 t.depth] 56)) fun e w' => e = .returned (.bool (isTy t)) ∧ Below (w.heap.size + 1) (w.alloc (.cells #[.string (bs (atomOf t)), .slice p n c, .int .i64 t.bytes, .int .i64 t.size, .int .i64 t.depth] 56)) w') :=
    Lib.hid ((isType_all (t.depth + 1) t p n c ok _ (by omega) hwf (hv.below (below1 w _) hok) (fun k hk => by have := hok k hk; simp; omega)).mono fun e w' ⟨h1, h2⟩ => ⟨h1, by simpa using h2⟩)
  by_cases h16 : t.size ≤ 16
  · have hd : decide ((t.size : Int) ≤ 16) = true := by simp; omega
    have HF : Hid ((isTy t && decide (t.size ≤ 16)) = isTy t) := Lib.hid (by simp [h16])
    clear hv
    go_enter Tryz.func107, Tryz.ntmps107
    go_wp2_with (go_at_call 155; go_must (refine T.out.mono ?_; rintro e w2 ⟨rfl, hb2⟩))
    go_ret
    exact ⟨by rw [HF.out]; rfl, (below1 w _).trans (hb2.mono (by omega))⟩
  · have hd : decide ((t.size : Int) ≤ 16) = false := by simp; omega
    have HF : Hid ((isTy t && decide (t.size ≤ 16)) = false) := Lib.hid (by simp; omega)
    clear hv T
    go_enter Tryz.func107, Tryz.ntmps107
    go_wp2_with fail
    go_ret
    exact ⟨by rw [HF.out]; rfl, below1 w _⟩
set_option maxHeartbeats 1000000 in
theorem readType_c (s : ByteArray) (hs : s.size ≤ 1048576) (w : World) :
    Calls Tryz.prog 56 #[.string s] w fun e w' => TyPost w.heap.size (readTy s.data.toList) e w' ∧ Below w.heap.size w w' := by
  cases hp : parse s.data.toList with
  | none =>
    have C := Lib.hid (readForm_none hs hp)
    have HR := Lib.hid (readTy_none hp)
    clear hp
    go_enter Tryz.func56, Tryz.ntmps56
    go_wp2_with (go_at_call 61; go_must (refine (C.out _).mono ?_; rintro e w1 ⟨rfl, hb1⟩; have y0 := below_blk hb1 (by simp) (heap_alloc_new _ _); have z0 := cell_of (j := 0) y0; have z1 := cell_of (j := 1) y0; have z2 := cell_of (j := 2) y0; have z3 := cell_of (j := 3) y0; have z4 := cell_of (j := 4) y0; have f0 := free_of (j := 0) y0; have f1 := free_of (j := 1) y0; have f2 := free_of (j := 2) y0; have f3 := free_of (j := 3) y0; have f4 := free_of (j := 4) y0; have hs1 := hb1.size; have hs4 : w.heap.size < w1.heap.size := (by simp at hs1; omega)))
    refine bodyPost_ret (v := .tuple #[.agg #[.string ⟨#[]⟩, .slice none 0 0, .int .i64 0, .int .i64 0, .int .i64 0], .bool false]) (by simp [results, Tryz.results56, go_sem, z0, z1, z2, z3, z4, hs4]) rfl ⟨by rw [HR.out]; rfl, ?_⟩
    exact (((((((below1 w _).trans (hb1.mono (by simp))).setCell (by simp) _).setCell (by simp) _).setCell (by simp) _).setCell (by simp) _).setCell (by simp) _).alloc (by simp; omega) _
  | some t =>
    have C := Lib.hid (readForm_some hs hp)
    have hg := parse_got hp
    have HR := Lib.hid (readTy_some hp)
    have hsz := size_le _ hg.1
    have hsz2 : t.size ≤ 12000 := by omega
    clear hp
    have T : Hid (∀ (W : World) (p : Option Addr) (n c : Nat) (ok : Nat → Prop), FV nI W ok t (nI t (.slice p n c)) → (∀ k, ok k → k < W.heap.size) → Calls Tryz.prog 107 #[.agg #[.string (bs (atomOf t)), .slice p n c, .int .i64 t.bytes, .int .i64 t.size, .int .i64 t.depth]] W fun e w' => e = .returned (.bool (isTy t && decide (t.size ≤ 16))) ∧ Below W.heap.size W w') :=
      Lib.hid (fun W p n c ok h1 h2 => isTypeInLimit_c t p n c ok W hg.1 (by omega) h1 h2)
    cases hty : (isTy t && decide (t.size ≤ 16)) with
    | false =>
      rw [hty] at T HR
      go_enter Tryz.func56, Tryz.ntmps56
      go_wp2_with (first | (go_at_call 61; go_must (refine (C.out _).mono ?_; rintro e w1 ⟨⟨p, n, c, rfl, hv⟩, hb1⟩; have y0 := below_blk hb1 (by simp) (heap_alloc_new _ _); have z0 := cell_of (j := 0) y0; have z1 := cell_of (j := 1) y0; have z2 := cell_of (j := 2) y0; have z3 := cell_of (j := 3) y0; have z4 := cell_of (j := 4) y0; have f0 := free_of (j := 0) y0; have f1 := free_of (j := 1) y0; have f2 := free_of (j := 2) y0; have f3 := free_of (j := 3) y0; have f4 := free_of (j := 4) y0; have hs1 := hb1.size; have hs4 : w.heap.size < w1.heap.size := (by simp at hs1; omega))) | (go_at_call 107; go_must (refine (T.out _ p n c (fun k => w.heap.size + 1 ≤ k ∧ k < w1.heap.size) (FV.move (fun k hk => by simp at hk ⊢; omega) (fun k hk => heap_alloc_old _ _ hk.2) _ _ hv) (fun k hk => by simp; omega)).mono ?_; rintro e w2 ⟨rfl, hb2⟩; have x0 := below_blk hb2 (by simp; omega) (blk_alloc y0); have x1 := below_blk hb2 (by simp) (heap_alloc_new _ _); have r0 := cell_of (j := 0) x0; have r1 := cell_of (j := 1) x0; have r2 := cell_of (j := 2) x0; have r3 := cell_of (j := 3) x0; have r4 := cell_of (j := 4) x0; have g0 := free_of (j := 0) x0; have g1 := free_of (j := 1) x0; have g2 := free_of (j := 2) x0; have g3 := free_of (j := 3) x0; have g4 := free_of (j := 4) x0; have q0 := cell_of (j := 0) x1; have q1 := cell_of (j := 1) x1; have q2 := cell_of (j := 2) x1; have q3 := cell_of (j := 3) x1; have q4 := cell_of (j := 4) x1; have hs2 := hb2.size; have hs5 : w.heap.size < w2.heap.size := (by simp at hs2; omega))))
      refine bodyPost_ret (v := .tuple #[.agg #[.string ⟨#[]⟩, .slice none 0 0, .int .i64 0, .int .i64 0, .int .i64 0], .bool false]) (by simp [results, Tryz.results56, go_sem, r0, r1, r2, r3, r4, hs5]) rfl ⟨by rw [HR.out]; rfl, ?_⟩
      exact (((((((((below1 w _).trans (hb1.mono (by simp))).alloc (by omega) _).trans (hb2.mono (by simp; omega))).setCell (by simp) _).setCell (by simp) _).setCell (by simp) _).setCell (by simp) _).setCell (by simp) _)
    | true =>
      rw [hty] at T HR
      go_enter Tryz.func56, Tryz.ntmps56
      go_wp2_with (first | (go_at_call 61; go_must (refine (C.out _).mono ?_; rintro e w1 ⟨⟨p, n, c, rfl, hv⟩, hb1⟩; have y0 := below_blk hb1 (by simp) (heap_alloc_new _ _); have z0 := cell_of (j := 0) y0; have z1 := cell_of (j := 1) y0; have z2 := cell_of (j := 2) y0; have z3 := cell_of (j := 3) y0; have z4 := cell_of (j := 4) y0; have f0 := free_of (j := 0) y0; have f1 := free_of (j := 1) y0; have f2 := free_of (j := 2) y0; have f3 := free_of (j := 3) y0; have f4 := free_of (j := 4) y0; have hs1 := hb1.size; have hs4 : w.heap.size < w1.heap.size := (by simp at hs1; omega))) | (go_at_call 107; go_must (refine (T.out _ p n c (fun k => w.heap.size + 1 ≤ k ∧ k < w1.heap.size) (FV.move (fun k hk => by simp at hk ⊢; omega) (fun k hk => heap_alloc_old _ _ hk.2) _ _ hv) (fun k hk => by simp; omega)).mono ?_; rintro e w2 ⟨rfl, hb2⟩; have x0 := below_blk hb2 (by simp; omega) (blk_alloc y0); have x1 := below_blk hb2 (by simp) (heap_alloc_new _ _); have r0 := cell_of (j := 0) x0; have r1 := cell_of (j := 1) x0; have r2 := cell_of (j := 2) x0; have r3 := cell_of (j := 3) x0; have r4 := cell_of (j := 4) x0; have g0 := free_of (j := 0) x0; have g1 := free_of (j := 1) x0; have g2 := free_of (j := 2) x0; have g3 := free_of (j := 3) x0; have g4 := free_of (j := 4) x0; have q0 := cell_of (j := 0) x1; have q1 := cell_of (j := 1) x1; have q2 := cell_of (j := 2) x1; have q3 := cell_of (j := 3) x1; have q4 := cell_of (j := 4) x1; have hs2 := hb2.size; have hs5 : w.heap.size < w2.heap.size := (by simp at hs2; omega))))
      refine bodyPost_ret (v := .tuple #[.agg #[.string (bs (atomOf t)), .slice p n c, .int .i64 t.bytes, .int .i64 t.size, .int .i64 t.depth], .bool true]) (by simp [results, Tryz.results56, go_sem, r0, r1, r2, r3, r4, hs5]) rfl ⟨?_, ?_⟩
      · rw [HR.out, if_pos trivial]
        refine ⟨p, n, c, rfl, FV.move (fun k hk => ?_) (fun k hk => ?_) _ _ hv⟩
        · have := hb2.size; simp at hk this ⊢; omega
        · simp only [alloc_size] at hk
          rw [blk_set_other _ (by simp; omega), blk_set_other _ (by simp; omega), blk_set_other _ (by simp; omega), blk_set_other _ (by simp; omega), blk_set_other _ (by simp; omega), hb2.block k (by simp; omega), heap_alloc_old _ _ hk.2]
      · exact (((((((((below1 w _).trans (hb1.mono (by simp))).alloc (by omega) _).trans (hb2.mono (by simp; omega))).setCell (by simp) _).setCell (by simp) _).setCell (by simp) _).setCell (by simp) _).setCell (by simp) _)
end Go.Proofs.YtfknoigbkleanaaGreatDoor
