/- The program reads a target type, and tells whether a text is one. -/
import Derived.Test.YtaoicbmepliklaaTg5
import Derived.Test.YtaoicbmepliklaaImpl1k
import Derived.BigRegion
import Derived.Deep.RegionHeld3
import Derived.Deep.DrawnRows
namespace Go.Proofs.Ytaoicbmepliklaa
open Go.RowKit
set_option maxRecDepth 8000
set_option linter.unusedSimpArgs false
set_option linter.unusedVariables false
/-- What reading a target type hands back. -/
def RtPost (B : Nat) (res : Option Tr) (e : Ending) (w' : World) : Prop :=
  match res with
  | none => ∃ a p n c x y z, e = .returned (.tuple #[.agg #[.string a, .slice p n c, .int .i64 x, .int .i64 y, .int .i64 z], .bool false])
  | some t => ∃ p n c, e = .returned (.tuple #[.agg #[.string (bs (atomOf t)), .slice p n c, .int .i64 t.bytes, .int .i64 t.size, .int .i64 t.depth], .bool (tgt noU false t)]) ∧ FV nI w' (fun k => B ≤ k ∧ k < w'.heap.size) t (nI t (.slice p n c))
set_option maxHeartbeats 4000000 in
theorem readTarget_none (s : ByteArray) (hs : s.size ≤ 1048576) (w : World) (hp : parse s.data.toList = none) :
    Calls Try.prog 29 #[.string s] w fun e w' => RtPost w.heap.size none e w' ∧ Below w.heap.size w w' := by
  have C := Lib.hid (readForm_none hs hp)
  clear hp
  go_enter Try.func29, Try.ntmps29
  go_wp2_with (go_at_call 38; go_must (refine (C.out _).mono ?_; rintro e w1 ⟨rfl, hb1⟩; have y0 := below_blk hb1 (by simp) (heap_alloc_new _ _); have z0 := cell_of (j := 0) y0; have z1 := cell_of (j := 1) y0; have z2 := cell_of (j := 2) y0; have z3 := cell_of (j := 3) y0; have z4 := cell_of (j := 4) y0; have f0 := free_of (j := 0) y0; have f1 := free_of (j := 1) y0; have f2 := free_of (j := 2) y0; have f3 := free_of (j := 3) y0; have f4 := free_of (j := 4) y0; have hs1 := hb1.size; have hs4 : w.heap.size < w1.heap.size := (by simp at hs1; omega)))
  have HW := Lib.hid hb1
  have HS1 := Lib.hid hs1
  first | (go_region_with fail) | fail
  all_goals
    go_wp2_with fail
    have O := set5_same y0 (.string ⟨#[]⟩) (.slice none 0 0) (.int .i64 0) (.int .i64 0) (.int .i64 0)
    have r0 := fun a => cell_of (j := 0) (blk_alloc (o' := a) O)
    have r1 := fun a => cell_of (j := 1) (blk_alloc (o' := a) O)
    have r2 := fun a => cell_of (j := 2) (blk_alloc (o' := a) O)
    have r3 := fun a => cell_of (j := 3) (blk_alloc (o' := a) O)
    have r4 := fun a => cell_of (j := 4) (blk_alloc (o' := a) O)
    refine bodyPost_ret (v := .tuple #[.agg #[.string ⟨#[]⟩, .slice none 0 0, .int .i64 0, .int .i64 0, .int .i64 0], .bool false]) (by simp [results, Try.results29, go_sem, r0, r1, r2, r3, r4, HS1.out]) rfl ⟨⟨_, _, _, _, _, _, _, rfl⟩, ?_⟩
    have hB := (below1 w _).trans (HW.out.mono (by simp))
    first
      | exact ((set5 hB (Nat.le_refl _) _ _ _ _ _).alloc (by simpa using hB.size) _).drew
      | exact ((set5 hB (Nat.le_refl _) _ _ _ _ _).alloc (by simpa using hB.size) _)
set_option maxHeartbeats 4000000 in
theorem readTarget_some (s : ByteArray) (hs : s.size ≤ 1048576) (w : World) (t : Tr) (hp : parse s.data.toList = some t) :
    Calls Try.prog 29 #[.string s] w fun e w' => RtPost w.heap.size (some t) e w' ∧ Below w.heap.size w w' := by
  have C := Lib.hid (readForm_some hs hp)
  have hg := parse_got hp
  clear hp
  have T : Hid (∀ (W : World) (p : Option Addr) (n c : Nat) (ok : Nat → Prop), FV nI W ok t (nI t (.slice p n c)) → (∀ k, ok k → k < W.heap.size) → Calls Try.prog 58 #[.agg #[.string (bs (atomOf t)), .slice p n c, .int .i64 t.bytes, .int .i64 t.size, .int .i64 t.depth]] W fun e w' => e = .returned (.bool (tgt noU false t)) ∧ Below W.heap.size W w') :=
    Lib.hid (fun W p n c ok h1 h2 => isTarget_c t p n c ok W hg.1 hg.2.1 h1 h2)
  go_enter Try.func29, Try.ntmps29
  go_wp2_with (go_at_call 38; go_must (refine (C.out _).mono ?_; rintro e w1 ⟨⟨p, n, c, rfl, hv⟩, hb1⟩; have y0 := below_blk hb1 (by simp) (heap_alloc_new _ _); have z0 := cell_of (j := 0) y0; have z1 := cell_of (j := 1) y0; have z2 := cell_of (j := 2) y0; have z3 := cell_of (j := 3) y0; have z4 := cell_of (j := 4) y0; have f0 := free_of (j := 0) y0; have f1 := free_of (j := 1) y0; have f2 := free_of (j := 2) y0; have f3 := free_of (j := 3) y0; have f4 := free_of (j := 4) y0; have hs1 := hb1.size; have hs4 : w.heap.size < w1.heap.size := (by simp at hs1; omega)))
  have C2 : Hid (∀ W, (∀ k, w.heap.size + 1 ≤ k → k < w1.heap.size → W.heap[k]? = w1.heap[k]?) → w1.heap.size ≤ W.heap.size → Calls Try.prog 58 #[.agg #[.string (bs (atomOf t)), .slice p n c, .int .i64 t.bytes, .int .i64 t.size, .int .i64 t.depth]] W fun e w' => e = .returned (.bool (tgt noU false t)) ∧ Below W.heap.size W w') :=
    Lib.hid (fun W hW hWs => T.out W p n c (fun k => w.heap.size + 1 ≤ k ∧ k < w1.heap.size) (FV.move (fun k hk => by simp at hk ⊢; omega) (fun k hk => by simp at hk; exact hW k (by omega) hk.2) _ _ hv) (fun k hk => by omega))
  have HV := Lib.hid hv
  have HB := Lib.hid hb1
  have HS1 := Lib.hid hs1
  clear hv T hg
  first | (go_region_with (first | (go_at_call 58; go_loud ((with_reducible refine (C2.out _ ?_ ?_).mono ?_); (· intro k h1 h2; exact heap_alloc_old _ _ h2); (· simp); rintro e w2 ⟨rfl, hb2⟩; have x0 := below_blk hb2 (by simp; omega) (blk_alloc y0); have x1 := below_blk hb2 (by simp) (heap_alloc_new _ _); have r0 := cell_of (j := 0) x0; have r1 := cell_of (j := 1) x0; have r2 := cell_of (j := 2) x0; have r3 := cell_of (j := 3) x0; have r4 := cell_of (j := 4) x0; have g0 := free_of (j := 0) x0; have g1 := free_of (j := 1) x0; have g2 := free_of (j := 2) x0; have g3 := free_of (j := 3) x0; have g4 := free_of (j := 4) x0; have q0 := cell_of (j := 0) x1; have q1 := cell_of (j := 1) x1; have q2 := cell_of (j := 2) x1; have q3 := cell_of (j := 3) x1; have q4 := cell_of (j := 4) x1; have hs2 := hb2.size; have hs5 : w.heap.size < w2.heap.size := (by simp at hs2; omega))) | fail)) | fail
  all_goals
    go_wp2_with fail
    have O := set5_same x0 (.string (bs (atomOf t))) (.slice p n c) (.int .i64 t.bytes) (.int .i64 t.size) (.int .i64 t.depth)
    have u0 := cell_of (j := 0) O
    have u1 := cell_of (j := 1) O
    have u2 := cell_of (j := 2) O
    have u3 := cell_of (j := 3) O
    have u4 := cell_of (j := 4) O
    refine bodyPost_ret (v := .tuple #[.agg #[.string (bs (atomOf t)), .slice p n c, .int .i64 t.bytes, .int .i64 t.size, .int .i64 t.depth], .bool (tgt noU false t)]) (by simp [results, Try.results29, go_sem, u0, u1, u2, u3, u4, hs5]) rfl ⟨?_, ?_⟩
    · refine ⟨p, n, c, rfl, FV.move (fun k hk => ?_) (fun k hk => ?_) _ _ HV.out⟩
      · have := hb2.size; simp at hk this ⊢; omega
      · simp only [alloc_size] at hk
        rw [set5_other (by omega), hb2.block k (by simp; omega)]
        exact heap_alloc_old _ _ hk.2
    · have hB := (below1 w _).trans (HB.out.mono (by simp))
      have hA := hB.alloc hB.size (.cells #[.string (bs (atomOf t)), .slice p n c, .int .i64 t.bytes, .int .i64 t.size, .int .i64 t.depth] 41)
      exact set5 (hA.drew.trans (hb2.mono hA.size)) (Nat.le_refl _) _ _ _ _ _
theorem readTarget_c (s : ByteArray) (hs : s.size ≤ 1048576) (w : World) :
    Calls Try.prog 29 #[.string s] w fun e w' => RtPost w.heap.size (parse s.data.toList) e w' ∧ Below w.heap.size w w' := by
  cases hp : parse s.data.toList with
  | none => exact readTarget_none s hs w hp
  | some t => exact readTarget_some s hs w t hp
/-- Whether a text is a target type. -/
def tgtT (l : List UInt8) : Bool := match parse l with | some t => tgt noU false t | none => false
theorem rtPost_shape {B : Nat} {l : List UInt8} {e : Ending} {w' : World} (h : RtPost B (parse l) e w') : ∃ a p n c x y z, e = .returned (.tuple #[.agg #[.string a, .slice p n c, .int .i64 x, .int .i64 y, .int .i64 z], .bool (tgtT l)]) := by
  unfold tgtT
  cases hp : parse l with
  | none => rw [hp] at h; exact h
  | some t => rw [hp] at h; obtain ⟨p, n, c, h1, -⟩ := h; exact ⟨_, _, _, _, _, _, _, h1⟩
set_option maxHeartbeats 400000 in
theorem implTargetValid_c (s : ByteArray) (hs : s.size ≤ 1048576) (w : World) :
    Calls Try.prog 12 #[.string s] w fun e w' => e = .returned (.bool (tgtT s.data.toList)) ∧ Below w.heap.size w w' := by
  go_enter Try.func12, Try.ntmps12
  go_wp2_with (go_at_call 29; go_must (refine (readTarget_c s hs _).mono ?_; rintro e w1 ⟨hp, hb1⟩; obtain ⟨a, p, n, c, x, y, z, rfl⟩ := rtPost_shape hp; clear hp))
  go_ret
  exact ⟨rfl, hb1.alloc hb1.size _⟩
set_option maxHeartbeats 400000 in
theorem walk_FnExactTargetValid (a0 : ByteArray) (w0 : a0.size ≤ maxLen) (w : World) :
    Calls Try.prog 3 #[.string a0] w fun e w' => e = .returned (.bool true) ∧ Below w.heap.size w w' := by
  by_cases hs : a0.size ≤ 1048576
  · have hd : decide (1048576 < (a0.size : Int)) = false := by simp; omega
    have C1 : Hid (∀ W, Calls Try.prog 11 #[.string a0] W fun e w' => e = .returned (.bool (tgtT a0.data.toList)) ∧ Below W.heap.size W w') := Lib.hid (specTargetValid_c a0 hs)
    have C2 := Lib.hid (implTargetValid_c a0 hs)
    generalize tgtT a0.data.toList = R at *
    go_enter Try.func3, Try.ntmps3
    go_wp2_with (first | (go_at_call 11; go_must (refine (C1.out _).mono ?_; rintro e w1 ⟨rfl, hb1⟩)) | (go_at_call 12; go_must (refine (C2.out _).mono ?_; rintro e w2 ⟨rfl, hb2⟩)))
    go_ret
    exact ⟨rfl, hb1.trans (hb2.mono hb1.size)⟩
  · have hd : decide (1048576 < (a0.size : Int)) = true := by simp; omega
    have hm := maxLen_le w0
    go_enter Try.func3, Try.ntmps3
    go_wp2_with fail
    go_ret
    exact ⟨rfl, Below.refl _ _⟩
end Go.Proofs.Ytaoicbmepliklaa
