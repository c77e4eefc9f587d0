/- Instructions: the program takes operands. -/
import Derived.Test.YtfknoigbkleanaaGreatDoorIn7
import Derived.Test.YtfknoigbkleanaaGreatDoorIn3
namespace Go.Proofs.YtfknoigbkleanaaGreatDoor
open Go.RowKit
set_option maxRecDepth 8000
set_option linter.unusedSimpArgs false
set_option linter.unusedVariables false
theorem Tryz.infoInt : (Tryz.prog.info? 3).map (fun i => (i.zero, i.size, i.bytes)) = some (some (.int .i64 0), 1, 8) := by kernel_rfl
theorem owns_ne {w : World} {b base : Nat} {T T' : TypeId} {size : Nat} {v : Value} {m : Nat} {xs : List Value} {cs : Array Value} (ho : w.ownsRow base T size v m xs) (hb : w.heap[b]? = some (.cells cs T' (0, 0))) (hT : T ≠ T') : v.ownBlock ≠ some b := by
  rcases ho.2 with ⟨e, _⟩ | ⟨g, cap, cur, e, h0, h3, h1, h2, h4, h5⟩
  · subst e; simp [Value.ownBlock]
  · subst e
    simp only [Value.ownBlock, ne_eq, Option.some.injEq]
    intro q
    subst q
    rw [h3] at hb
    simp only [Option.some.injEq, Obj.cells.injEq] at hb
    exact hT hb.2.1
theorem InB.set' {w : World} {b base : Nat} {H : ByteArray} {M : Nat} (h : InB w b base H M) {j : Nat} (h0 : j ≠ 0) (h2 : j ≠ 2) (u : Value) (hu : okC j u) : InB (w.setCell ⟨b, j, none⟩ u) b base H (M + 1) := (h.set h0 h2 u hu).mono (Nat.le_succ _)
theorem InB.got {w : World} {b base : Nat} {H : ByteArray} {M : Nat} (h : InB w b base H M) {j : Nat} (hj : j < 15) (u : Value) : (w.setCell ⟨b, j, none⟩ u).cell? ⟨b, j, none⟩ = some u := by
  obtain ⟨cs, v, m, xs, k1, k2, k3, k4, k5, k6, k7⟩ := h
  rw [cell_of (blk_set (j := j) k1 u)]
  simp [Array.getElem?_setIfInBounds, k2, hj]
set_option maxHeartbeats 1000000 in
theorem take_d (t : Tr) (p : Option Addr) (m c : Nat) (ok : Nat → Prop) (b base : Nat) (H : ByteArray) (M : Nat) (w : World) (hwf : t.wf) (hbt : t.bytes ≤ 12000) (hv : FV nI w ok t (nI t (.slice p m c))) (hok : ∀ k, ok k → k < w.heap.size) (hI : InB w b base H M) (hbb : base ≤ b) (hbw : base ≤ w.heap.size) (hM : M ≤ 12000) :
    Calls Tryz.prog 118 #[.pointer (some ⟨b, 0, none⟩), .int .u8 100, .agg #[.string (bs (atomOf t)), .slice p m c, .int .i64 t.bytes, .int .i64 t.size, .int .i64 t.depth]] w fun e w' => e = .returned (.bool (opB 100 t)) ∧ InB w' b base H (M + 1) ∧ Below base w w' := by
  have hal := atomI_len hbt
  have CR := Lib.hid (fun W => readRegister_c (atomOf t) hal W)
  have HR : Hid (opB 100 t = (regZ (atomOf t)).isSome) := Lib.hid (by simp [opB, regB])
  rw [HR.out]
  generalize (regZ (atomOf t)).isSome = R at *
  have HI := Lib.hid hI
  clear hv hok hwf hbt hal hI HR
  generalize bs (atomOf t) = A at *
  generalize t.bytes = t1 at *
  generalize t.size = t2 at *
  generalize t.depth = t3 at *
  go_enter Tryz.func118, Tryz.ntmps118
  go_wp2_with (go_at_call 165; go_must (refine (CR.out _).mono ?_; rintro e w1 ⟨⟨r, rfl⟩, hb1⟩; have HB1 := Lib.hid ((below1 w (.cells #[.string A, .slice p m c, .int .i64 t1, .int .i64 t2, .int .i64 t3] 56)).trans (hb1.mono (by simp))); have HI1 := Lib.hid (HI.out.below HB1.out); obtain ⟨⟨u1, c1⟩, f1⟩ := HI1.out.cell (j := 1) (by decide)))
  go_ret
  exact ⟨rfl, HI1.out.set' (by decide) (by decide) _ (by simp [okC]), (HB1.out.mono hbw).setCell hbb _⟩
set_option maxHeartbeats 2000000 in
theorem take_s (t : Tr) (p : Option Addr) (m c : Nat) (ok : Nat → Prop) (b base : Nat) (H : ByteArray) (M : Nat) (w : World) (hwf : t.wf) (hbt : t.bytes ≤ 12000) (hv : FV nI w ok t (nI t (.slice p m c))) (hok : ∀ k, ok k → k < w.heap.size) (hI : InB w b base H M) (hbb : base ≤ b) (hbw : base ≤ w.heap.size) (hM : M ≤ 12000) :
    Calls Tryz.prog 118 #[.pointer (some ⟨b, 0, none⟩), .int .u8 115, .agg #[.string (bs (atomOf t)), .slice p m c, .int .i64 t.bytes, .int .i64 t.size, .int .i64 t.depth]] w fun e w' => e = .returned (.bool (opB 115 t)) ∧ InB w' b base H (M + 1) ∧ Below base w w' := by
  have hal := atomI_len hbt
  have CR := Lib.hid (fun W => readRegister_c (atomOf t) hal W)
  have HR : Hid (opB 115 t = (regZ (atomOf t)).isSome) := Lib.hid (by simp [opB, regB])
  rw [HR.out]
  generalize (regZ (atomOf t)).isSome = R at *
  have HI := Lib.hid hI
  obtain ⟨i0, hi0, hz0, hz1, hz2⟩ := info_parts Tryz.infoInt
  clear hv hok hwf hbt hal hI HR
  generalize bs (atomOf t) = A at *
  generalize t.bytes = t1 at *
  generalize t.size = t2 at *
  generalize t.depth = t3 at *
  go_enter Tryz.func118, Tryz.ntmps118
  go_wp2_with (first | (go_at_call 165; go_must (refine (CR.out _).mono ?_; rintro e w1 ⟨⟨r, rfl⟩, hb1⟩; have HB1 := Lib.hid ((below1 w (.cells #[.string A, .slice p m c, .int .i64 t1, .int .i64 t2, .int .i64 t3] 56)).trans (hb1.mono (by simp))); obtain ⟨cs, v, n, xs, k1, k2, k3, k4, k5, k6, k7⟩ := HI.out.below HB1.out; obtain ⟨pv, cv, rfl⟩ := owns_slice k5; have hs1 := HB1.out.size; have c2 : w1.cell? ⟨b, 2, none⟩ = some (.slice pv n cv) := by (rw [cell_of k1]; exact k4))) | (at_builtin; go_must (refine wpList_append_one _ rfl _ _ 76 rfl base 3 i0 (.int .i64 0) 1 8 Tryz.underlying76 hi0 hz0 hz1 hz2 rfl (by decide) _ _ _ rfl (k5.alloc _) ⟨w1.heap.size, 0, none⟩ [.int .i64 r] rfl rfl (news_at (heap_alloc_new _ _)) (by intro u hu; simp at hu; subst hu; rfl) (by unfold maxLen; omega) (by omega) (by simp; omega) ?_; intro g' c' w2 ho2 hg2 hgg2; have hne : (Value.slice pv n cv).ownBlock ≠ some b := owns_ne k5 k1 (by decide); have hblk := blk_grown hg2 (blk_alloc (o' := (.cells #[.int .i64 r] 3)) k1) hne; obtain ⟨⟨u3, c3⟩, f3⟩ : (∃ u, w2.cell? ⟨b, 2, none⟩ = some u) ∧ w2.frozen? ⟨b, 2, none⟩ = false := ⟨⟨_, by (rw [cell_of hblk]; exact k4)⟩, free_of hblk⟩)))
  go_ret
  refine ⟨rfl, ⟨cs.setIfInBounds 2 _, _, n + 1, _, blk_set hblk _, by simpa using k2, ?_, ?_, owns_setO ho2 hblk (by decide) 2 _, by omega, okC_set k7 (by simp [okC])⟩, ?_⟩
  · rw [Array.getElem?_setIfInBounds_ne (by decide)]; exact k3
  · simp [Array.getElem?_setIfInBounds, k2]
  · exact ((((HB1.out.mono hbw).alloc (by omega) _).grown hg2 (by simp; omega) (fun q hq => (k5.lt q hq).1)).setCell hbb _)
set_option maxHeartbeats 1000000 in
theorem take_n (t : Tr) (p : Option Addr) (m c : Nat) (ok : Nat → Prop) (b base : Nat) (H : ByteArray) (M : Nat) (w : World) (hwf : t.wf) (hbt : t.bytes ≤ 12000) (hv : FV nI w ok t (nI t (.slice p m c))) (hok : ∀ k, ok k → k < w.heap.size) (hI : InB w b base H M) (hbb : base ≤ b) (hbw : base ≤ w.heap.size) (hM : M ≤ 12000) :
    Calls Tryz.prog 118 #[.pointer (some ⟨b, 0, none⟩), .int .u8 110, .agg #[.string (bs (atomOf t)), .slice p m c, .int .i64 t.bytes, .int .i64 t.size, .int .i64 t.depth]] w fun e w' => e = .returned (.bool (opB 110 t)) ∧ InB w' b base H (M + 1) ∧ Below base w w' := by
  have hal := atomI_len hbt
  have CR : Hid (∀ W, Calls Tryz.prog 74 #[.string (bs (atomOf t))] W fun e w' => (∃ r, e = .returned (.tuple #[.int .i64 r, .bool (numB t)])) ∧ Below W.heap.size W w') := Lib.hid (fun W => (readNumeral_c (atomOf t) (by omega) W).mono fun e w' ⟨h1, h2⟩ => ⟨⟨_, h1⟩, h2⟩)
  have HR : Hid (opB 110 t = numB t) := Lib.hid (by simp [opB])
  rw [HR.out]
  generalize numB t = R at *
  have HI := Lib.hid hI
  clear hv hok hwf hbt hal hI HR
  generalize bs (atomOf t) = A at *
  generalize t.bytes = t1 at *
  generalize t.size = t2 at *
  generalize t.depth = t3 at *
  go_enter Tryz.func118, Tryz.ntmps118
  go_wp2_with (go_at_call 74; go_must (refine (CR.out _).mono ?_; rintro e w1 ⟨⟨r, rfl⟩, hb1⟩; have HB1 := Lib.hid ((below1 w (.cells #[.string A, .slice p m c, .int .i64 t1, .int .i64 t2, .int .i64 t3] 56)).trans (hb1.mono (by simp))); have HI1 := Lib.hid (HI.out.below HB1.out); obtain ⟨⟨u1, c1⟩, f1⟩ := HI1.out.cell (j := 3) (by decide)))
  go_ret
  exact ⟨rfl, HI1.out.set' (by decide) (by decide) _ (by simp [okC]), (HB1.out.mono hbw).setCell hbb _⟩
set_option maxHeartbeats 1000000 in
theorem take_x (t : Tr) (p : Option Addr) (m c : Nat) (ok : Nat → Prop) (b base : Nat) (H : ByteArray) (M : Nat) (w : World) (hwf : t.wf) (hbt : t.bytes ≤ 12000) (hv : FV nI w ok t (nI t (.slice p m c))) (hok : ∀ k, ok k → k < w.heap.size) (hI : InB w b base H M) (hbb : base ≤ b) (hbw : base ≤ w.heap.size) (hM : M ≤ 12000) :
    Calls Tryz.prog 118 #[.pointer (some ⟨b, 0, none⟩), .int .u8 120, .agg #[.string (bs (atomOf t)), .slice p m c, .int .i64 t.bytes, .int .i64 t.size, .int .i64 t.depth]] w fun e w' => e = .returned (.bool (opB 120 t)) ∧ InB w' b base H (M + 1) ∧ Below base w w' := by
  have hal := atomI_len hbt
  have HR : Hid (opB 120 t = idxB t) := Lib.hid (by simp [opB])
  rw [HR.out]
  have HI := Lib.hid hI
  cases hn : numOf (atomOf t) with
  | none =>
    have CR : Hid (∀ W, Calls Tryz.prog 74 #[.string (bs (atomOf t))] W fun e w' => e = .returned (.tuple #[.int .i64 0, .bool false]) ∧ Below W.heap.size W w') := Lib.hid (fun W => (readNumeral_c (atomOf t) (by omega) W).mono fun e w' ⟨h1, h2⟩ => ⟨by rw [hn] at h1; exact h1, h2⟩)
    have HX : Hid (idxB t = false) := Lib.hid (by simp [idxB, hn])
    rw [HX.out]
    clear hv hok hwf hbt hal hI HR hn HX
    generalize bs (atomOf t) = A at *
    generalize t.bytes = t1 at *
    generalize t.size = t2 at *
    generalize t.depth = t3 at *
    go_enter Tryz.func118, Tryz.ntmps118
    go_wp2_with (go_at_call 74; go_must (refine (CR.out _).mono ?_; rintro e w1 ⟨rfl, hb1⟩; have HB1 := Lib.hid ((below1 w (.cells #[.string A, .slice p m c, .int .i64 t1, .int .i64 t2, .int .i64 t3] 56)).trans (hb1.mono (by simp))); have HI1 := Lib.hid (HI.out.below HB1.out); obtain ⟨⟨u1, c1⟩, f1⟩ := HI1.out.cell (j := 3) (by decide); have g3 := HI1.out.got (j := 3) (by decide) (.int .i64 0)))
    go_ret
    exact ⟨rfl, HI1.out.set' (by decide) (by decide) _ (by simp [okC]), (HB1.out.mono hbw).setCell hbb _⟩
  | some n =>
    have CR : Hid (∀ W, Calls Tryz.prog 74 #[.string (bs (atomOf t))] W fun e w' => e = .returned (.tuple #[.int .i64 n, .bool true]) ∧ Below W.heap.size W w') := Lib.hid (fun W => (readNumeral_c (atomOf t) (by omega) W).mono fun e w' ⟨h1, h2⟩ => ⟨by rw [hn] at h1; exact h1, h2⟩)
    have HX : Hid (idxB t = decide (0 ≤ n)) := Lib.hid (by simp [idxB, hn])
    rw [HX.out]
    clear hv hok hwf hbt hal hI HR hn HX
    generalize bs (atomOf t) = A at *
    generalize t.bytes = t1 at *
    generalize t.size = t2 at *
    generalize t.depth = t3 at *
    go_enter Tryz.func118, Tryz.ntmps118
    go_wp2_with (go_at_call 74; go_must (refine (CR.out _).mono ?_; rintro e w1 ⟨rfl, hb1⟩; have HB1 := Lib.hid ((below1 w (.cells #[.string A, .slice p m c, .int .i64 t1, .int .i64 t2, .int .i64 t3] 56)).trans (hb1.mono (by simp))); have HI1 := Lib.hid (HI.out.below HB1.out); obtain ⟨⟨u1, c1⟩, f1⟩ := HI1.out.cell (j := 3) (by decide); have g3 := HI1.out.got (j := 3) (by decide) (.int .i64 n)))
    go_ret
    exact ⟨rfl, HI1.out.set' (by decide) (by decide) _ (by simp [okC]), (HB1.out.mono hbw).setCell hbb _⟩
set_option maxHeartbeats 2000000 in
theorem take_l (t : Tr) (p : Option Addr) (m c : Nat) (ok : Nat → Prop) (b base : Nat) (H : ByteArray) (M : Nat) (w : World) (hwf : t.wf) (hbt : t.bytes ≤ 12000) (hv : FV nI w ok t (nI t (.slice p m c))) (hok : ∀ k, ok k → k < w.heap.size) (hI : InB w b base H M) (hbb : base ≤ b) (hbw : base ≤ w.heap.size) (hM : M ≤ 12000) :
    Calls Tryz.prog 118 #[.pointer (some ⟨b, 0, none⟩), .int .u8 108, .agg #[.string (bs (atomOf t)), .slice p m c, .int .i64 t.bytes, .int .i64 t.size, .int .i64 t.depth]] w fun e w' => e = .returned (.bool (opB 108 t)) ∧ InB w' b base H (M + 1) ∧ Below base w w' := by
  have hal := atomI_len hbt
  have CR : Hid (∀ W, Calls Tryz.prog 166 #[.string (bs (atomOf t))] W fun e w' => e = .returned (.bool (labB (atomOf t))) ∧ w' = W) := Lib.hid (fun W => isLabel_c (atomOf t) hal W)
  have HR : Hid (opB 108 t = labB (atomOf t)) := Lib.hid (by simp [opB])
  rw [HR.out]
  generalize labB (atomOf t) = R at *
  have HI := Lib.hid hI
  clear hv hok hwf hbt hal hI HR
  generalize bs (atomOf t) = A at *
  generalize t.bytes = t1 at *
  generalize t.size = t2 at *
  generalize t.depth = t3 at *
  have HB1 : Hid (Below w.heap.size w (w.alloc (.cells #[.string A, .slice p m c, .int .i64 t1, .int .i64 t2, .int .i64 t3] 56)).drew) := Lib.hid (below1 w (.cells #[.string A, .slice p m c, .int .i64 t1, .int .i64 t2, .int .i64 t3] 56)).drew
  have HI1 := Lib.hid (HI.out.below HB1.out)
  obtain ⟨⟨u1, c1⟩, f1⟩ := HI1.out.cell (j := 4) (by decide)
  go_enter Tryz.func118, Tryz.ntmps118
  go_wp2_with fail
  go_region_with (first | (go_at_call 166; (with_reducible refine (CR.out _).mono ?_); rintro e w1 ⟨rfl, rfl⟩) | fail)
  all_goals
    go_wp2_with fail
    go_ret
    exact ⟨rfl, HI1.out.set' (by decide) (by decide) _ (by simp [okC]), (HB1.out.mono hbw).setCell hbb _⟩
set_option maxHeartbeats 4000000 in
theorem take_E (t : Tr) (p : Option Addr) (m c : Nat) (ok : Nat → Prop) (b base : Nat) (H : ByteArray) (M : Nat) (w : World) (hwf : t.wf) (hbt : t.bytes ≤ 12000) (hv : FV nI w ok t (nI t (.slice p m c))) (hok : ∀ k, ok k → k < w.heap.size) (hI : InB w b base H M) (hbb : base ≤ b) (hbw : base ≤ w.heap.size) (hM : M ≤ 12000) :
    Calls Tryz.prog 118 #[.pointer (some ⟨b, 0, none⟩), .int .u8 69, .agg #[.string (bs (atomOf t)), .slice p m c, .int .i64 t.bytes, .int .i64 t.size, .int .i64 t.depth]] w fun e w' => e = .returned (.bool (opB 69 t)) ∧ InB w' b base H (M + 1) ∧ Below base w w' := by
  have CR : Hid (∀ W, Below w.heap.size w W → Calls Tryz.prog 167 #[.agg #[.string (bs (atomOf t)), .slice p m c, .int .i64 t.bytes, .int .i64 t.size, .int .i64 t.depth]] W fun e w' => e = .returned (.bool (pkB t)) ∧ Below W.heap.size W w') := Lib.hid (fun W hW => isPackage_c t p m c ok W hwf hbt (hv.below hW hok) (fun j hj => Nat.lt_of_lt_of_le (hok j hj) hW.size))
  have HR : Hid (opB 69 t = pkB t) := Lib.hid (by simp [opB])
  rw [HR.out]
  generalize pkB t = R at *
  have HI := Lib.hid hI
  clear hv hok hwf hbt hI HR
  generalize bs (atomOf t) = A at *
  generalize t.bytes = t1 at *
  generalize t.size = t2 at *
  generalize t.depth = t3 at *
  have HB1 : Below w.heap.size w (w.alloc (.cells #[.string A, .slice p m c, .int .i64 t1, .int .i64 t2, .int .i64 t3] 56)).drew := (below1 w (.cells #[.string A, .slice p m c, .int .i64 t1, .int .i64 t2, .int .i64 t3] 56)).drew
  have X0 := heap_alloc_new w (.cells #[.string A, .slice p m c, .int .i64 t1, .int .i64 t2, .int .i64 t3] 56)
  have KB : Hid (∀ W, Below (w.alloc (.cells #[.string A, .slice p m c, .int .i64 t1, .int .i64 t2, .int .i64 t3] 56)).drew.heap.size (w.alloc (.cells #[.string A, .slice p m c, .int .i64 t1, .int .i64 t2, .int .i64 t3] 56)).drew W → W.heap[w.heap.size]? = some (.cells #[.string A, .slice p m c, .int .i64 t1, .int .i64 t2, .int .i64 t3] 56 (0, 0))) := Lib.hid (fun W hW => below_blk hW (by simp) X0)
  go_enter Tryz.func118, Tryz.ntmps118
  go_wp2_with fail
  go_region_with (first | (go_at_call 167; (with_reducible refine (CR.out _ HB1).mono ?_); rintro e w1 ⟨rfl, hb1⟩; have HB2 := Lib.hid (HB1.trans (hb1.mono HB1.size)); have HI2 := Lib.hid (HI.out.below HB2.out); have X1 := KB.out _ hb1; have y0 := cell_of (j := 0) X1; have y1 := cell_of (j := 1) X1; have y2 := cell_of (j := 2) X1; have y3 := cell_of (j := 3) X1; have y4 := cell_of (j := 4) X1; obtain ⟨⟨v0, d0⟩, g0⟩ := HI2.out.cell (j := 5) (by decide); obtain ⟨⟨v1, d1⟩, g1⟩ := HI2.out.cell (j := 6) (by decide); obtain ⟨⟨v2, d2⟩, g2⟩ := HI2.out.cell (j := 7) (by decide); obtain ⟨⟨v3, d3⟩, g3⟩ := HI2.out.cell (j := 8) (by decide); obtain ⟨⟨v4, d4⟩, g4⟩ := HI2.out.cell (j := 9) (by decide)) | fail)
  all_goals
    go_wp2_with fail
    go_ret
    exact ⟨rfl, ((((HI2.out.set (j := 5) (by decide) (by decide) _ (by simp [okC])).set (j := 6) (by decide) (by decide) _ (by simp [okC])).set (j := 7) (by decide) (by decide) _ (by simp [okC])).set (j := 8) (by decide) (by decide) _ (by simp [okC])).set' (j := 9) (by decide) (by decide) _ (by simp [okC]), (((((HB2.out.mono hbw).setCell hbb _).setCell hbb _).setCell hbb _).setCell hbb _).setCell hbb _⟩
set_option maxHeartbeats 4000000 in
theorem take_W (t : Tr) (p : Option Addr) (m c : Nat) (ok : Nat → Prop) (b base : Nat) (H : ByteArray) (M : Nat) (w : World) (hwf : t.wf) (hbt : t.bytes ≤ 12000) (hv : FV nI w ok t (nI t (.slice p m c))) (hok : ∀ k, ok k → k < w.heap.size) (hI : InB w b base H M) (hbb : base ≤ b) (hbw : base ≤ w.heap.size) (hM : M ≤ 12000) :
    Calls Tryz.prog 118 #[.pointer (some ⟨b, 0, none⟩), .int .u8 87, .agg #[.string (bs (atomOf t)), .slice p m c, .int .i64 t.bytes, .int .i64 t.size, .int .i64 t.depth]] w fun e w' => e = .returned (.bool (opB 87 t)) ∧ InB w' b base H (M + 1) ∧ Below base w w' := by
  have CR : Hid (∀ W, Below w.heap.size w W → Calls Tryz.prog 168 #[.agg #[.string (bs (atomOf t)), .slice p m c, .int .i64 t.bytes, .int .i64 t.size, .int .i64 t.depth]] W fun e w' => e = .returned (.bool (tgt noU false t)) ∧ Below W.heap.size W w') := Lib.hid (fun W hW => isTarget_c t p m c ok W hwf hbt (hv.below hW hok) (fun j hj => Nat.lt_of_lt_of_le (hok j hj) hW.size))
  have HR : Hid (opB 87 t = tgt noU false t) := Lib.hid (by simp [opB])
  rw [HR.out]
  generalize tgt noU false t = R at *
  have HI := Lib.hid hI
  clear hv hok hwf hbt hI HR
  generalize bs (atomOf t) = A at *
  generalize t.bytes = t1 at *
  generalize t.size = t2 at *
  generalize t.depth = t3 at *
  have HB1 : Below w.heap.size w (w.alloc (.cells #[.string A, .slice p m c, .int .i64 t1, .int .i64 t2, .int .i64 t3] 56)).drew := (below1 w (.cells #[.string A, .slice p m c, .int .i64 t1, .int .i64 t2, .int .i64 t3] 56)).drew
  have X0 := heap_alloc_new w (.cells #[.string A, .slice p m c, .int .i64 t1, .int .i64 t2, .int .i64 t3] 56)
  have KB : Hid (∀ W, Below (w.alloc (.cells #[.string A, .slice p m c, .int .i64 t1, .int .i64 t2, .int .i64 t3] 56)).drew.heap.size (w.alloc (.cells #[.string A, .slice p m c, .int .i64 t1, .int .i64 t2, .int .i64 t3] 56)).drew W → W.heap[w.heap.size]? = some (.cells #[.string A, .slice p m c, .int .i64 t1, .int .i64 t2, .int .i64 t3] 56 (0, 0))) := Lib.hid (fun W hW => below_blk hW (by simp) X0)
  go_enter Tryz.func118, Tryz.ntmps118
  go_wp2_with fail
  go_region_with (first | (go_at_call 168; (with_reducible refine (CR.out _ HB1).mono ?_); rintro e w1 ⟨rfl, hb1⟩; have HB2 := Lib.hid (HB1.trans (hb1.mono HB1.size)); have HI2 := Lib.hid (HI.out.below HB2.out); have X1 := KB.out _ hb1; have y0 := cell_of (j := 0) X1; have y1 := cell_of (j := 1) X1; have y2 := cell_of (j := 2) X1; have y3 := cell_of (j := 3) X1; have y4 := cell_of (j := 4) X1; obtain ⟨⟨v0, d0⟩, g0⟩ := HI2.out.cell (j := 10) (by decide); obtain ⟨⟨v1, d1⟩, g1⟩ := HI2.out.cell (j := 11) (by decide); obtain ⟨⟨v2, d2⟩, g2⟩ := HI2.out.cell (j := 12) (by decide); obtain ⟨⟨v3, d3⟩, g3⟩ := HI2.out.cell (j := 13) (by decide); obtain ⟨⟨v4, d4⟩, g4⟩ := HI2.out.cell (j := 14) (by decide)) | fail)
  all_goals
    go_wp2_with fail
    go_ret
    exact ⟨rfl, ((((HI2.out.set (j := 10) (by decide) (by decide) _ (by simp [okC])).set (j := 11) (by decide) (by decide) _ (by simp [okC])).set (j := 12) (by decide) (by decide) _ (by simp [okC])).set (j := 13) (by decide) (by decide) _ (by simp [okC])).set' (j := 14) (by decide) (by decide) _ (by simp [okC]), (((((HB2.out.mono hbw).setCell hbb _).setCell hbb _).setCell hbb _).setCell hbb _).setCell hbb _⟩
end Go.Proofs.YtfknoigbkleanaaGreatDoor
