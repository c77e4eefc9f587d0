/- FormReplace of the program. -/
import Derived.Test.YtpmlpmdgmapilaaImpl1n
import Derived.Test.YtpmlpmdgmapilaaI1z
import Derived.Test.YtpmlpmdgmapilaaSpec1l
namespace Go.Proofs.Ytpmlpmdgmapilaa
open Go.RowKit
set_option maxRecDepth 8000
set_option linter.unusedSimpArgs false
set_option linter.unusedVariables false
theorem readForm_any (s : ByteArray) (hs : s.size ≤ 1048576) {b : Bool} (hb : (parse s.data.toList).isSome = b) (W : World) : Calls Try.prog 55 #[.string s] W fun e w' => (∃ u p n c x y z, e = .returned (.tuple #[.agg #[.string u, .slice p n c, .int .i64 x, .int .i64 y, .int .i64 z], .bool b])) ∧ Below W.heap.size W w' :=
  (readForm_c s hs W).mono fun e w' ⟨h1, h2⟩ => ⟨by rw [← hb]; exact readPost_shape h1, h2⟩
set_option maxHeartbeats 400000 in
theorem inLimits_c (t : Tr) (u : ByteArray) (p : Option Addr) (n c : Nat) (sz : Int) (w : World) (hb : t.bytes ≤ 1000000000) (hd : t.depth ≤ 1000000000) :
    Calls Try.prog 62 #[.agg #[.string u, .slice p n c, .int .i64 t.bytes, .int .i64 sz, .int .i64 t.depth]] w fun e w' => e = .returned (.bool (decide (t.bytes ≤ 12000 ∧ t.depth ≤ 60))) ∧ Below w.heap.size w w' := by
  by_cases h : t.bytes ≤ 12000
  · have h1 : decide ((t.bytes : Int) ≤ 12000) = true := by simp; omega
    by_cases h2 : t.depth ≤ 60
    · have h3 : decide ((t.depth : Int) ≤ 60) = true := by simp; omega
      have HF : Hid (decide (t.bytes ≤ 12000 ∧ t.depth ≤ 60) = true) := Lib.hid (by simp [h, h2])
      go_enter Try.func62, Try.ntmps62
      go_wp2_with fail
      go_ret
      exact ⟨by rw [HF.out]; rfl, below1 w _⟩
    · have h3 : decide ((t.depth : Int) ≤ 60) = false := by simp; omega
      have HF : Hid (decide (t.bytes ≤ 12000 ∧ t.depth ≤ 60) = false) := Lib.hid (by simp [h2])
      go_enter Try.func62, Try.ntmps62
      go_wp2_with fail
      go_ret
      exact ⟨by rw [HF.out]; rfl, below1 w _⟩
  · have h1 : decide ((t.bytes : Int) ≤ 12000) = false := by simp; omega
    have HF : Hid (decide (t.bytes ≤ 12000 ∧ t.depth ≤ 60) = false) := Lib.hid (by simp [h])
    go_enter Try.func62, Try.ntmps62
    go_wp2_with fail
    go_ret
    exact ⟨by rw [HF.out]; rfl, below1 w _⟩
set_option maxHeartbeats 1000000 in
theorem implFormReplace_no1 (s a y : ByteArray) (hs : s.size ≤ 1048576) (h1 : (parse s.data.toList).isSome = false) (w : World) :
    Calls Try.prog 34 #[.string s, .string a, .string y] w fun e w' => e = .returned (.tuple #[.string ⟨#[]⟩, .bool false]) ∧ Below w.heap.size w w' := by
  have C1 := Lib.hid (readForm_any s hs h1)
  clear h1
  go_enter Try.func34, Try.ntmps34
  go_wp2_with (go_at_call 55; go_must (refine (C1.out _).mono ?_; rintro e w1 ⟨⟨u1, p1, n1, c1, x1, y1, z1, rfl⟩, hb1⟩))
  go_ret2
  exact ⟨rfl, hb1.alloc hb1.size _⟩
set_option maxHeartbeats 1000000 in
theorem implFormReplace_no2 (s a y : ByteArray) (hs : s.size ≤ 1048576) (ha : a.size ≤ 1048576) (h1 : (parse s.data.toList).isSome = true) (h2 : (parse a.data.toList).isSome = false) (w : World) :
    Calls Try.prog 34 #[.string s, .string a, .string y] w fun e w' => e = .returned (.tuple #[.string ⟨#[]⟩, .bool false]) ∧ Below w.heap.size w w' := by
  have C1 := Lib.hid (readForm_any s hs h1)
  have C2 := Lib.hid (readForm_any a ha h2)
  clear h1 h2
  go_enter Try.func34, Try.ntmps34
  go_wp2_with (go_at_call 55; first | ((with_reducible refine (C1.out _).mono ?_); rintro e w1 ⟨⟨u1, p1, n1, c1, x1, y1, z1, rfl⟩, hb1⟩) | ((with_reducible refine (C2.out _).mono ?_); rintro e w2 ⟨⟨u2, p2, n2, c2, x2, y2, z2, rfl⟩, hb2⟩))
  go_ret2
  exact ⟨rfl, ((hb1.alloc hb1.size _).trans (hb2.mono (by have := hb1.size; simp; omega))).alloc (by have := hb1.size; have := hb2.size; simp at *; omega) _⟩
set_option maxHeartbeats 1000000 in
theorem implFormReplace_list (s a y : ByteArray) (hs : s.size ≤ 1048576) (ha : a.size ≤ 1048576) (h1 : (parse s.data.toList).isSome = true) {ts : List Tr} (h2 : parse a.data.toList = some (.list ts)) (w : World) :
    Calls Try.prog 34 #[.string s, .string a, .string y] w fun e w' => e = .returned (.tuple #[.string ⟨#[]⟩, .bool false]) ∧ Below w.heap.size w w' := by
  have C1 := Lib.hid (readForm_any s hs h1)
  have C2 := Lib.hid (readForm_some ha h2)
  have hg := parse_got h2
  have hne : ts.length ≠ 0 := by intro e; exact hg.1.1 (List.eq_nil_of_length_eq_zero e)
  have IA : Hid (∀ (W : World) (p : Option Addr) (c : Nat) (x y z : Int), Calls Try.prog 58 #[.agg #[.string (bs []), .slice p ts.length c, .int .i64 x, .int .i64 y, .int .i64 z]] W fun e w' => e = .returned (.bool false) ∧ Below W.heap.size W w') := Lib.hid (fun W p c x y z => isAtom_no _ p _ c hne x y z W)
  clear h1 h2 hg
  simp only [atomOf] at C2
  obtain ⟨b0, i1, i2, i3, -, hi1, hi2, hi3, -⟩ := nI_named (.list ts)
  rw [← hi1, ← hi2, ← hi3] at C2
  go_enter Try.func34, Try.ntmps34
  go_wp2_with (first | (go_at_call 55; first | ((with_reducible refine (C1.out _).mono ?_); rintro e w1 ⟨⟨u1, p1, n1, c1, x1, y1, z1, rfl⟩, hb1⟩) | ((with_reducible refine (C2.out _).mono ?_); rintro e w2 ⟨⟨p2, n2, c2, rfl, hv2⟩, hb2⟩; obtain ⟨r, off, cap, xs, hh, -⟩ := FV.list_cells hv2; have hh' := nI_inj _ _ _ hh; simp only [Value.slice.injEq] at hh'; obtain ⟨rfl, rfl, rfl⟩ := hh'; clear hh hv2)) | (go_at_call 58; go_must (refine (IA.out _ _ _ _ _ _).mono ?_; rintro e w3 ⟨rfl, hb3⟩)))
  go_ret2
  exact ⟨rfl, (((hb1.alloc hb1.size _).trans (hb2.mono (by have := hb1.size; simp; omega))).alloc (by have := hb1.size; have := hb2.size; simp at *; omega) _).trans (hb3.mono (by have := hb1.size; have := hb2.size; simp at *; omega))⟩
set_option maxHeartbeats 1000000 in
theorem implFormReplace_no3 (s a y : ByteArray) (hs : s.size ≤ 1048576) (ha : a.size ≤ 1048576) (hy : y.size ≤ 1048576) (h1 : (parse s.data.toList).isSome = true) {x : List UInt8} (h2 : parse a.data.toList = some (.atom x)) (h3 : (parse y.data.toList).isSome = false) (w : World) :
    Calls Try.prog 34 #[.string s, .string a, .string y] w fun e w' => e = .returned (.tuple #[.string ⟨#[]⟩, .bool false]) ∧ Below w.heap.size w w' := by
  have C1 := Lib.hid (readForm_any s hs h1)
  have C2 := Lib.hid (readForm_some ha h2)
  have C3 := Lib.hid (readForm_any y hy h3)
  clear h1 h2 h3
  simp only [atomOf] at C2
  obtain ⟨b0, i1, i2, i3, -, hi1, hi2, hi3, -⟩ := nI_named (.atom x)
  rw [← hi1, ← hi2, ← hi3] at C2
  go_enter Try.func34, Try.ntmps34
  go_wp2_with (first | (go_at_call 55; first | ((with_reducible refine (C1.out _).mono ?_); rintro e w1 ⟨⟨u1, p1, n1, c1, x1, y1, z1, rfl⟩, hb1⟩) | ((with_reducible refine (C2.out _).mono ?_); rintro e w2 ⟨⟨p2, n2, c2, rfl, hv2⟩, hb2⟩; simp only [FV] at hv2; have hh := nI_inj _ _ _ hv2; simp only [Value.slice.injEq] at hh; obtain ⟨rfl, rfl, rfl⟩ := hh; clear hv2) | ((with_reducible refine (C3.out _).mono ?_); rintro e w4 ⟨⟨u4, p4, n4, c4, x4, y4, z4, rfl⟩, hb4⟩)) | (go_at_call 58; go_must (refine (isAtom_yes _ _ _ _ _ _ _).mono ?_; rintro e w3 ⟨rfl, hb3⟩)))
  go_ret2
  exact ⟨rfl, (((((hb1.alloc hb1.size _).trans (hb2.mono (by have := hb1.size; simp; omega))).alloc (by have := hb1.size; have := hb2.size; simp at *; omega) _).trans (hb3.mono (by have := hb1.size; have := hb2.size; simp at *; omega))).trans (hb4.mono (by have := hb1.size; have := hb2.size; have := hb3.size; simp at *; omega))).alloc (by have := hb1.size; have := hb2.size; have := hb3.size; have := hb4.size; simp at *; omega) _⟩
set_option maxHeartbeats 2000000 in
theorem implFormReplace_yes (s a y : ByteArray) (hs : s.size ≤ 1048576) (ha : a.size ≤ 1048576) (hy : y.size ≤ 1048576) {t b : Tr} {x : List UInt8} (h1 : parse s.data.toList = some t) (h2 : parse a.data.toList = some (.atom x)) (h3 : parse y.data.toList = some b) (w : World) :
    Calls Try.prog 34 #[.string s, .string a, .string y] w fun e w' => MakePost (if (repl x b t).bytes ≤ 12000 ∧ (repl x b t).depth ≤ 60 then some (repl x b t) else none) e ∧ Below w.heap.size w w' := by
  have C1 := Lib.hid (readForm_some hs h1)
  have C2 := Lib.hid (readForm_some ha h2)
  have C3 := Lib.hid (readForm_some hy h3)
  have g1 := parse_got h1
  have g2 := parse_got h2
  have g3 := parse_got h3
  have hwf := repl_wf (a := x) g3.1 t g1.1
  have hby := repl_bytes (a := x) (b := b) (m := 12000) g3.2.1 (by omega) t g1.1
  have hby2 : (repl x b t).bytes ≤ 1000000000 := by have := g1.2.1; omega
  have hdp := depth_le _ hwf
  have hsz := (size_le _ hwf).1
  obtain ⟨ut, t1, t2, t3, hut, ht1, ht2, ht3, hnt⟩ := nI_named t
  obtain ⟨ub, b1, b2, b3, hub, hb1', hb2', hb3', hnb⟩ := nI_named b
  obtain ⟨ur, r1, r2, r3, hur, hr1, hr2, hr3, hnr⟩ := nI_named (repl x b t)
  obtain ⟨u0, i1, i2, i3, -, hi1, hi2, hi3, -⟩ := nI_named (.atom x)
  have LM : Hid (∀ (W : World) (p : Option Addr) (m c : Nat), Calls Try.prog 62 #[.agg #[.string ur, .slice p m c, .int .i64 r1, .int .i64 r2, .int .i64 r3]] W fun e w' => e = .returned (.bool (decide ((repl x b t).bytes ≤ 12000 ∧ (repl x b t).depth ≤ 60))) ∧ Below W.heap.size W w') := Lib.hid (fun W p m c => by rw [hr1, hr3]; exact inLimits_c (repl x b t) ur p m c r2 W hby2 (by omega))
  have TX : Hid (∀ (W : World) (p : Option Addr) (m c : Nat) (ok : Nat → Prop), FV nI W ok (repl x b t) (nI (repl x b t) (.slice p m c)) → (∀ k, ok k → k < W.heap.size) → Calls Try.prog 59 #[.agg #[.string ur, .slice p m c, .int .i64 r1, .int .i64 r2, .int .i64 r3]] W fun e w' => e = .returned (.string (bs (repl x b t).text)) ∧ Below W.heap.size W w') :=
    Lib.hid (fun W p m c ok k1 k2 => by rw [hur, hr1, hr2, hr3]; exact text_c (repl x b t) p m c ok W hwf (by omega) k1 k2)
  have RC : Hid (∀ (W : World) (p q : Option Addr) (m c m' c' : Nat), FV nI W (fun k => k < W.heap.size) t (nI t (.slice p m c)) → FV nI W (fun k => k < W.heap.size) b (nI b (.slice q m' c')) → Calls Try.prog 70 #[.agg #[.string ut, .slice p m c, .int .i64 t1, .int .i64 t2, .int .i64 t3], .string (bs x), .agg #[.string ub, .slice q m' c', .int .i64 b1, .int .i64 b2, .int .i64 b3]] W fun e w' => (∃ p m c, e = .returned (.agg #[.string ur, .slice p m c, .int .i64 r1, .int .i64 r2, .int .i64 r3]) ∧ FV nI w' (fun k => k < w'.heap.size) (repl x b t) (nI (repl x b t) (.slice p m c))) ∧ Below W.heap.size W w') :=
    Lib.hid (fun W p q m c m' c' k1 k2 => by
      have := replace_all (t.depth + 1) t b x _ _ W.heap.size W (by omega) g1.1 g3.1 hby2 k1 k2 (Nat.le_refl _)
      rw [hnt, hnb] at this
      exact this.mono fun e w' ⟨⟨p, m, c, e1, e2⟩, e3⟩ => ⟨⟨p, m, c, by rw [e1, hnr], e2.wide (fun k hk => by have := e3.size; omega)⟩, e3⟩)
  rw [← hut, ← ht1, ← ht2, ← ht3] at C1
  simp only [atomOf] at C2
  rw [← hi1, ← hi2, ← hi3] at C2
  rw [← hub, ← hb1', ← hb2', ← hb3'] at C3
  obtain ⟨v, hv⟩ : ∃ v, v = decide ((repl x b t).bytes ≤ 12000 ∧ (repl x b t).depth ≤ 60) := ⟨_, rfl⟩
  rw [← hv] at LM
  obtain ⟨R, hR⟩ : ∃ R, R = if (repl x b t).bytes ≤ 12000 ∧ (repl x b t).depth ≤ 60 then some (repl x b t) else none := ⟨_, rfl⟩
  rw [← hR]
  have HR : Hid (R = if v = true then some (repl x b t) else none) := Lib.hid (by rw [hR, hv]; simp)
  clear hR hv h1 h2 h3 g1 g2 g3 hwf hby hby2 hdp hsz hut ht1 ht2 ht3 hnt hub hb1' hb2' hb3' hnb hur hr1 hr2 hr3 hnr hi1 hi2 hi3
  cases v <;>
    (go_enter Try.func34, Try.ntmps34
     go_wp2_with (first | (go_at_call 55; first | ((with_reducible refine (C1.out _).mono ?_); rintro e w1 ⟨⟨p1, n1, c1, rfl, hv1⟩, hb1⟩; have x1 := heap_alloc_new w1 (.cells #[.string ut, .slice p1 n1 c1, .int .i64 t1, .int .i64 t2, .int .i64 t3] 48); have k1 := FV.below (hv1.wide (fun k hk => hk.2)) (below1 w1 (.cells #[.string ut, .slice p1 n1 c1, .int .i64 t1, .int .i64 t2, .int .i64 t3] 48)) (fun k hk => hk); have B1 := Lib.hid (hb1.alloc hb1.size (.cells #[.string ut, .slice p1 n1 c1, .int .i64 t1, .int .i64 t2, .int .i64 t3] 48)); clear hv1) | ((with_reducible refine (C2.out _).mono ?_); rintro e w2 ⟨⟨p2, n2, c2, rfl, hv2⟩, hb2⟩; simp only [FV] at hv2; have hh := nI_inj _ _ _ hv2; simp only [Value.slice.injEq] at hh; obtain ⟨rfl, rfl, rfl⟩ := hh; clear hv2; have B2 := Lib.hid ((hb2.alloc hb2.size (.cells #[.string (bs x), .slice none 0 0, .int .i64 i1, .int .i64 i2, .int .i64 i3] 48))); have x2 := heap_alloc_new w2 (.cells #[.string (bs x), .slice none 0 0, .int .i64 i1, .int .i64 i2, .int .i64 i3] 48); have k2 := k1.below B2.out (fun k hk => by simp only [alloc_size]; omega); have x1' := below_blk B2.out (lt_of_block x1) x1; have s2 := B2.out.size) | ((with_reducible refine (C3.out _).mono ?_); rintro e w4 ⟨⟨p4, n4, c4, rfl, hv4⟩, hb4⟩; have B4 := Lib.hid (hb4.alloc hb4.size (.cells #[.string ub, .slice p4 n4 c4, .int .i64 b1, .int .i64 b2, .int .i64 b3] 48)); have s4 := B4.out.size; have x4 := heap_alloc_new w4 (.cells #[.string ub, .slice p4 n4 c4, .int .i64 b1, .int .i64 b2, .int .i64 b3] 48); have x2b := below_blk B4.out (lt_of_block x2') x2'; have x1c := below_blk B4.out (lt_of_block x1b) x1b; have k4 := Lib.hid (FV.wide (hv4.below (below1 w4 (.cells #[.string ub, .slice p4 n4 c4, .int .i64 b1, .int .i64 b2, .int .i64 b3] 48)) (fun k hk => hk.2)) (ok' := fun k => k < (w4.alloc (.cells #[.string ub, .slice p4 n4 c4, .int .i64 b1, .int .i64 b2, .int .i64 b3] 48)).heap.size) (fun k hk => by simp; omega)); have k3' := Lib.hid (FV.wide (k3.below B4.out (fun k hk => by have := lt_of_block x1b; omega)) (ok' := fun k => k < (w4.alloc (.cells #[.string ub, .slice p4 n4 c4, .int .i64 b1, .int .i64 b2, .int .i64 b3] 48)).heap.size) (fun k hk => by have := lt_of_block x1c; omega)); have ca0 := cell_of (j := 0) x1c; have ca1 := cell_of (j := 1) x1c; have ca2 := cell_of (j := 2) x1c; have ca3 := cell_of (j := 3) x1c; have ca4 := cell_of (j := 4) x1c; have cb0 := cell_of (j := 0) x2b; have cd0 := cell_of (j := 0) x4; have cd1 := cell_of (j := 1) x4; have cd2 := cell_of (j := 2) x4; have cd3 := cell_of (j := 3) x4; have cd4 := cell_of (j := 4) x4)) | (go_at_call 58; go_must (refine (isAtom_yes _ _ _ _ _ _ _).mono ?_; rintro e w3 ⟨rfl, hb3⟩; have s3 := hb3.size; have x2' := below_blk hb3 (lt_of_block x2) x2; have x1b := below_blk hb3 (lt_of_block x1') x1'; have k3 := k2.below hb3 (fun k hk => by simp only [alloc_size] at s2 ⊢; omega))) | (go_at_call 70; go_must (refine (RC.out _ _ _ _ _ _ _ k3'.out k4.out).mono ?_; rintro e w5 ⟨⟨p5, m5, c5, rfl, hv5⟩, hb5⟩; have B5 := Lib.hid (hb5.alloc hb5.size (.cells #[.string ur, .slice p5 m5 c5, .int .i64 r1, .int .i64 r2, .int .i64 r3] 48)); have x5 := heap_alloc_new w5 (.cells #[.string ur, .slice p5 m5 c5, .int .i64 r1, .int .i64 r2, .int .i64 r3] 48); have k5 := FV.below hv5 (below1 w5 (.cells #[.string ur, .slice p5 m5 c5, .int .i64 r1, .int .i64 r2, .int .i64 r3] 48)) (fun k hk => hk); have s5 := B5.out.size)) | (go_at_call 62; go_must (refine (LM.out _ _ _ _).mono ?_; rintro e w6 ⟨rfl, hb6⟩; have s6 := hb6.size; have x5' := below_blk hb6 (lt_of_block x5) x5; have ce0 := cell_of (j := 0) x5'; have ce1 := cell_of (j := 1) x5'; have ce2 := cell_of (j := 2) x5'; have ce3 := cell_of (j := 3) x5'; have ce4 := cell_of (j := 4) x5')) | (go_at_call 59; go_must (refine (TX.out _ p5 m5 c5 _ (k5.below hb6 (fun k hk => by simp; omega)) (fun k hk => by simp at s6; omega)).mono ?_; rintro e w7 ⟨rfl, hb7⟩)))
     go_ret2
     first
       | exact ⟨by rw [HR.out]; rfl, (nextB (nextB (nextB (nextB (nextB (nextB (firstB B1.out) B2.out) hb3) B4.out) B5.out) hb6) hb7).1⟩
       | exact ⟨by rw [HR.out]; rfl, (nextB (nextB (nextB (nextB (nextB (firstB B1.out) B2.out) hb3) B4.out) B5.out) hb6).1⟩)
theorem implFormReplace_c (s a y : ByteArray) (hs : s.size ≤ 1048576) (ha : a.size ≤ 1048576) (hy : y.size ≤ 1048576) (w : World) :
    Calls Try.prog 34 #[.string s, .string a, .string y] w fun e w' => MakePost (replOf s.data.toList a.data.toList y.data.toList) e ∧ Below w.heap.size w w' := by
  cases h1 : parse s.data.toList with
  | none => rw [replOf_1 _ _ h1]; exact implFormReplace_no1 s a y hs (by rw [h1]; rfl) w
  | some t =>
    cases h2 : parse a.data.toList with
    | none => rw [replOf_2 _ _ h2]; exact implFormReplace_no2 s a y hs ha (by rw [h1]; rfl) (by rw [h2]; rfl) w
    | some a' =>
      match a', h2 with
      | .list ts, h2 => rw [replOf_4 _ _ h2]; exact implFormReplace_list s a y hs ha (by rw [h1]; rfl) h2 w
      | .atom x, h2 =>
        cases h3 : parse y.data.toList with
        | none => rw [replOf_3 _ _ h3]; exact implFormReplace_no3 s a y hs ha hy (by rw [h1]; rfl) h2 (by rw [h3]; rfl) w
        | some b => rw [replOf_some h1 h2 h3]; exact implFormReplace_yes s a y hs ha hy h1 h2 h3 w
end Go.Proofs.Ytpmlpmdgmapilaa
