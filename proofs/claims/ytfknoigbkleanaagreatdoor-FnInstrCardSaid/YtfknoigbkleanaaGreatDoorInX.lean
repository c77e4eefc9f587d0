/- Instructions: both sides, and the walks of the exact laws. -/
import Derived.Test.YtfknoigbkleanaaGreatDoorInL
import Derived.Test.YtfknoigbkleanaaGreatDoorIn8
namespace Go.Proofs.YtfknoigbkleanaaGreatDoor
open Go.RowKit
set_option maxRecDepth 8000
set_option linter.unusedSimpArgs false
set_option linter.unusedVariables false
theorem l6tInstr_atom (a : List UInt8) (ha : a ≠ []) (w : World) (ha2 : (Tr.atom a).wf) :
    Calls Tryz.prog 72 #[.agg #[.string (bs a), .slice none 0 0]] w fun e w' => e = .returned (.bool false) ∧ Below w.heap.size w w' := by
  have CH : Hid (∀ W, Calls Tryz.prog 120 #[.agg #[.string (bs a), .slice none 0 0]] W fun e w' => e = .returned (.string (bs [])) ∧ Below W.heap.size W w') := Lib.hid (fun W => (l4HeadI_c (.atom a) none 0 0 (fun _ => False) W ha2 (by simp only [FV]) (fun k hk => hk.elim)))
  have CS : Hid (∀ W, Calls Tryz.prog 119 #[.string (bs [])] W fun e w' => e = .returned (.string (bs [])) ∧ w' = W) := Lib.hid (fun W => l6tShape_c [] W)
  obtain ⟨S, hS⟩ : ∃ S, S = bs ([] : List UInt8) := ⟨_, rfl⟩
  have f1 : (S.toList == ([] : List UInt8)) = true := by rw [hS, bs_toList]; rfl
  have f2 : S.toList = [] := by rw [hS, bs_toList]
  have f3 : S.toList.isEmpty = true := by rw [f2]; rfl
  rw [← hS] at CH CS
  clear hS
  generalize bs a = A at *
  go_enter Tryz.func72, Tryz.ntmps72
  go_wp2_with (first | (go_at_call 120; go_must (refine (CH.out _).mono ?_; rintro e w1 ⟨rfl, hb1⟩)) | (go_at_call 119; go_must (refine (CS.out _).mono ?_; rintro e w2 ⟨rfl, rfl⟩)))
  go_ret
  exact ⟨rfl, (below1 w _).trans (hb1.mono (by simp))⟩
theorem l6tInstr_t (t : Tr) (p : Option Addr) (m c : Nat) (ok : Nat → Prop) (w : World) (hwf : t.wf) (hbt : t.bytes ≤ 12000) (hdt : t.depth ≤ 60) (hv : FV nS w ok t (nS t (.slice p m c))) (hok : ∀ k, ok k → k < w.heap.size) :
    Calls Tryz.prog 72 #[.agg #[.string (bs (atomOf t)), .slice p m c]] w fun e w' => e = .returned (.bool (insF t)) ∧ Below w.heap.size w w' := by
  match t, hv with
  | .atom a, hv =>
    simp only [FV, nS, List.cons.injEq, Value.slice.injEq, and_true, true_and] at hv
    obtain ⟨rfl, rfl, rfl⟩ := hv
    exact l6tInstr_atom a hwf.1 w hwf
  | .list [], hv => exact absurd rfl hwf.1
  | .list (h :: ts), hv =>
    have hv0 := hv
    obtain ⟨r, off, cap, xs, he, h2, h3, h4, h5, h6⟩ := hv.list_cells
    simp only [nS, List.cons.injEq, Value.slice.injEq, and_true] at he
    obtain ⟨-, rfl, rfl, rfl⟩ := he
    refine (l6tInstr_c h ts r off _ xs ok w hwf hbt hdt hv0 (hok r h2) h3 h4 h5 h6 hok).mono fun e w' ⟨h1, h2⟩ => ⟨?_, h2⟩
    rw [h1, refT_eq]; rfl
set_option maxHeartbeats 1000000 in
theorem specInstrValid_c (s : ByteArray) (hs : s.size ≤ 1048576) (w : World) :
    Calls Tryz.prog 32 #[.string s] w fun e w' => e = .returned (.bool (insOf s.data.toList)) ∧ Below w.heap.size w w' := by
  cases hp : parse s.data.toList with
  | none =>
    have C := Lib.hid (l1Parse_none hs hp)
    have HR := Lib.hid (show insOf s.data.toList = false by simp [insOf, hp])
    rw [HR.out]
    clear hp
    go_enter Tryz.func32, Tryz.ntmps32
    go_wp2_with (go_at_call 65; go_must (refine (C.out _).mono ?_; rintro e w1 ⟨⟨a, p, n, c, rfl, hn⟩, hb1⟩))
    go_ret
    exact ⟨rfl, hb1.alloc hb1.size _⟩
  | some t =>
    have hg := parse_got hp
    have C := Lib.hid (l1Parse_some hs hp)
    have HR := Lib.hid (show insOf s.data.toList = insF t by simp [insOf, hp])
    rw [HR.out]
    have CI : Hid (∀ (w1 W : World) p n c, FV nS w1 (fun k => w.heap.size ≤ k ∧ k < w1.heap.size) t (nS t (.slice p n c)) → Below w1.heap.size w1 W → Calls Tryz.prog 72 #[.agg #[.string (bs (atomOf t)), .slice p n c]] W fun e w' => e = .returned (.bool (insF t)) ∧ Below W.heap.size W w') := Lib.hid (fun w1 W p n c hv hW => l6tInstr_t t p n c _ W hg.1 hg.2.1 hg.2.2.1 (hv.below hW (fun k hk => hk.2)) (fun k hk => Nat.lt_of_lt_of_le hk.2 hW.size))
    clear hp hg HR
    generalize insF t = R at *
    go_enter Tryz.func32, Tryz.ntmps32
    go_wp2_with (first | (go_at_call 65; go_must (refine (C.out _).mono ?_; rintro e w1 ⟨⟨p, n, c, rfl, hv⟩, hb1⟩)) | (go_at_call 72; go_must (refine (CI.out _ _ _ _ _ hv (below1 _ _)).mono ?_; rintro e w2 ⟨rfl, hb2⟩)))
    go_ret
    exact ⟨ret_bool (by simp), (hb1.alloc hb1.size _).trans (hb2.mono (by have := hb1.size; simp; omega))⟩
theorem hd_cell {t : Tr} {p : Option Addr} {m c : Nat} {ok : Nat → Prop} {w : World} (hi : insF t = true) (hv : FV nS w ok t (nS t (.slice p m c))) : ∃ r off, p = some ⟨r, off, none⟩ ∧ ok r ∧ 1 ≤ m ∧ m ≤ c ∧ c ≤ maxLen ∧ w.cell? ⟨r, off, none⟩ = some (.string (bs (hdT t))) := by
  match t, hi, hv with
  | .atom a, hi, _ => simp [insF] at hi
  | .list [], hi, _ => simp [insF] at hi
  | .list (h :: ts), hi, hv =>
    obtain ⟨r, off, cap, xs, he, h2, h3, h4, h5, h6⟩ := hv.list_cells
    simp only [nS, List.cons.injEq, Value.slice.injEq, and_true] at he
    obtain ⟨-, rfl, rfl, rfl⟩ := he
    obtain ⟨cs, g1, g2⟩ := FVs.get nS_len h6 h5 0 (by simp)
    obtain ⟨p', m', c', rfl⟩ := g1.node
    exact ⟨r, off, rfl, h2, by simp, h3, h4, by have := g2 0 _ rfl; show _ = some (Value.string (bs (atomOf h))); simpa using this⟩
theorem lastFacts (H : List UInt8) (S : ByteArray) (hS : S = bs H) : ((S.toList == [106, 117, 109, 112]) = true ∧ S.toList = [106, 117, 109, 112] ∧ lastH H = true) ∨ ((S.toList == [106, 117, 109, 112]) = false ∧ ¬ S.toList = [106, 117, 109, 112] ∧ (S.toList == [104, 97, 108, 116]) = lastH H ∧ (lastH H = true → S.toList = [104, 97, 108, 116]) ∧ (lastH H = false → ¬ S.toList = [104, 97, 108, 116])) := by
  have e : S.toList = H := by rw [hS, bs_toList]
  rw [e]
  by_cases h1 : H = kJump
  · exact .inl ⟨by rw [h1]; rfl, by rw [h1]; rfl, by simp [lastH, h1]⟩
  · have h1' : ¬ H = [106, 117, 109, 112] := h1
    have hl : lastH H = decide (H = kHalt) := by simp [lastH, h1]
    refine .inr ⟨beq_eq_false_iff_ne.2 h1', h1', ?_, ?_, ?_⟩
    · rw [hl]
      by_cases h2 : H = kHalt
      · rw [h2]; rfl
      · rw [decide_eq_false h2]; exact beq_eq_false_iff_ne.2 h2
    · intro q; rw [hl] at q; exact of_decide_eq_true q
    · intro q; rw [hl] at q; exact of_decide_eq_false q
set_option maxHeartbeats 1000000 in
theorem isLast_c (H : List UInt8) (HS : ByteArray) (hH : HS = bs H) (a1 a3 a7 a8 a9 a12 a13 a14 : Int) (s4 s5 s10 : ByteArray) (p2 p6 p11 : Option Addr) (n2 c2 n6 c6 n11 c11 : Nat) (w : World) :
    Calls Tryz.prog 75 #[.agg #[.string HS, .int .i64 a1, .slice p2 n2 c2, .int .i64 a3, .string s4, .string s5, .slice p6 n6 c6, .int .i64 a7, .int .i64 a8, .int .i64 a9, .string s10, .slice p11 n11 c11, .int .i64 a12, .int .i64 a13, .int .i64 a14]] w fun e w' => e = .returned (.bool (lastH H)) ∧ Below w.heap.size w w' := by
  rcases lastFacts H HS hH with ⟨d1, d2, d3⟩ | ⟨d1, d2, d3, d4, d5⟩
  · rw [d3]
    clear d3 hH
    go_enter Tryz.func75, Tryz.ntmps75
    go_wp2_with fail
    go_ret
    exact ⟨rfl, below1 _ _⟩
  · cases hl : lastH H with
    | true =>
      rw [hl] at d3
      have d6 := d4 hl
      clear d4 d5 hH hl
      go_enter Tryz.func75, Tryz.ntmps75
      go_wp2_with fail
      go_ret
      exact ⟨ret_bool (by simp [d6]), below1 _ _⟩
    | false =>
      rw [hl] at d3
      have d6 := d5 hl
      clear d4 d5 hH hl
      go_enter Tryz.func75, Tryz.ntmps75
      go_wp2_with fail
      go_ret
      exact ⟨ret_bool (by simp [d6]), below1 _ _⟩
theorem readInstr_c (s : ByteArray) (hs : s.size ≤ 1048576) (w : World) :
    Calls Tryz.prog 71 #[.string s] w fun e w' => RiPost s.data.toList e ∧ Below w.heap.size w w' := by
  cases hp : parse s.data.toList with
  | none => exact readInstr_none s hs hp w
  | some t =>
    match t, hp with
    | .atom a, hp => exact readInstr_atom s hs a hp w
    | .list [], hp => exact absurd rfl (parse_got hp).1.1
    | .list (h :: ts), hp => exact readInstr_list s hs h ts hp w
set_option maxHeartbeats 1000000 in
theorem implInstrValid_c (s : ByteArray) (hs : s.size ≤ 1048576) (w : World) :
    Calls Tryz.prog 31 #[.string s] w fun e w' => e = .returned (.bool (insOf s.data.toList)) ∧ Below w.heap.size w w' := by
  have C := Lib.hid (readInstr_c s hs)
  unfold RiPost at C
  generalize insOf s.data.toList = R at *
  go_enter Tryz.func31, Tryz.ntmps31
  go_wp2_with (go_at_call 71; go_must (refine (C.out _).mono ?_; rintro e w1 ⟨⟨a1, a3, a7, a8, a9, a12, a13, a14, HS, s4, s5, s10, p2, p6, p11, n2, c2, n6, c6, n11, c11, rfl, -⟩, hb1⟩))
  go_ret
  exact ⟨rfl, hb1.alloc hb1.size _⟩
theorem lastOf_none {l : List UInt8} (h : insOf l = false) : lastOf l = false := by
  unfold lastOf insOf at *
  cases hp : parse l with
  | none => rfl
  | some t => simp only [hp] at h ⊢; rw [h]; rfl
theorem lastOf_some {l : List UInt8} {t : Tr} (hp : parse l = some t) (h : insOf l = true) : lastOf l = lastH (hdT t) := by
  unfold lastOf insOf at *
  simp only [hp] at h ⊢
  rw [h]; rfl
set_option maxHeartbeats 1000000 in
theorem implInstrLast_c (s : ByteArray) (hs : s.size ≤ 1048576) (w : World) :
    Calls Tryz.prog 35 #[.string s] w fun e w' => e = .returned (.bool (lastOf s.data.toList)) ∧ Below w.heap.size w w' := by
  have C := Lib.hid (readInstr_c s hs)
  unfold RiPost at C
  cases hI : insOf s.data.toList with
  | false =>
    rw [lastOf_none hI]
    rw [hI] at C
    clear hI
    go_enter Tryz.func35, Tryz.ntmps35
    go_wp2_with (go_at_call 71; go_must (refine (C.out _).mono ?_; rintro e w1 ⟨⟨a1, a3, a7, a8, a9, a12, a13, a14, HS, s4, s5, s10, p2, p6, p11, n2, c2, n6, c6, n11, c11, rfl, -⟩, hb1⟩))
    go_ret
    exact ⟨ret_bool (by simp), hb1.alloc hb1.size _⟩
  | true =>
    cases hp : parse s.data.toList with
    | none => simp [insOf, hp] at hI
    | some t =>
      rw [lastOf_some hp hI]
      have C2 : Hid (∀ W, Calls Tryz.prog 71 #[.string s] W fun e w' => (∃ (a1 a3 a7 a8 a9 a12 a13 a14 : Int) (HS s4 s5 s10 : ByteArray) (p2 p6 p11 : Option Addr) (n2 c2 n6 c6 n11 c11 : Nat), e = .returned (.tuple #[.agg #[.string HS, .int .i64 a1, .slice p2 n2 c2, .int .i64 a3, .string s4, .string s5, .slice p6 n6 c6, .int .i64 a7, .int .i64 a8, .int .i64 a9, .string s10, .slice p11 n11 c11, .int .i64 a12, .int .i64 a13, .int .i64 a14], .bool true]) ∧ HS = bs (hdT t)) ∧ Below W.heap.size W w') := Lib.hid (fun W => (C.out W).mono fun e w' ⟨⟨a1, a3, a7, a8, a9, a12, a13, a14, HS, s4, s5, s10, p2, p6, p11, n2, c2, n6, c6, n11, c11, h1, h2⟩, h3⟩ => ⟨by
        rw [hI] at h1
        obtain ⟨t', h4, h5⟩ := h2 hI
        rw [hp] at h4
        injection h4 with h4
        subst h4
        exact ⟨a1, a3, a7, a8, a9, a12, a13, a14, HS, s4, s5, s10, p2, p6, p11, n2, c2, n6, c6, n11, c11, h1, h5⟩, h3⟩)
      clear C hI
      generalize hdT t = H at *
      clear hp
      have CL := Lib.hid (isLast_c H)
      generalize lastH H = R at *
      go_enter Tryz.func35, Tryz.ntmps35
      go_wp2_with (first | (go_at_call 71; go_must (refine (C2.out _).mono ?_; rintro e w1 ⟨⟨a1, a3, a7, a8, a9, a12, a13, a14, HS, s4, s5, s10, p2, p6, p11, n2, c2, n6, c6, n11, c11, rfl, hHS⟩, hb1⟩; have HH := Lib.hid hHS; clear hHS)) | (go_at_call 75; go_must (refine (CL.out HS HH.out _ _ _ _ _ _ _ _ _ _ _ _ _ _ _ _ _ _ _ _ _).mono ?_; rintro e w2 ⟨rfl, hb2⟩)))
      go_ret
      exact ⟨ret_bool (by simp), (hb1.alloc hb1.size _).trans (hb2.mono (by have := hb1.size; simp; omega))⟩
set_option maxHeartbeats 1000000 in
theorem specInstrLast_c (s : ByteArray) (hs : s.size ≤ 1048576) (w : World) :
    Calls Tryz.prog 37 #[.string s] w fun e w' => e = .returned (.bool (lastOf s.data.toList)) ∧ Below w.heap.size w w' := by
  cases hp : parse s.data.toList with
  | none =>
    have C := Lib.hid (l1Parse_none hs hp)
    have HR := Lib.hid (show lastOf s.data.toList = false by simp [lastOf, hp])
    rw [HR.out]
    clear hp
    go_enter Tryz.func37, Tryz.ntmps37
    go_wp2_with (go_at_call 65; go_must (refine (C.out _).mono ?_; rintro e w1 ⟨⟨a, p, n, c, rfl, hn⟩, hb1⟩))
    go_ret
    exact ⟨ret_bool (by simp), hb1.alloc hb1.size _⟩
  | some t =>
    have hg := parse_got hp
    have C := Lib.hid (l1Parse_some hs hp)
    have CI : Hid (∀ (w1 W : World) p n c, FV nS w1 (fun k => w.heap.size ≤ k ∧ k < w1.heap.size) t (nS t (.slice p n c)) → Below w1.heap.size w1 W → Calls Tryz.prog 72 #[.agg #[.string (bs (atomOf t)), .slice p n c]] W fun e w' => e = .returned (.bool (insF t)) ∧ Below W.heap.size W w') := Lib.hid (fun w1 W p n c hv hW => l6tInstr_t t p n c _ W hg.1 hg.2.1 hg.2.2.1 (hv.below hW (fun k hk => hk.2)) (fun k hk => Nat.lt_of_lt_of_le hk.2 hW.size))
    have HR := Lib.hid (show lastOf s.data.toList = (insF t && lastH (hdT t)) by simp [lastOf, hp])
    rw [HR.out]
    clear hp hg HR
    cases hi : insF t with
    | false =>
      rw [hi] at CI
      clear hi
      go_enter Tryz.func37, Tryz.ntmps37
      go_wp2_with (first | (go_at_call 65; go_must (refine (C.out _).mono ?_; rintro e w1 ⟨⟨p, n, c, rfl, hv⟩, hb1⟩)) | (go_at_call 72; go_must (refine (CI.out _ _ _ _ _ hv (below1 _ _)).mono ?_; rintro e w2 ⟨rfl, hb2⟩)))
      go_ret
      exact ⟨ret_bool (by simp), (hb1.alloc hb1.size _).trans (hb2.mono (by have := hb1.size; simp; omega))⟩
    | true =>
      rw [hi] at CI
      have HD : Hid (∀ (w1 : World) p n c, FV nS w1 (fun k => w.heap.size ≤ k ∧ k < w1.heap.size) t (nS t (.slice p n c)) → ∃ r off, p = some ⟨r, off, none⟩ ∧ (w.heap.size ≤ r ∧ r < w1.heap.size) ∧ 1 ≤ n ∧ n ≤ c ∧ c ≤ maxLen ∧ w1.cell? ⟨r, off, none⟩ = some (.string (bs (hdT t)))) := Lib.hid (fun w1 p n c hv => hd_cell hi hv)
      clear hi
      obtain ⟨HS, hHS⟩ : ∃ HS, HS = bs (hdT t) := ⟨_, rfl⟩
      rw [← hHS] at HD
      obtain ⟨A, hA⟩ : ∃ A, A = bs (atomOf t) := ⟨_, rfl⟩
      rw [← hA] at C CI
      have hlf := lastFacts (hdT t) HS hHS
      generalize lastH (hdT t) = R at *
      clear hHS hA
      rcases hlf with ⟨d1, d2, d3⟩ | ⟨d1, d2, d3, d4, d5⟩
      · subst d3
        go_enter Tryz.func37, Tryz.ntmps37
        go_wp2_with (first | (go_at_call 65; go_must (refine (C.out _).mono ?_; rintro e w1 ⟨⟨p, n, c, rfl, hv⟩, hb1⟩; have x1 := heap_alloc_new w1 (.cells #[.string A, .slice p n c] 62))) | (go_at_call 72; go_must (refine (CI.out _ _ _ _ _ hv (below1 _ _)).mono ?_; rintro e w2 ⟨rfl, hb2⟩; obtain ⟨r, off, rfl, hr, hn1, hnc, hcm, e0⟩ := HD.out _ _ _ _ hv; have X1 := below_blk hb2 (by simp) x1; have g0 := cell_of (j := 0) X1; have g1 := cell_of (j := 1) X1; have hm := maxLen_le hcm; have hb12 := (below1 w1 (.cells #[.string A, .slice (some ⟨r, off, none⟩) n c] 62)).trans (hb2.mono (by simp)); have e2 : w2.cell? ⟨r, off, none⟩ = some (.string HS) := (hb12.cell (p := ⟨r, off, none⟩) hr.2).trans e0)))
        go_ret
        exact ⟨ret_bool (by simp), (hb1.alloc hb1.size _).trans (hb2.mono (by have := hb1.size; simp; omega))⟩
      · cases R with
        | true =>
          have d6 := d4 rfl
          clear d4 d5
          go_enter Tryz.func37, Tryz.ntmps37
          go_wp2_with (first | (go_at_call 65; go_must (refine (C.out _).mono ?_; rintro e w1 ⟨⟨p, n, c, rfl, hv⟩, hb1⟩; have x1 := heap_alloc_new w1 (.cells #[.string A, .slice p n c] 62))) | (go_at_call 72; go_must (refine (CI.out _ _ _ _ _ hv (below1 _ _)).mono ?_; rintro e w2 ⟨rfl, hb2⟩; obtain ⟨r, off, rfl, hr, hn1, hnc, hcm, e0⟩ := HD.out _ _ _ _ hv; have X1 := below_blk hb2 (by simp) x1; have g0 := cell_of (j := 0) X1; have g1 := cell_of (j := 1) X1; have hm := maxLen_le hcm; have hb12 := (below1 w1 (.cells #[.string A, .slice (some ⟨r, off, none⟩) n c] 62)).trans (hb2.mono (by simp)); have e2 : w2.cell? ⟨r, off, none⟩ = some (.string HS) := (hb12.cell (p := ⟨r, off, none⟩) hr.2).trans e0)))
          go_ret
          exact ⟨ret_bool (by simp [d6]), (hb1.alloc hb1.size _).trans (hb2.mono (by have := hb1.size; simp; omega))⟩
        | false =>
          have d6 := d5 rfl
          clear d4 d5
          go_enter Tryz.func37, Tryz.ntmps37
          go_wp2_with (first | (go_at_call 65; go_must (refine (C.out _).mono ?_; rintro e w1 ⟨⟨p, n, c, rfl, hv⟩, hb1⟩; have x1 := heap_alloc_new w1 (.cells #[.string A, .slice p n c] 62))) | (go_at_call 72; go_must (refine (CI.out _ _ _ _ _ hv (below1 _ _)).mono ?_; rintro e w2 ⟨rfl, hb2⟩; obtain ⟨r, off, rfl, hr, hn1, hnc, hcm, e0⟩ := HD.out _ _ _ _ hv; have X1 := below_blk hb2 (by simp) x1; have g0 := cell_of (j := 0) X1; have g1 := cell_of (j := 1) X1; have hm := maxLen_le hcm; have hb12 := (below1 w1 (.cells #[.string A, .slice (some ⟨r, off, none⟩) n c] 62)).trans (hb2.mono (by simp)); have e2 : w2.cell? ⟨r, off, none⟩ = some (.string HS) := (hb12.cell (p := ⟨r, off, none⟩) hr.2).trans e0)))
          go_ret
          exact ⟨ret_bool (by simp [d6]), (hb1.alloc hb1.size _).trans (hb2.mono (by have := hb1.size; simp; omega))⟩
end Go.Proofs.YtfknoigbkleanaaGreatDoor
