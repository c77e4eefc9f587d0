/- General laws of chapter 1: a form is read back. -/
import Derived.Test.YtpmlpmdgmapilaaLawU6
import Derived.Test.YtpmlpmdgmapilaaS1z
namespace Go.Proofs.Ytpmlpmdgmapilaa
open Go.RowKit
set_option maxRecDepth 8000
set_option linter.unusedSimpArgs false
set_option linter.unusedVariables false
set_option maxHeartbeats 1000000 in
theorem l6Open_low (a : Option Addr) (L c : Nat) (zs : List Int) (w : World) (hr : BRow w a L c zs) :
    Calls Try.prog 54 #[.slice a L c] w fun e w' => e = .returned (.pointer (some ⟨w.heap.size, 0, none⟩)) ∧ (∃ L' c', Rd w' w.heap.size a L' c' 0 zs ∧ (L' = 0 ∨ ∀ x, a = some x → x.block < w.heap.size)) ∧ Below w.heap.size w w' := by
  rcases hr with rfl | h2
  · go_enter Try.func54, Try.ntmps54
    go_wp2_with fail
    go_ret
    exact ⟨rfl, ⟨0, _, ⟨heap_alloc_new _ _, .inl rfl, .inl rfl, by omega⟩, .inl rfl⟩, below1 _ _⟩
  · exact (l6Open_c a L c zs w (.inr h2)).mono fun e w' ⟨h3, ⟨L', c', h4⟩, h5⟩ => ⟨h3, ⟨L', c', h4, .inr (fun x hx => by obtain ⟨b, off, rfl, h6, _⟩ := h2; cases hx; exact h6)⟩, h5⟩
theorem Rd.moved {w w' : World} {q : Nat} {a : Option Addr} {L c p : Nat} {zs : List Int} (h : Rd w q a L c p zs) (hlow : L = 0 ∨ ∀ x, a = some x → x.block < q) (hs : w.heap.size ≤ w'.heap.size) (hb : ∀ k, k ≤ q → w'.heap[k]? = w.heap[k]?) : Rd w' q a L c p zs := by
  refine ⟨?_, ?_, h.ne, h.len⟩
  · unfold RdD; rw [hb q (Nat.le_refl _)]; exact h.blk
  · rcases hlow with rfl | hl
    · exact .inl rfl
    · rcases h.row with h0 | ⟨b, off, rfl, h1, h2, h3, h4, h5, h6⟩
      · exact .inl h0
      · have hbq : b < q := hl _ rfl
        exact .inr ⟨b, off, rfl, Nat.lt_of_lt_of_le h1 hs, h2, h3, h4, fun i hi => by rw [World.cell?_of_block (w := w) (w' := w') (a := ⟨b, off + i, none⟩) (hb b (Nat.le_of_lt hbq))]; exact h5 i hi, h6⟩
theorem Only.grownBy {b : Nat} {w w' : World} (h : Only b w w') : w.grownBy w' (some b) := ⟨h.os, h.tape, h.output, h.size, fun k hk hne => h.block k hk (fun e => hne (by rw [e]))⟩
theorem owns_only {w w' : World} {b base e : Nat} {size : Nat} {v : Value} {n : Nat} {xs : List Value} (h : w.ownsRow base e size v n xs) (ho : Only b w w') (hb : b < base) : w'.ownsRow base e size v n xs := World.ownsRow.kept h ho.grownBy (.inr (owns_lt h hb))
theorem owns_set1 {w : World} {base e g n c : Nat} {xs : List Value} (ho : w.ownsRow base e 1 (.slice (some ⟨g, 0, none⟩) n c) n xs) (k : Nat) (u : Value) : (w.setCell ⟨g, k, none⟩ u).ownsRow base e 1 (.slice (some ⟨g, 0, none⟩) n c) n (xs.set k u) := by
  refine ⟨by simpa using ho.1, ?_⟩
  rcases ho.2 with ⟨h, _⟩ | ⟨g2, cap, cur, h, h0, h3, h1, h2, h4, h5⟩
  · cases h
  · simp only [Value.slice.injEq, Option.some.injEq, Addr.mk.injEq, and_true, true_and] at h
    obtain ⟨rfl, rfl⟩ := h
    refine .inr ⟨g, c, cur.setIfInBounds k u, rfl, h0, blk_set h3 u, h1, h2, by simpa using h4, ?_⟩
    rw [← h5]
    simp [List.take_set]
theorem lens_le {N : Nat} : ∀ l : List Nm, (∀ x ∈ l, x.length ≤ N) → lens l ≤ l.length * N
  | [], _ => by simp [lens]
  | x :: l, h => by
    have h1 := h x (by simp)
    have h2 := lens_le l (fun y hy => h y (by simp [hy]))
    simp only [lens, List.length_cons, Nat.add_mul, Nat.one_mul]; omega
set_option maxHeartbeats 4000000 in
theorem drawFormMake_c (a : Option Addr) (L c : Nat) (zs : List Int) (w : World) (hr : BRow w a L c zs) : Calls Try.prog 26 #[.slice a L c] w fun e w' => (∃ (v : Value) (l : List Nm), e = .returned v ∧ StrS w' v l ∧ l.length ≤ 4 ∧ (∀ x ∈ l, x.length ≤ 2000)) ∧ Below w.heap.size w w' := by
  have CO := Lib.hid (l6Open_low a L c zs w hr)
  obtain ⟨i0, hi0, hz0, hz1, hz2⟩ := info_parts Try.infoStr
  clear hr
  go_enter Try.func26, Try.ntmps26
  go_wp2_with fail
  refine (CO.out).mono ?_
  rintro e w1 ⟨rfl, ⟨L', c', hR1, hlow⟩, hb1⟩
  have HB1 := Lib.hid hb1
  have HLOW := Lib.hid hlow
  have hq1 := lt_of_block hR1.blk
  have C := Lib.hid (pick_d (n := 4) (hR1.below (below1 w1 (.cells #[] 9))) (by omega) (by omega))
  have X0 := heap_alloc_new w1 (.cells #[] 9)
  clear hb1 hR1 hlow
  go_wp2_with fail
  refine (C.out).mono ?_
  rintro e w2 ⟨⟨n, rfl, hn0, hn1⟩, hR2, ho2⟩
  obtain ⟨n', rfl⟩ : ∃ n' : Nat, n = (n' : Int) := ⟨n.toNat, by omega⟩
  have hn4 : n' < 4 := by omega
  have X2 := ho2.blk X0 (by omega)
  have HB2 := Lib.hid (Only.fresh (HB1.out.alloc HB1.out.size (.cells #[] 9)) ho2 (Nat.le_refl _) (by simp; exact Nat.le_trans HB1.out.size (Nat.le_succ _)))
  have HR2 := Lib.hid hR2
  have hq2 := lt_of_block X2
  clear X0 hR2 ho2 C
  go_wp2_with fail
  go_loopg [4, 6] n' (fun z v i wr => ∃ (k p9 : Nat) (l : List Nm), z + k = n' ∧ i = .int .i64 k ∧ l.length = k ∧ Hid (∀ x ∈ l, x.length ≤ 2000) ∧ p9 ≤ 1 + k * 160 ∧ Hid (wr.ownsRow (w.heap.size + 1) 9 1 v k (l.map strV)) ∧ Hid (Rd wr w.heap.size a L' c' p9 zs) ∧ Hid (Below w.heap.size w wr) ∧ w.heap.size + 1 < wr.heap.size)
  case atStart => exact ⟨0, 0 + 1, [], by omega, rfl, rfl, Lib.hid (fun x hx => by cases hx), by omega, Lib.hid ⟨rfl, .inr ⟨w1.heap.size, 0, _, rfl, by omega, X2, Nat.le_refl _, Nat.zero_le _, rfl, rfl⟩⟩, HR2, HB2, by omega⟩
  case round =>
    obtain ⟨k, p9, l, hz, rfl, hlk, hsm, hp9, ho, hR, hB, hsz⟩ := hrel
    obtain ⟨vp, vc, rfl⟩ := owns_slice ho.out
    by_cases hlt : k < n'
    · have hltI : (k : Int) < (n' : Int) := by omega
      have C4 : Hid (Calls Try.prog 64 #[.pointer (some ⟨w.heap.size, 0, none⟩), .int .i64 2] wr fun e w' => DrPost w.heap.size a L' c' p9 zs 160 160 wr e w') := Lib.hid (l91Form_d 2 p9 wr hR.out (by decide) (by omega))
      go_wp2_with (first | (go_at_call 64; go_must (refine C4.out.mono ?_; rintro e w5 ⟨s5, p5, rfl, h6, h7, hR5, ho5⟩; have HO5 := Lib.hid ho5; have HR5 := Lib.hid hR5; have hs5 := ho5.size; clear ho5 hR5)) | (at_builtin; go_must (refine wpList_append_one _ rfl _ _ 25 rfl (w.heap.size + 1) 9 i0 (.string ⟨#[]⟩) 1 16 Try.underlying25 hi0 hz0 hz1 hz2 rfl (by decide) _ _ _ rfl ((owns_only ho.out HO5.out (by omega)).alloc _) ⟨w5.heap.size, 0, none⟩ [.string s5] rfl rfl (news_at (heap_alloc_new _ _)) (by intro u hu; simp at hu; subst hu; rfl) (by unfold maxLen; omega) (by omega) (by simp; omega) ?_; intro g' c' w6 hown' hgrow hgg)))
      have hgs := hgrow.size
      have hB5 := Only.fresh hB.out HO5.out (Nat.le_refl _) (by omega)
      have hrow := fun q (hq : (Value.slice vp k vc).ownBlock = some q) => (ho.out.lt q hq).1
      go_roundg (gk - 1)
      case measure => omega
      case rel =>
        obtain ⟨l5, hl5⟩ := as_bs s5
        refine ⟨k + 1, p5, l ++ [l5], by omega, by go_num, by simp [hlk], Lib.hid (fun x hx => ?_), by omega, Lib.hid ?_, Lib.hid ?_, Lib.hid ?_, by simp at hgs; omega⟩
        · rcases List.mem_append.1 hx with h | h
          · exact hsm.out x h
          · simp only [List.mem_singleton] at h; subst h; rw [hl5, bs_size] at h6; omega
        · rw [List.map_append]; rw [hl5] at hown'; exact hown'
        · exact Rd.moved (HR5.out.below (below1 w5 _)) HLOW.out hgs (fun q hq => hgrow.block q (by simp; omega) (fun e => by have := hrow q e.symm; omega))
        · exact (hB5.alloc (by omega) _).grown hgrow (by simp; omega) (fun q hq => by have := hrow q hq; omega)
    · have hkn : k = n' := by omega
      subst hkn
      have hltI : ¬ (k : Int) < (k : Int) := by omega
      by_cases hk0 : k = 0
      · subst hk0
        have hS := owns_strU (l := l) (by rw [hlk]; exact ho.out) (by omega)
        have HS := Lib.hid hS
        go_wp2_with fail
        go_ret
        first
          | exact ⟨⟨_, l, rfl, HS.out, by omega, hsm.out⟩, hB.out⟩
          | exact ⟨⟨_, rfl, l, HS.out, by omega, hsm.out⟩, hB.out⟩
      · have hpos : (k : Int) > 0 := by omega
        have CP := Lib.hid (pick_d (n := 12) hR.out (by omega) (by omega))
        go_wp2_with fail
        refine (CP.out).mono ?_
        rintro e w7 ⟨⟨j, rfl, hj0, hj1⟩, hR7, ho7⟩
        have hO7 := Lib.hid (owns_only ho.out ho7 (by omega))
        have hB7 := Lib.hid (Only.fresh hB.out ho7 (Nat.le_refl _) (by omega))
        have hs7 := ho7.size
        have HR7 := Lib.hid hR7
        clear hR7 ho7
        by_cases hj : j = 0
        · subst hj
          have CM1 : Hid (∀ W : World, Calls Try.prog 66 #[.string ⟨#[40]⟩, .int .i64 60] W fun e w' => (∃ r : ByteArray, e = .returned (.string r) ∧ r.size ≤ 60) ∧ w' = W) := Lib.hid (fun W => l6Many_c ⟨#[40]⟩ 60 60 W (by decide) (by decide) (by decide) (by decide))
          have CM2 : Hid (∀ W : World, Calls Try.prog 66 #[.string ⟨#[41]⟩, .int .i64 60] W fun e w' => (∃ r : ByteArray, e = .returned (.string r) ∧ r.size ≤ 60) ∧ w' = W) := Lib.hid (fun W => l6Many_c ⟨#[41]⟩ 60 60 W (by decide) (by decide) (by decide) (by decide))
          go_wp2_with fail
          refine (CM1.out _).mono ?_
          rintro e w8 ⟨⟨r8, rfl, hr8⟩, rfl⟩
          go_wp2_with fail
          refine (CM2.out _).mono ?_
          rintro e w9 ⟨⟨r9, rfl, hr9⟩, rfl⟩
          obtain ⟨l8, hl8⟩ := as_bs (r8 ++ ⟨#[97]⟩ ++ r9)
          have hsz8 : (r8 ++ ⟨#[97]⟩ ++ r9).size ≤ 200 := by have e : (r8 ++ ⟨#[97]⟩ ++ r9).size = r8.size + 1 + r9.size := by (simp; rfl)
                                                             omega
          have C1 := Lib.hid (of_new (l := [[], [97, 32, 98], [40], l8]) (N := 200) HR7.out (by omega) (by simp) (by simp) (fun x hx => by
            rw [hl8, bs_size] at hsz8
            simp only [List.mem_cons, List.not_mem_nil, or_false] at hx
            rcases hx with rfl | rfl | rfl | rfl
            · decide
            · decide
            · decide
            · exact hsz8))
          go_wp2_with fail
          refine (C1.out).mono ?_
          rintro e w10 ⟨s10, p10, rfl, h10, h11, hR10, ho10⟩
          obtain ⟨l10, rfl⟩ := as_bs s10
          have hO10 := owns_only hO7.out ho10 (by omega)
          have hB10 := Only.fresh hB7.out ho10 (Nat.le_refl _) (by omega)
          obtain ⟨g, cap, cur, hv, hg0, hcur, h1, h2, h3, h4⟩ := hO10.2.resolve_left (fun h => hk0 h.2)
          simp only [Value.slice.injEq] at hv
          obtain ⟨rfl, -, rfl⟩ := hv
          have hO11 := owns_set1 hO10 0 (.string (bs l10))
          have hsz10 := ho10.size
          have e0 : cur[0]? = some (cur[0]'(by omega)) := Array.getElem?_eq_getElem (by omega)
          obtain ⟨d0, hd0⟩ : ∃ d, cur[0]? = some d := ⟨_, e0⟩
          have c0 : w10.cell? ⟨g, 0, none⟩ = some d0 := (cell_of (j := 0) hcur).trans hd0
          have f0 := free_of (j := 0) hcur
          have hlt0 : (0 : Int) < (k : Int) := by omega
          have HF : Hid (StrS (w10.setCell ⟨g, 0, none⟩ (.string (bs l10))) (.slice (some ⟨g, 0, none⟩) k vc) (l.set 0 l10)) := Lib.hid (by
            have e : (l.map strV).set 0 (.string (bs l10)) = (l.set 0 l10).map strV := by rw [List.map_set]; rfl
            rw [e] at hO11
            have hl2 : (l.set 0 l10).length = k := by simp [hlk]
            have := owns_strU (l := l.set 0 l10) (by rw [hl2]; exact hO11) (by omega)
            exact this)
          have HBF := Lib.hid (hB10.setCell (p := ⟨g, 0, none⟩) (show w.heap.size ≤ g by omega) (.string (bs l10)))
          have HSM : Hid (∀ x ∈ l.set 0 l10, x.length ≤ 2000) := Lib.hid (fun x hx => by
            rcases List.mem_or_eq_of_mem_set hx with h | h
            · exact hsm.out x h
            · subst h; rw [bs_size] at h10; omega)
          clear hO11 hO10 hB10 h4 e0 hd0 hR10 ho10
          go_wp2_with fail
          go_ret
          exact ⟨⟨_, l.set 0 l10, rfl, HF.out, by simp [hlk]; omega, HSM.out⟩, HBF.out⟩
        · have e0 : (j == 0) = false := by simpa using hj
          have hS := owns_strU (l := l) (by rw [hlk]; exact hO7.out) (by omega)
          have HS := Lib.hid hS
          go_wp2_with fail
          go_ret
          exact ⟨⟨_, l, rfl, HS.out, by omega, hsm.out⟩, hB7.out⟩
theorem partsOK_map : ∀ (l : List Nm) (ts : List Tr), partsOK l = some ts → ts.map Tr.text = l
  | [], ts, h => by simp only [partsOK, Option.some.injEq] at h; subst h; rfl
  | x :: l, ts, h => by
    obtain ⟨t, ts', h1, h2, rfl⟩ := partsOK_cons.1 h
    rw [List.map_cons, partsOK_map l ts' h2, ← (parse_got h1).2.2.2]
theorem makeOf_got {l : List Nm} {T : Tr} (h : makeOf l = some T) : parse T.text = some T ∧ partsOf T.text = some l := by
  cases hp : partsOK l with
  | none => rw [makeOf_none hp] at h; cases h
  | some ts =>
    rw [makeOf_some hp, listOf] at h
    split at h
    · rename_i hb
      simp only [Option.some.injEq] at h
      subst h
      have hw : (Tr.list ts).wf := ⟨hb.1, (partsOK_got l ts hp).1⟩
      have h1 := parse_text hw hb.2.1 hb.2.2
      exact ⟨h1, by simp only [partsOf, h1]; rw [partsOK_map l ts hp]⟩
    · cases h
set_option maxHeartbeats 4000000 in
theorem walk_FnMakeForm (a : Option Addr) (L c : Nat) (zs : List Int) (w : World) (hr : BRow w a L c zs) :
    Calls Try.prog 5 #[.slice a L c] w fun e w' => e = .returned (.bool true) ∧ Below w.heap.size w w' := by
  by_cases h0 : L ≤ 1048576
  · have hd0 : decide (1048576 < (L : Int)) = false := by simp; omega
    have C := Lib.hid (drawFormMake_c a L c zs w hr)
    clear hr
    go_enter Try.func5, Try.ntmps5
    go_wp2_with fail
    refine (C.out).mono ?_
    rintro e w1 ⟨⟨s, l, rfl, hS, hl, hsm⟩, hb1⟩
    have HB := Lib.hid hb1
    clear hb1 C
    have hlens := lens_le l hsm
    have hbound : l.length + lens l ≤ 1048576 := by
      have : l.length * 2000 ≤ 4 * 2000 := Nat.mul_le_mul_right _ hl
      omega
    have HS1 := Lib.hid hS
    have CV : Hid (∀ (W : World) v, StrS W v l → Calls Try.prog 25 #[v] W fun e w' => MakePost (makeOf l) e ∧ Below W.heap.size W w') := Lib.hid (fun W v hv => implFormMake_c v l hbound W hv)
    have CW : Hid (∀ (W : World) v, StrS W v l → Calls Try.prog 27 #[v] W fun e w' => MakePost (makeOf l) e ∧ Below W.heap.size W w') := Lib.hid (fun W v hv => specFormMake_c v l hbound W hv)
    obtain ⟨p0, c0, rfl, hl63, -⟩ := id hS
    clear hS
    cases hm : makeOf l with
    | none =>
      rw [hm] at CV CW
      simp only [MakePost] at CV CW
      clear hm
      go_wp2_with (first | (go_at_call 25; go_must (refine (CV.out _ _ HS1.out).mono ?_; rintro e wn ⟨rfl, hbn⟩; have HB := Lib.hid ((nextB (firstB HB.out) hbn).1); have HS1 := Lib.hid (HS1.out.below hbn); clear hbn)) | (go_at_call 27; go_must (refine (CW.out _ _ HS1.out).mono ?_; rintro e wn ⟨rfl, hbn⟩; have HB := Lib.hid ((nextB (firstB HB.out) hbn).1); have HS1 := Lib.hid (HS1.out.below hbn); clear hbn)))
      go_ret
      exact ⟨rfl, HB.out⟩
    | some T =>
      rw [hm] at CV CW
      simp only [MakePost] at CV CW
      obtain ⟨g1, g2⟩ := makeOf_got hm
      have hTl := (parse_some g1).1
      have CP : Hid (∀ W : World, Calls Try.prog 22 #[.string (bs T.text)] W fun e w' => (∃ p c, e = .returned (.tuple #[.slice p l.length c, .bool true]) ∧ StrS w' (.slice p l.length c) l) ∧ Below W.heap.size W w') := Lib.hid (fun W => parts_call (W := W) (ps := l) (z := true) (by rw [g2]; rfl) (by rw [g2]; rfl) (by omega) (by have h := implFormParts_c (bs T.text) (by rw [bs_size]; omega) W; rw [bs_data] at h; exact h))
      have CVal : Hid (∀ W : World, Calls Try.prog 16 #[.string (bs T.text)] W fun e w' => e = .returned (.bool true) ∧ Below W.heap.size W w') := Lib.hid (fun W => by have h := implFormValid_c (bs T.text) (by rw [bs_size]; omega) W; rw [bs_data, g1] at h; exact h)
      clear hm g1 g2 hTl hsm hlens hbound
      generalize bs T.text = sT at *
      go_wp2_with (first | (go_at_call 25; go_must (refine (CV.out _ _ HS1.out).mono ?_; rintro e wn ⟨rfl, hbn⟩; have HB := Lib.hid ((nextB (firstB HB.out) hbn).1); have HS1 := Lib.hid (HS1.out.below hbn); clear hbn)) | (go_at_call 27; go_must (refine (CW.out _ _ HS1.out).mono ?_; rintro e wn ⟨rfl, hbn⟩; have HB := Lib.hid ((nextB (firstB HB.out) hbn).1); have HS1 := Lib.hid (HS1.out.below hbn); clear hbn)) | (go_at_call 22; go_must (refine (CP.out _).mono ?_; rintro e wn ⟨⟨p5, c5, rfl, hS5⟩, hbn⟩; have HB := Lib.hid ((nextB (firstB HB.out) hbn).1); have HS1 := Lib.hid (HS1.out.below hbn); have HS2 := Lib.hid hS5; clear hbn hS5)) | (go_at_call 24; go_must (refine (same_call HS2.out HS1.out).mono ?_; rintro e wn ⟨rfl, m7, rfl⟩; have HB := Lib.hid ((nextB (firstB HB.out) (below_drewU _ m7)).1))) | (go_at_call 16; go_must (refine (CVal.out _).mono ?_; rintro e wn ⟨rfl, hbn⟩; have HB := Lib.hid ((nextB (firstB HB.out) hbn).1); clear hbn)))
      go_ret
      exact ⟨rfl, HB.out⟩
  · have hd0 : decide (1048576 < (L : Int)) = true := by simp; omega
    have hm0 : L ≤ 9223372036854775807 := hr.bound
    go_enter Try.func5, Try.ntmps5
    go_wp2_with fail
    go_ret
    exact ⟨rfl, Below.refl _ _⟩
end Go.Proofs.Ytpmlpmdgmapilaa
