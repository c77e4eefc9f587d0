/- General laws of chapter 1: what is made is taken apart; atoms have no depth. -/
import Derived.Test.YtpmlpmdgmapilaaLawU3
import Derived.Test.YtpmlpmdgmapilaaImpl1m
namespace Go.Proofs.Ytpmlpmdgmapilaa
open Go.RowKit
set_option maxRecDepth 8000
set_option linter.unusedSimpArgs false
set_option linter.unusedVariables false
theorem makeT_got {c : UInt8} (hc : c = 62 ∨ c = 42) {la lb : List UInt8} {T : Tr} (h : makeT c la lb = some T) : sidesOf [c] T.text = some (la, lb) ∧ (∀ d, d ≠ c → sidesOf [d] T.text = none) ∧ T.text.length ≤ 1000 := by
  cases ra : readTy la with
  | none => rw [makeT_left lb ra] at h; cases h
  | some ta =>
    cases rb : readTy lb with
    | none => rw [makeT_right la rb] at h; cases h
    | some tb =>
      rw [makeT_some ra rb] at h
      split at h
      · rename_i hs
        simp only [Option.some.injEq] at h
        subst h
        obtain ⟨a1, a2, a3, a4, a5, a6⟩ := readTy_got ra
        obtain ⟨b1, b2, b3, b4, b5, b6⟩ := readTy_got rb
        have hm := readTy_made hc ra rb
        rw [if_pos hs] at hm
        have hT : (Tr.list [.atom [c], ta, tb]).text = 40 :: c :: 32 :: (la ++ 32 :: (lb ++ [41])) := by rw [made_text, a4, b4]
        rw [hT]
        refine ⟨?_, fun d hd => ?_, ?_⟩
        · rw [sides_yes [c] hm rfl, a4, b4]
        · exact sides_no [d] hm (by simpa [atomOf] using fun e => hd e.symm)
        · rw [← hT]
          exact Nat.le_trans (ty_text_len (made_ty hc a5 b5) (by simp only [Tr.size, sizes]; omega)) (by decide)
      · cases h
theorem depth_none {l : List UInt8} (h : parse l = none) : depthOfText l = -1 := by simp [depthOfText, h]
theorem partsOf_none {l : List UInt8} (h : parse l = none) : partsOf l = none := by simp [partsOf, h]
set_option maxHeartbeats 4000000 in
theorem walk_FnTypeMake (a : Option Addr) (L c : Nat) (zs : List Int) (w : World) (hr : BRow w a L c zs) :
    Calls Try.prog 14 #[.slice a L c] w fun e w' => e = .returned (.bool true) ∧ Below w.heap.size w w' := by
  by_cases h0 : L ≤ 1048576
  · have hd0 : decide (1048576 < (L : Int)) = false := by simp; omega
    have C := Lib.hid (drawTypeMake_c a L c zs w hr)
    clear hr
    go_enter Try.func14, Try.ntmps14
    go_wp2_with fail
    refine (C.out).mono ?_
    rintro e w1 ⟨⟨z, s, t, rfl, hs, ht⟩, hb1⟩
    have HB := Lib.hid hb1
    clear hb1 C
    obtain ⟨la, rfl⟩ := as_bs s
    obtain ⟨lb, rfl⟩ := as_bs t
    rw [bs_size] at hs ht
    cases z
    · have CV : Hid (∀ W : World, Calls Try.prog 46 #[.bool false, .string (bs la), .string (bs lb)] W fun e w' => MakePost (makeT 42 la lb) e ∧ Below W.heap.size W w') := Lib.hid (fun W => by have h := implTypeMake_c false (bs la) (bs lb) (by rw [bs_size]; omega) (by rw [bs_size]; omega) W; rw [bs_data, bs_data] at h; exact h)
      have CW : Hid (∀ W : World, Calls Try.prog 52 #[.bool false, .string (bs la), .string (bs lb)] W fun e w' => MakePost (makeT 42 la lb) e ∧ Below W.heap.size W w') := Lib.hid (fun W => by have h := specTypeMake_c false (bs la) (bs lb) (by rw [bs_size]; omega) (by rw [bs_size]; omega) W; rw [bs_data, bs_data] at h; exact h)
      cases hm : makeT 42 la lb with
      | none =>
        rw [hm] at CV CW
        simp only [MakePost] at CV CW
        clear hm
        go_wp2_with (first | (go_at_call 46; go_must (refine (CV.out _).mono ?_; rintro e wn ⟨rfl, hbn⟩; have HB := Lib.hid ((nextB (firstB HB.out) hbn).1); clear hbn)) | (go_at_call 52; go_must (refine (CW.out _).mono ?_; rintro e wn ⟨rfl, hbn⟩; have HB := Lib.hid ((nextB (firstB HB.out) hbn).1); clear hbn)))
        go_ret
        exact ⟨rfl, HB.out⟩
      | some T =>
        rw [hm] at CV CW
        simp only [MakePost] at CV CW
        obtain ⟨g1, g2, g3⟩ := makeT_got (by decide) hm
        have CO : Hid (∀ W : World, Calls Try.prog 42 #[.string (bs T.text)] W fun e w' => e = .returned (.tuple #[.string (bs la), .string (bs lb), .bool true]) ∧ Below W.heap.size W w') := Lib.hid (fun W => by have h := implTypePair_c (bs T.text) (by rw [bs_size]; omega) W; rw [bs_data, g1] at h; exact h)
        have CN : Hid (∀ W : World, Calls Try.prog 41 #[.string (bs T.text)] W fun e w' => e = .returned (.tuple #[.string (bs []), .string (bs []), .bool false]) ∧ Below W.heap.size W w') := Lib.hid (fun W => by have h := implTypeFun_c (bs T.text) (by rw [bs_size]; omega) W; rw [bs_data, g2 62 (by decide)] at h; exact h)
        clear hm g1 g2 g3
        generalize bs T.text = sT at *
        generalize bs la = sa at *
        generalize bs lb = sb at *
        go_wp2_with (first | (go_at_call 46; go_must (refine (CV.out _).mono ?_; rintro e wn ⟨rfl, hbn⟩; have HB := Lib.hid ((nextB (firstB HB.out) hbn).1); clear hbn)) | (go_at_call 52; go_must (refine (CW.out _).mono ?_; rintro e wn ⟨rfl, hbn⟩; have HB := Lib.hid ((nextB (firstB HB.out) hbn).1); clear hbn)) | (go_at_call 42; go_must (refine (CO.out _).mono ?_; rintro e wn ⟨rfl, hbn⟩; have HB := Lib.hid ((nextB (firstB HB.out) hbn).1); clear hbn)) | (go_at_call 41; go_must (refine (CN.out _).mono ?_; rintro e wn ⟨rfl, hbn⟩; have HB := Lib.hid ((nextB (firstB HB.out) hbn).1); clear hbn)))
        go_ret
        exact ⟨rfl, HB.out⟩
    · have CV : Hid (∀ W : World, Calls Try.prog 46 #[.bool true, .string (bs la), .string (bs lb)] W fun e w' => MakePost (makeT 62 la lb) e ∧ Below W.heap.size W w') := Lib.hid (fun W => by have h := implTypeMake_c true (bs la) (bs lb) (by rw [bs_size]; omega) (by rw [bs_size]; omega) W; rw [bs_data, bs_data] at h; exact h)
      have CW : Hid (∀ W : World, Calls Try.prog 52 #[.bool true, .string (bs la), .string (bs lb)] W fun e w' => MakePost (makeT 62 la lb) e ∧ Below W.heap.size W w') := Lib.hid (fun W => by have h := specTypeMake_c true (bs la) (bs lb) (by rw [bs_size]; omega) (by rw [bs_size]; omega) W; rw [bs_data, bs_data] at h; exact h)
      cases hm : makeT 62 la lb with
      | none =>
        rw [hm] at CV CW
        simp only [MakePost] at CV CW
        clear hm
        go_wp2_with (first | (go_at_call 46; go_must (refine (CV.out _).mono ?_; rintro e wn ⟨rfl, hbn⟩; have HB := Lib.hid ((nextB (firstB HB.out) hbn).1); clear hbn)) | (go_at_call 52; go_must (refine (CW.out _).mono ?_; rintro e wn ⟨rfl, hbn⟩; have HB := Lib.hid ((nextB (firstB HB.out) hbn).1); clear hbn)))
        go_ret
        exact ⟨rfl, HB.out⟩
      | some T =>
        rw [hm] at CV CW
        simp only [MakePost] at CV CW
        obtain ⟨g1, g2, g3⟩ := makeT_got (by decide) hm
        have CO : Hid (∀ W : World, Calls Try.prog 41 #[.string (bs T.text)] W fun e w' => e = .returned (.tuple #[.string (bs la), .string (bs lb), .bool true]) ∧ Below W.heap.size W w') := Lib.hid (fun W => by have h := implTypeFun_c (bs T.text) (by rw [bs_size]; omega) W; rw [bs_data, g1] at h; exact h)
        have CN : Hid (∀ W : World, Calls Try.prog 42 #[.string (bs T.text)] W fun e w' => e = .returned (.tuple #[.string (bs []), .string (bs []), .bool false]) ∧ Below W.heap.size W w') := Lib.hid (fun W => by have h := implTypePair_c (bs T.text) (by rw [bs_size]; omega) W; rw [bs_data, g2 42 (by decide)] at h; exact h)
        clear hm g1 g2 g3
        generalize bs T.text = sT at *
        generalize bs la = sa at *
        generalize bs lb = sb at *
        go_wp2_with (first | (go_at_call 46; go_must (refine (CV.out _).mono ?_; rintro e wn ⟨rfl, hbn⟩; have HB := Lib.hid ((nextB (firstB HB.out) hbn).1); clear hbn)) | (go_at_call 52; go_must (refine (CW.out _).mono ?_; rintro e wn ⟨rfl, hbn⟩; have HB := Lib.hid ((nextB (firstB HB.out) hbn).1); clear hbn)) | (go_at_call 41; go_must (refine (CO.out _).mono ?_; rintro e wn ⟨rfl, hbn⟩; have HB := Lib.hid ((nextB (firstB HB.out) hbn).1); clear hbn)) | (go_at_call 42; go_must (refine (CN.out _).mono ?_; rintro e wn ⟨rfl, hbn⟩; have HB := Lib.hid ((nextB (firstB HB.out) hbn).1); clear hbn)))
        go_ret
        exact ⟨rfl, HB.out⟩
  · have hd0 : decide (1048576 < (L : Int)) = true := by simp; omega
    have hm0 : L ≤ 9223372036854775807 := hr.bound
    go_enter Try.func14, Try.ntmps14
    go_wp2_with fail
    go_ret
    exact ⟨rfl, Below.refl _ _⟩
set_option maxHeartbeats 4000000 in
theorem walk_FnDepth (a : Option Addr) (L c : Nat) (zs : List Int) (w : World) (hr : BRow w a L c zs) :
    Calls Try.prog 7 #[.slice a L c] w fun e w' => e = .returned (.bool true) ∧ Below w.heap.size w w' := by
  by_cases h0 : L ≤ 1048576
  · have hd0 : decide (1048576 < (L : Int)) = false := by simp; omega
    have C := Lib.hid (drawFormDepth_c a L c zs w hr)
    clear hr
    go_enter Try.func7, Try.ntmps7
    go_wp2_with fail
    refine (C.out).mono ?_
    rintro e w1 ⟨⟨s, rfl, hs⟩, hb1⟩
    have HB := Lib.hid hb1
    clear hb1 C
    obtain ⟨l, rfl⟩ := as_bs s
    rw [bs_size] at hs
    have CV : Hid (∀ W : World, Calls Try.prog 19 #[.string (bs l)] W fun e w' => e = .returned (.int .i64 (depthOfText l)) ∧ Below W.heap.size W w') := Lib.hid (fun W => by have h := implFormDepth_c (bs l) (by rw [bs_size]; omega) W; rw [bs_data] at h; exact h)
    have CW : Hid (∀ W : World, Calls Try.prog 31 #[.string (bs l)] W fun e w' => e = .returned (.int .i64 (depthOfText l)) ∧ Below W.heap.size W w') := Lib.hid (fun W => by have h := specFormDepth_c (bs l) (by rw [bs_size]; omega) W; rw [bs_data] at h; exact h)
    cases hp : parse l with
    | none =>
      rw [depth_none hp] at CV CW
      clear hp
      go_wp2_with (first | (go_at_call 19; go_must (refine (CV.out _).mono ?_; rintro e wn ⟨rfl, hbn⟩; have HB := Lib.hid ((nextB (firstB HB.out) hbn).1); clear hbn)) | (go_at_call 31; go_must (refine (CW.out _).mono ?_; rintro e wn ⟨rfl, hbn⟩; have HB := Lib.hid ((nextB (firstB HB.out) hbn).1); clear hbn)))
      go_ret
      exact ⟨rfl, HB.out⟩
    | some t =>
      rw [depth_of_parse hp] at CV CW
      have hg := parse_got hp
      have hlen : (partsOf l).isSome = !decide (t.depth = 0) := by
        cases t with
        | atom a => simp [partsOf, hp, Tr.depth]
        | list ts =>
          have hne := hg.1.1
          have h0 : ¬ depths ts = 0 := by
            cases ts with
            | nil => exact absurd rfl hne
            | cons u us => simp only [depths]; omega
          simp [partsOf, hp, Tr.depth, h0]
      have CP : Hid (∀ W : World, Calls Try.prog 22 #[.string (bs l)] W fun e w' => (∃ p n c, e = .returned (.tuple #[.slice p n c, .bool (!decide (t.depth = 0))])) ∧ Below W.heap.size W w') := Lib.hid (fun W => by
        have h := implFormParts_c (bs l) (by rw [bs_size]; omega) W
        rw [bs_data] at h
        refine h.mono fun e w' ⟨h1, h2⟩ => ⟨?_, h2⟩
        obtain ⟨p, c, h3⟩ := parts_len h1
        rw [hlen] at h3
        exact ⟨_, _, _, h3⟩)
      have hmk : makeOf [l] = listOf [t] := makeOf_some (by simp [partsOK, hp])
      have CM : Hid (∀ (W : World) v, StrS W v [l] → Calls Try.prog 25 #[v] W fun e w' => MakePost (listOf [t]) e ∧ Below W.heap.size W w') := Lib.hid (fun W v hv => by
        have h := implFormMake_c v [l] (by simp [lens]; omega) W hv
        rw [hmk] at h; exact h)
      have hS : Hid (∀ W : World, StrS (W.alloc (.cells #[.string (bs l)] 9)) (.slice (some ⟨W.heap.size, 0, none⟩) 1 1) [l]) := Lib.hid (fun W => str_new (l := [l]) (by simp))
      have hlist : listOf [t] = none ∨ ∃ T, listOf [t] = some T ∧ T.text.length ≤ 12000 ∧ depthOfText T.text = (t.depth : Int) + 1 := by
        unfold listOf
        split
        · rename_i h
          obtain ⟨h1, h2, h3⟩ := h
          have hw : (Tr.list [t]).wf := by simp only [Tr.wf, wfs]; exact ⟨by simp, hg.1, trivial⟩
          refine .inr ⟨_, rfl, ?_, ?_⟩
          · have := text_length _ hw; omega
          · rw [depth_of_parse (parse_text hw h2 h3)]; simp only [Tr.depth, depths]; omega
        · exact .inl rfl
      have f0 : ¬ (t.depth : Int) < 0 := by omega
      have hdep : t.depth ≤ 60 := hg.2.2.1
      have hd9 : decide ((t.depth : Int) = 0) = decide (t.depth = 0) := by simp
      generalize bs l = sl at *
      clear hp hmk hlen hg
      rcases hlist with hn | ⟨T, hT, hTl, hTd⟩
      · rw [hn] at CM
        simp only [MakePost] at CM
        clear hn
        by_cases hz : t.depth = 0
        · rw [decide_eq_true hz] at CP
          rw [hz] at CV CW f0
          rw [show ((0 : Nat) : Int) = 0 from rfl] at CV CW f0
          clear hd9 hz
          go_wp2_with (first | (go_at_call_of 19 (sl); go_must (refine (CV.out _).mono ?_; rintro e wn ⟨rfl, hbn⟩; have HB := Lib.hid ((nextB (firstB HB.out) hbn).1); clear hbn)) | (go_at_call 31; go_must (refine (CW.out _).mono ?_; rintro e wn ⟨rfl, hbn⟩; have HB := Lib.hid ((nextB (firstB HB.out) hbn).1); clear hbn)) | (go_at_call 22; go_must (refine (CP.out _).mono ?_; rintro e wn ⟨⟨p4, n4, c4, rfl⟩, hbn⟩; have HB := Lib.hid ((nextB (firstB HB.out) hbn).1); clear hbn)) | (go_at_call 25; go_must (refine (CM.out _ _ (hS.out _)).mono ?_; rintro e wn ⟨rfl, hbn⟩; have HB := Lib.hid ((nextB (nextB (firstB HB.out) (below1 _ _)) hbn).1); clear hbn)))
          go_ret
          exact ⟨rfl, HB.out⟩
        · rw [decide_eq_false hz] at CP
          have f1 : ¬ (t.depth : Int) = 0 := by omega
          have f2 : ((t.depth : Int) == 0) = false := by simpa using hz
          clear hd9 hz
          generalize (t.depth : Int) = z at *
          go_wp2_with (first | (go_at_call_of 19 (sl); go_must (refine (CV.out _).mono ?_; rintro e wn ⟨rfl, hbn⟩; have HB := Lib.hid ((nextB (firstB HB.out) hbn).1); clear hbn)) | (go_at_call 31; go_must (refine (CW.out _).mono ?_; rintro e wn ⟨rfl, hbn⟩; have HB := Lib.hid ((nextB (firstB HB.out) hbn).1); clear hbn)) | (go_at_call 22; go_must (refine (CP.out _).mono ?_; rintro e wn ⟨⟨p4, n4, c4, rfl⟩, hbn⟩; have HB := Lib.hid ((nextB (firstB HB.out) hbn).1); clear hbn)) | (go_at_call 25; go_must (refine (CM.out _ _ (hS.out _)).mono ?_; rintro e wn ⟨rfl, hbn⟩; have HB := Lib.hid ((nextB (nextB (firstB HB.out) (below1 _ _)) hbn).1); clear hbn)))
          go_ret
          exact ⟨rfl, HB.out⟩
      · rw [hT] at CM
        simp only [MakePost] at CM
        have CD : Hid (∀ W : World, Calls Try.prog 19 #[.string (bs T.text)] W fun e w' => e = .returned (.int .i64 ((t.depth : Int) + 1)) ∧ Below W.heap.size W w') := Lib.hid (fun W => by have h := implFormDepth_c (bs T.text) (by rw [bs_size]; omega) W; rw [bs_data, hTd] at h; exact h)
        clear hT hTl hTd
        generalize bs T.text = sT at *
        by_cases hz : t.depth = 0
        · rw [decide_eq_true hz] at CP
          rw [hz] at CV CW f0 CD
          rw [show ((0 : Nat) : Int) = 0 from rfl] at CV CW f0 CD
          clear hd9 hz
          go_wp2_with (first | (go_at_call_of 19 (sT); go_must (refine (CD.out _).mono ?_; rintro e wn ⟨rfl, hbn⟩; have HB := Lib.hid ((nextB (firstB HB.out) hbn).1); clear hbn)) | (go_at_call_of 19 (sl); go_must (refine (CV.out _).mono ?_; rintro e wn ⟨rfl, hbn⟩; have HB := Lib.hid ((nextB (firstB HB.out) hbn).1); clear hbn)) | (go_at_call 31; go_must (refine (CW.out _).mono ?_; rintro e wn ⟨rfl, hbn⟩; have HB := Lib.hid ((nextB (firstB HB.out) hbn).1); clear hbn)) | (go_at_call 22; go_must (refine (CP.out _).mono ?_; rintro e wn ⟨⟨p4, n4, c4, rfl⟩, hbn⟩; have HB := Lib.hid ((nextB (firstB HB.out) hbn).1); clear hbn)) | (go_at_call 25; go_must (refine (CM.out _ _ (hS.out _)).mono ?_; rintro e wn ⟨rfl, hbn⟩; have HB := Lib.hid ((nextB (nextB (firstB HB.out) (below1 _ _)) hbn).1); clear hbn)))
          go_ret
          exact ⟨rfl, HB.out⟩
        · rw [decide_eq_false hz] at CP
          have f1 : ¬ (t.depth : Int) = 0 := by omega
          have f2 : ((t.depth : Int) == 0) = false := by simpa using hz
          have hb9 : (t.depth : Int) ≤ 100 := by have := hdep; omega
          clear hd9 hz
          generalize (t.depth : Int) = z at *
          go_wp2_with (first | (go_at_call_of 19 (sT); go_must (refine (CD.out _).mono ?_; rintro e wn ⟨rfl, hbn⟩; have HB := Lib.hid ((nextB (firstB HB.out) hbn).1); clear hbn)) | (go_at_call_of 19 (sl); go_must (refine (CV.out _).mono ?_; rintro e wn ⟨rfl, hbn⟩; have HB := Lib.hid ((nextB (firstB HB.out) hbn).1); clear hbn)) | (go_at_call 31; go_must (refine (CW.out _).mono ?_; rintro e wn ⟨rfl, hbn⟩; have HB := Lib.hid ((nextB (firstB HB.out) hbn).1); clear hbn)) | (go_at_call 22; go_must (refine (CP.out _).mono ?_; rintro e wn ⟨⟨p4, n4, c4, rfl⟩, hbn⟩; have HB := Lib.hid ((nextB (firstB HB.out) hbn).1); clear hbn)) | (go_at_call 25; go_must (refine (CM.out _ _ (hS.out _)).mono ?_; rintro e wn ⟨rfl, hbn⟩; have HB := Lib.hid ((nextB (nextB (firstB HB.out) (below1 _ _)) hbn).1); clear hbn)))
          go_ret
          exact ⟨rfl, HB.out⟩
  · have hd0 : decide (1048576 < (L : Int)) = true := by simp; omega
    have hm0 : L ≤ 9223372036854775807 := hr.bound
    go_enter Try.func7, Try.ntmps7
    go_wp2_with fail
    go_ret
    exact ⟨rfl, Below.refl _ _⟩
end Go.Proofs.Ytpmlpmdgmapilaa
