/- The reference model's TargetBack; the walk of its exact law. -/
import Derived.Test.YtaoicbmepliklaaTgt
import Derived.Test.YtaoicbmepliklaaLawTa
namespace Go.Proofs.Ytaoicbmepliklaa
open Go.RowKit
set_option maxRecDepth 8000
set_option linter.unusedSimpArgs false
set_option linter.unusedVariables false
theorem readTy_txT {t : Tr} (h : isTy t = true) (hw : t.wf) (hs : t.size ≤ 16) : readTy t.text = some t := by
  have hg := isTy_small _ t (Nat.le_refl _) h
  have hp := parse_text hw (by omega) (by omega)
  rw [readTy_some hp, h, Bool.true_and, if_pos (by simpa using hs)]
theorem tback_none {l : List UInt8} {f : Tr} (hp : parse l = some f) (h : ∀ t, isTy t = true → tOf t = f → t.wf → t.size ≤ 16 → False) : tbackT l = none := by
  have hg := parse_got hp
  unfold tbackT
  rw [hp]
  simp only
  cases hq : src 61 f with
  | none => rfl
  | some t =>
    obtain ⟨h1, h2⟩ := (src_iff 61 f t (by omega)).1 hq
    have hw := (src_fits (by omega) hq).1
    exact if_neg (fun h16 => h t h1 h2 hw h16)
theorem tback_some {l : List UInt8} {f x : Tr} (hp : parse l = some f) (hx : isTy x = true) (hs : x.size ≤ 16) (hf : tOf x = f) : tbackT l = some x.text := by
  have hg := parse_got hp
  rw [tbackT, hp]
  simp only [(src_iff 61 f x (by omega)).2 ⟨hx, hf⟩, if_pos hs]
set_option maxHeartbeats 4000000 in
theorem specTargetBack_c (s : ByteArray) (hs : s.size ≤ 1048576) (w : World) :
    Calls Try.prog 17 #[.string s] w fun e w' => TxtP (tbackT s.data.toList) e ∧ Below w.heap.size w w' := by
  cases hp : parse s.data.toList with
  | none =>
    have C := Lib.hid (l1Parse_none hs hp)
    have HR := Lib.hid (show tbackT s.data.toList = none by simp [tbackT, hp])
    rw [HR.out]
    clear hp
    go_enter Try.func17, Try.ntmps17
    go_wp2_with (go_at_call 27; go_must (refine (C.out _).mono ?_; rintro e w1 ⟨⟨a, p, n, c, rfl, hn⟩, hb1⟩))
    go_ret2
    exact ⟨rfl, hb1.alloc hb1.size _⟩
  | some f =>
    have C := Lib.hid (l1Parse_some hs hp)
    have hg := parse_got hp
    have CT : Hid (∀ (W : World) (p : Option Addr) (n c : Nat), FV nS W (fun k => k < W.heap.size) f (nS f (.slice p n c)) → Calls Try.prog 28 #[.agg #[.string (bs (atomOf f)), .slice p n c], .bool false, .bool false] W fun e w' => e = .returned (.bool (tgt noU false f)) ∧ Below W.heap.size W w') :=
      Lib.hid (fun W p n c k1 => l6tType_c noU false (unkC_no _) 61 false f (nS f (.slice p n c)) (fun k => k < W.heap.size) W (by omega) hg.1 hg.2.1 k1 (fun k hk => hk))
    cases ht : tgt noU false f with
    | false =>
      have HR := Lib.hid (show tbackT s.data.toList = none from tback_none hp (fun t h1 h2 _ _ => by
        have := tOf_tgt t noU false h1
        rw [h2, ht] at this; cases this))
      rw [HR.out]
      rw [ht] at CT
      clear hp hg ht
      go_enter Try.func17, Try.ntmps17
      go_wp2_with (first | (go_at_call 27; go_must (refine (C.out _).mono ?_; rintro e w1 ⟨⟨p, n, c, rfl, hv⟩, hb1⟩)) | (go_at_call 28; go_must (refine (CT.out _ _ _ _ (FV.move (fun k hk => by have := hk.2; simp; omega) (fun k hk => heap_alloc_old _ _ hk.2) _ _ hv)).mono ?_; rintro e w2 ⟨rfl, hb2⟩)))
      go_ret2
      exact ⟨rfl, (hb1.alloc hb1.size _).trans (hb2.mono (Nat.le_trans hb1.size (by simp)))⟩
    | true =>
      rw [ht] at CT
      have CB : Hid (∀ (W : World) (p : Option Addr) (n c : Nat), FV nS W (fun k => k < W.heap.size) f (nS f (.slice p n c)) → Calls Try.prog 37 #[.agg #[.string (bs (atomOf f)), .slice p n c]] W fun e w' => (∃ s, e = .returned (.string s) ∧ BkP f s) ∧ Below W.heap.size W w') :=
        Lib.hid (fun W p n c k1 => l6tBack_all 61 false f p n c _ W (by omega) hg.1 hg.2.1 ht k1 (fun k hk => hk))
      obtain ⟨R, hRR⟩ : ∃ R, R = tbackT s.data.toList := ⟨_, rfl⟩
      rw [← hRR]
      have HRR := Lib.hid hRR
      clear hRR
      have HP := Lib.hid hp
      have HG := Lib.hid hg
      clear hp hg ht
      go_enter Try.func17, Try.ntmps17
      go_wp2_with (first | (go_at_call 27; go_must (refine (C.out _).mono ?_; rintro e w1 ⟨⟨p, n, c, rfl, hv⟩, hb1⟩)) | (go_at_call 28; go_must (refine (CT.out _ _ _ _ (FV.move (fun k hk => by have := hk.2; simp; omega) (fun k hk => heap_alloc_old _ _ hk.2) _ _ hv)).mono ?_; rintro e w2 ⟨rfl, hb2⟩; have y2 := below_blk hb2 (by simp) (heap_alloc_new w1 _); have q0 := cell_of (j := 0) y2; have q1 := cell_of (j := 1) y2; have hs2 := hb2.size; have hB2 := (hb1.alloc hb1.size _).trans (hb2.mono (Nat.le_trans hb1.size (by simp))))) | (go_at_call 37; go_must (refine (CB.out _ _ _ _ (FV.move (fun k hk => by have := hk.2; simp at hs2; omega) (fun k hk => (hb2.block k (by have := hk.2; simp; omega)).trans (heap_alloc_old _ _ hk.2)) _ _ hv)).mono ?_; rintro e w3 ⟨⟨so, rfl, hso⟩, hb3⟩; have hB3 := hB2.trans (hb3.mono hB2.size); have HSO := Lib.hid hso; clear hso)))
      obtain ⟨lo, rfl, hl1, hl2⟩ := HSO.out
      have hl3 : (bs lo).size ≤ 1048576 := by rw [bs_size]; have := HG.out.2.1; omega
      have CV := Lib.hid (specTypeValid_c (bs lo) hl3)
      rw [bs_data] at CV
      have HL2 := Lib.hid hl2
      cases hr : readTy lo with
      | none =>
        have hRn : R = none := HRR.out.trans (tback_none HP.out (fun t h1 h2 h3 h4 => by
          have := readTy_txT h1 h3 h4
          rw [← HL2.out t h1 h2, hr] at this; cases this))
        subst hRn
        rw [hr] at CV
        clear hr hl2
        go_wp2_with (go_at_call 30; go_must (refine (CV.out _).mono ?_; rintro e w4 ⟨rfl, hb4⟩))
        go_ret2
        exact ⟨rfl, hB3.trans (hb4.mono hB3.size)⟩
      | some x =>
        rw [hr] at CV
        have hgx := readTy_got hr
        have CS := Lib.hid (l6tSource_c (bs lo) hl3 x (by rw [bs_data]; exact hr))
        by_cases hq : (tOf x).text = s.data.toList
        · have hf : tOf x = f := by
            have h1 := (tof_facts hr).1
            rw [hq, HP.out] at h1
            exact (Option.some.inj h1).symm
          have hRn : R = some lo := HRR.out.trans (by rw [tback_some HP.out hgx.2.2.2.2.1 hgx.2.2.2.2.2 hf, hgx.2.2.2.1])
          have e1 : bs (tOf x).text = s := (bs_ext hq.symm).symm
          rw [e1] at CS
          subst hRn
          clear hr hl2 hgx hq hf e1
          go_wp2_with (first | (go_at_call 30; go_must (refine (CV.out _).mono ?_; rintro e w4 ⟨rfl, hb4⟩; have hB4 := hB3.trans (hb4.mono hB3.size))) | (go_at_call 31; go_must (refine (CS.out _).mono ?_; rintro e w5 ⟨rfl, hb5⟩)))
          go_ret2
          exact ⟨rfl, hB4.trans (hb5.mono hB4.size)⟩
        · have hRn : R = none := HRR.out.trans (tback_none HP.out (fun t h1 h2 h3 h4 => by
            have h5 := readTy_txT h1 h3 h4
            rw [← HL2.out t h1 h2, hr] at h5
            simp only [Option.some.injEq] at h5
            rw [h5, h2] at hq
            exact hq (HG.out.2.2.2).symm))
          have e2 : ((bs (tOf x).text).toList == s.toList) = false := by
            have e3 : s.toList = s.data.toList := (congrArg ByteArray.toList (bs_ext rfl : s = bs s.data.toList)).trans (bs_toList _)
            rw [bs_toList, e3]
            simpa using hq
          subst hRn
          clear hr hl2 hgx hq
          generalize bs (tOf x).text = X at *
          go_wp2_with (first | (go_at_call 30; go_must (refine (CV.out _).mono ?_; rintro e w4 ⟨rfl, hb4⟩; have hB4 := hB3.trans (hb4.mono hB3.size))) | (go_at_call 31; go_must (refine (CS.out _).mono ?_; rintro e w5 ⟨rfl, hb5⟩)))
          go_ret2
          exact ⟨rfl, hB4.trans (hb5.mono hB4.size)⟩
set_option maxHeartbeats 1000000 in
theorem walk_FnExactTargetBack (a0 : ByteArray) (w0 : a0.size ≤ maxLen) (w : World) :
    Calls Try.prog 6 #[.string a0] w fun e w' => e = .returned (.bool true) ∧ Below w.heap.size w w' := by
  by_cases hs : a0.size ≤ 1048576
  · have hd : decide (1048576 < (a0.size : Int)) = false := by simp; omega
    obtain ⟨x, hx⟩ : ∃ x, x = bs ((tbackT a0.data.toList).getD []) := ⟨_, rfl⟩
    obtain ⟨z, hz⟩ : ∃ z, z = (tbackT a0.data.toList).isSome := ⟨_, rfl⟩
    have C1 : Hid (∀ W, Calls Try.prog 17 #[.string a0] W fun e w' => e = .returned (.tuple #[.string x, .bool z]) ∧ Below W.heap.size W w') := Lib.hid (fun W => (specTargetBack_c a0 hs W).mono fun e w' ⟨h1, h2⟩ => ⟨by rw [hx, hz]; exact h1, h2⟩)
    have C2 : Hid (∀ W, Calls Try.prog 18 #[.string a0] W fun e w' => e = .returned (.tuple #[.string x, .bool z]) ∧ Below W.heap.size W w') := Lib.hid (fun W => (implTargetBack_c a0 hs W).mono fun e w' ⟨h1, h2⟩ => ⟨by rw [hx, hz]; exact h1, h2⟩)
    clear hx hz
    go_enter Try.func6, Try.ntmps6
    go_wp2_with (first | (go_at_call 17; go_must (refine (C1.out _).mono ?_; rintro e w1 ⟨rfl, hb1⟩)) | (go_at_call 18; go_must (refine (C2.out _).mono ?_; rintro e w2 ⟨rfl, hb2⟩)))
    go_ret
    exact ⟨rfl, hb1.trans (hb2.mono hb1.size)⟩
  · have hd : decide (1048576 < (a0.size : Int)) = true := by simp; omega
    have hm := maxLen_le w0
    go_enter Try.func6, Try.ntmps6
    go_wp2_with fail
    go_ret
    exact ⟨rfl, Below.refl _ _⟩
end Go.Proofs.Ytaoicbmepliklaa
