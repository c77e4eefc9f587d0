/- The reference model's target types of types; the walks of the exact laws on TargetOf and TargetNext. -/
import Derived.Test.YtaoicbmepliklaaTgc
namespace Go.Proofs.Ytaoicbmepliklaa
open Go.RowKit
set_option maxRecDepth 8000
set_option linter.unusedSimpArgs false
set_option linter.unusedVariables false
theorem bytesT3 (A B : List UInt8) : (⟨#[40, 116, 32]⟩ ++ bs A ++ ⟨#[32]⟩ ++ bs B ++ ⟨#[41]⟩ : ByteArray) = bs (40 :: 116 :: 32 :: (A ++ 32 :: (B ++ [41]))) := bs_ext (by simp [bs])
theorem bytes_n (A : List UInt8) : (⟨#[40, 101, 32, 40, 116, 32, 40, 99, 32, 118, 32]⟩ ++ bs A ++ ⟨#[41, 32, 118, 41, 41]⟩ : ByteArray) = bs (pkText A) := bs_ext (by simp [bs, pkText])
theorem bytes_f (A B : List UInt8) : (⟨#[40, 101, 32, 40, 116, 32, 40, 99, 32, 118, 32]⟩ ++ bs A ++ ⟨#[32]⟩ ++ bs B ++ ⟨#[41, 32, 118, 41, 41]⟩ : ByteArray) = bs (40 :: 101 :: 32 :: 40 :: 116 :: 32 :: 40 :: 99 :: 32 :: 118 :: 32 :: (A ++ 32 :: (B ++ [41, 32, 118, 41, 41]))) := bs_ext (by simp [bs])
theorem text_pk1 (a : Tr) : (pk [a]).text = pkText a.text := by simp [pk, Tr.text, texts, pkText]
theorem text_pk2 (a b : Tr) : (pk [a, b]).text = 40 :: 101 :: 32 :: 40 :: 116 :: 32 :: 40 :: 99 :: 32 :: 118 :: 32 :: (a.text ++ 32 :: (b.text ++ [41, 32, 118, 41, 41])) := by simp [pk, Tr.text, texts]
theorem text_tup (a b : Tr) : (Tr.list [.atom [116], a, b]).text = 40 :: 116 :: 32 :: (a.text ++ 32 :: (b.text ++ [41])) := by simp [Tr.text, texts]
theorem pkText_length (l : List UInt8) : (pkText l).length = l.length + 16 := by simp [pkText]
set_option maxHeartbeats 1000000 in
theorem l6tNext_c (A : List UInt8) (hA : A.length ≤ 100000) (w : World) : Calls Try.prog 35 #[.string (bs A)] w fun e w' => e = .returned (.string (bs (pkText A))) ∧ w' = w := by
  have hs : (bs A).size ≤ 100000 := by rw [bs_size]; exact hA
  have HB := Lib.hid (bytes_n A)
  generalize bs A = X at *
  go_enter Try.func35, Try.ntmps35
  go_wp2_with fail
  go_ret
  exact ⟨by rw [← HB.out]; rfl, rfl⟩
/-- The contract of l6tOf at types of a depth below n. -/
def L6oC (n : Nat) : Prop := ∀ (t : Tr) (cs : List Value) (ok : Nat → Prop) (w : World), t.depth < n → isTy t = true → t.wf → t.size ≤ 16 → FV nS w ok t cs → (∀ k, ok k → k < w.heap.size) →
    Calls Try.prog 60 #[.agg cs.toArray] w fun e w' => e = .returned (.string (bs (tOf t).text)) ∧ Below w.heap.size w w'
theorem tOf_len (t : Tr) (h : isTy t = true) (hs : t.size ≤ 16) : (tOf t).text.length ≤ 640 := by
  obtain ⟨h1, h2⟩ := tOf_fits t h
  rw [text_length _ h1]; omega
set_option maxHeartbeats 2000000 in
theorem l6tOf_atom (w : World) : Calls Try.prog 60 #[.agg #[.string (bs [105]), .slice none 0 0]] w fun e w' => e = .returned (.string (bs [105])) ∧ Below w.heap.size w w' := by
  have ha := atomne (a := [105]) (by simp)
  have hb : bs [105] = ⟨#[105]⟩ := rfl
  generalize hX : bs [105] = X at *
  go_enter Try.func60, Try.ntmps60
  go_wp2_with fail
  go_ret
  exact ⟨by rw [hb]; rfl, below1 _ _⟩
set_option maxHeartbeats 4000000 in
theorem l6tOf_two (n : Nat) (ih : L6oC n) (x : List UInt8) (hx : x = [62] ∨ x = [42]) (a b : Tr) (cs : List Value) (ok : Nat → Prop) (w : World) (hd : (tyT x a b).depth < n + 1) (hta : isTy a = true) (htb : isTy b = true) (hwf : (tyT x a b).wf) (hsz : (tyT x a b).size ≤ 16) (hv : FV nS w ok (tyT x a b) cs) (hok : ∀ k, ok k → k < w.heap.size) :
    Calls Try.prog 60 #[.agg cs.toArray] w fun e w' => e = .returned (.string (bs (tOf (tyT x a b)).text)) ∧ Below w.heap.size w w' := by
  rw [tyT_size] at hsz
  obtain ⟨r, off, cap, xs, rfl, h2, h3, h4, h5, h6⟩ := hv.list_cells
  have ha := emptyne
  have h4' := maxLen_le h4
  have hrlt := hok r h2
  obtain ⟨⟨p0, n0, q0, v0, r0⟩, ⟨p1, n1, q1, v1, r1⟩, ⟨p2, n2, q2, v2, r2⟩⟩ := FVs.three nS_len h6 h5
  have hdd := depths3 (.atom x) a b
  have e0 : w.cell? ⟨r, off, none⟩ = some (.string (bs x)) := r0 0 _ rfl
  have e1 : w.cell? ⟨r, off + 2, none⟩ = some (.string (bs (atomOf a))) := r1 0 _ rfl
  have e2 : w.cell? ⟨r, off + 2 + 1, none⟩ = some (.slice p1 n1 q1) := r1 1 _ rfl
  have e3 : w.cell? ⟨r, off + 4, none⟩ = some (.string (bs (atomOf b))) := r2 0 _ rfl
  have e4 : w.cell? ⟨r, off + 4 + 1, none⟩ = some (.slice p2 n2 q2) := r2 1 _ rfl
  have hda : a.depth < n := by rw [tyT] at hd; omega
  have hdb : b.depth < n := by rw [tyT] at hd; omega
  obtain ⟨A, hA⟩ : ∃ A, A = (tOf a).text := ⟨_, rfl⟩
  obtain ⟨B, hB⟩ : ∃ B, B = (tOf b).text := ⟨_, rfl⟩
  have hla : (bs A).size ≤ 640 := by rw [bs_size, hA]; exact tOf_len a hta (by omega)
  have hlb : (bs B).size ≤ 640 := by rw [bs_size, hB]; exact tOf_len b htb (by omega)
  have hlb2 : B.length ≤ 100000 := by rw [hB]; have := tOf_len b htb (by omega); omega
  have hlp : (bs (pkText B)).size ≤ 660 := by rw [bs_size, pkText_length]; rw [bs_size] at hlb; omega
  have call1 : Hid (∀ W, Below w.heap.size w W → Calls Try.prog 60 #[.agg #[.string (bs (atomOf a)), .slice p1 n1 q1]] W fun e w' => e = .returned (.string (bs A)) ∧ Below W.heap.size W w') :=
    Lib.hid (fun W hW => by rw [hA]; exact ih a (nS a (.slice p1 n1 q1)) ok W hda hta hwf.2.2.1 (by omega) (v1.below hW hok) (fun j hj => Nat.lt_of_lt_of_le (hok j hj) hW.size))
  have call2 : Hid (∀ W, Below w.heap.size w W → Calls Try.prog 60 #[.agg #[.string (bs (atomOf b)), .slice p2 n2 q2]] W fun e w' => e = .returned (.string (bs B)) ∧ Below W.heap.size W w') :=
    Lib.hid (fun W hW => by rw [hB]; exact ih b (nS b (.slice p2 n2 q2)) ok W hdb htb hwf.2.2.2.1 (by omega) (v2.below hW hok) (fun j hj => Nat.lt_of_lt_of_le (hok j hj) hW.size))
  have CX : Hid (∀ W, Calls Try.prog 35 #[.string (bs B)] W fun e w' => e = .returned (.string (bs (pkText B))) ∧ w' = W) := Lib.hid (fun W => l6tNext_c B hlb2 W)
  have HT : Hid ((tOf (tyT x a b)).text = if x = [42] then 40 :: 116 :: 32 :: (A ++ 32 :: (B ++ [41])) else 40 :: 101 :: 32 :: 40 :: 116 :: 32 :: 40 :: 99 :: 32 :: 118 :: 32 :: (A ++ 32 :: (pkText B ++ [41, 32, 118, 41, 41]))) := Lib.hid (by
    rcases hx with rfl | rfl
    · rw [tOf_fun, text_pk2, text_pk1, if_neg (by decide), hA, hB]
    · rw [tOf_pair, text_tup, if_pos rfl, hA, hB])
  have H3 := Lib.hid (bytesT3 A B)
  have HF := Lib.hid (bytes_f A (pkText B))
  rw [HT.out]
  have s1 : ((bs x).toList == [42]) = (x == [42]) := by rw [bs_toList]
  have hx2 : (x = [42] ∧ (x == [42]) = true) ∨ (¬ x = [42] ∧ (x == [42]) = false) := by rcases hx with rfl | rfl <;> simp
  clear hA hB ih hv h5 h6 r0 r1 r2 v0 v1 v2 hd hdd hwf hsz hta htb hda hdb HT hok
  have hln : (Tr.atom x :: [a, b]).length = 3 := rfl
  rcases hx2 with ⟨hx3, hx4⟩ | ⟨hx3, hx4⟩
  · rw [if_pos hx3, ← H3.out]
    rw [hx4] at s1
    clear hx3 hx4 hx HF CX H3 hlb2 hlp
    generalize bs x = XX at *
    generalize bs A = AA at *
    generalize bs B = BB at *
    go_enter Try.func60, Try.ntmps60
    simp only [nS, atomOf]
    go_wp2_with (go_at_call 60; first | ((with_reducible refine (call1.out _ (below1 _ _)).mono ?_); rintro e w1 ⟨rfl, hb1⟩; have hw1 := (below1 w _).trans (hb1.mono (by simp)); have c1 := below_blk hb1 (by simp) (heap_alloc_new _ _); have d1 := cell_of (j := 1) c1; have g0 := (hw1.cell (p := ⟨r, off, none⟩) hrlt).trans e0; have g3 := (hw1.cell (p := ⟨r, off + 4, none⟩) hrlt).trans e3; have g4 := (hw1.cell (p := ⟨r, off + 4 + 1, none⟩) hrlt).trans e4) | ((with_reducible refine (call2.out _ hw1).mono ?_); rintro e w2 ⟨rfl, hb2⟩; have hw2 := hw1.trans (hb2.mono hw1.size); have c2 := below_blk hb2 (lt_of_block c1) c1; have d2 := cell_of (j := 1) c2; have k0 := (hw2.cell (p := ⟨r, off, none⟩) hrlt).trans e0))
    go_ret
    exact ⟨rfl, hw2⟩
  · rw [if_neg hx3, ← HF.out]
    rw [hx4] at s1
    clear hx3 hx4 hx HF H3
    have CX2 := CX
    generalize bs (pkText B) = PB at *
    generalize bs x = XX at *
    generalize bs A = AA at *
    generalize bs B = BB at *
    go_enter Try.func60, Try.ntmps60
    simp only [nS, atomOf]
    go_wp2_with (first | (go_at_call 60; first | ((with_reducible refine (call1.out _ (below1 _ _)).mono ?_); rintro e w1 ⟨rfl, hb1⟩; have hw1 := (below1 w _).trans (hb1.mono (by simp)); have c1 := below_blk hb1 (by simp) (heap_alloc_new _ _); have d1 := cell_of (j := 1) c1; have g0 := (hw1.cell (p := ⟨r, off, none⟩) hrlt).trans e0; have g3 := (hw1.cell (p := ⟨r, off + 4, none⟩) hrlt).trans e3; have g4 := (hw1.cell (p := ⟨r, off + 4 + 1, none⟩) hrlt).trans e4) | ((with_reducible refine (call2.out _ hw1).mono ?_); rintro e w2 ⟨rfl, hb2⟩; have hw2 := hw1.trans (hb2.mono hw1.size); have c2 := below_blk hb2 (lt_of_block c1) c1; have d2 := cell_of (j := 1) c2; have k0 := (hw2.cell (p := ⟨r, off, none⟩) hrlt).trans e0)) | (go_at_call 35; go_must (refine (CX.out _).mono ?_; rintro e w3 ⟨rfl, rfl⟩)))
    go_ret
    exact ⟨rfl, hw2⟩
theorem l6tOf_all : ∀ n, L6oC n
  | 0 => fun t _ _ _ h => by omega
  | n + 1 => fun t cs ok w hd hty hwf hsz hv hok => by
    rcases isTy_view t hty with rfl | ⟨x, a, b, hx, rfl, ha, hb⟩
    · simp only [FV] at hv
      subst hv
      rw [tOf_atom]
      exact l6tOf_atom w
    · exact l6tOf_two n (l6tOf_all n) x hx a b cs ok w hd ha hb hwf hsz hv hok
set_option maxHeartbeats 1000000 in
theorem l6tSource_c (s : ByteArray) (hs : s.size ≤ 1048576) (t : Tr) (hr : readTy s.data.toList = some t) (w : World) :
    Calls Try.prog 31 #[.string s] w fun e w' => e = .returned (.string (bs (tOf t).text)) ∧ Below w.heap.size w w' := by
  have hg := readTy_got hr
  have hp : parse s.data.toList = some t := by
    unfold readTy at hr
    cases hq : parse s.data.toList with
    | none => simp [hq] at hr
    | some u =>
      simp only [hq] at hr
      split at hr
      · simpa using hr
      · cases hr
  have C := Lib.hid (l1Parse_some hs hp)
  have C2 : Hid (∀ (W : World) (p : Option Addr) (n c : Nat) (ok : Nat → Prop), FV nS W ok t (nS t (.slice p n c)) → (∀ k, ok k → k < W.heap.size) → Calls Try.prog 60 #[.agg #[.string (bs (atomOf t)), .slice p n c]] W fun e w' => e = .returned (.string (bs (tOf t).text)) ∧ Below W.heap.size W w') :=
    Lib.hid (fun W p n c ok k1 k2 => l6tOf_all (t.depth + 1) t _ ok W (by omega) hg.2.2.2.2.1 hg.1 hg.2.2.2.2.2 k1 k2)
  clear hr hg hp
  go_enter Try.func31, Try.ntmps31
  go_wp2_with (first | (go_at_call 27; go_must (refine (C.out _).mono ?_; rintro e w1 ⟨⟨p, n, c, rfl, hv⟩, hb1⟩)) | (go_at_call 60; go_must (refine (C2.out _ _ _ _ (fun k => w.heap.size ≤ k ∧ k < w1.heap.size) (hv.below (below1 _ _) (fun k hk => hk.2)) (fun k hk => by simp; omega)).mono ?_; rintro e w2 ⟨rfl, hb2⟩)))
  go_ret
  exact ⟨rfl, (hb1.alloc hb1.size _).trans (hb2.mono (by have := hb1.size; simp; omega))⟩
set_option maxHeartbeats 1000000 in
theorem specTargetOf_c (s : ByteArray) (hs : s.size ≤ 1048576) (w : World) :
    Calls Try.prog 13 #[.string s] w fun e w' => TxtP (tofT s.data.toList) e ∧ Below w.heap.size w w' := by
  have CV := Lib.hid (specTypeValid_c s hs)
  cases hr : readTy s.data.toList with
  | none =>
    rw [hr] at CV
    have HR := Lib.hid (show tofT s.data.toList = none by simp [tofT, hr])
    rw [HR.out]
    clear hr
    go_enter Try.func13, Try.ntmps13
    go_wp2_with (go_at_call 30; go_must (refine (CV.out _).mono ?_; rintro e w1 ⟨rfl, hb1⟩))
    go_ret2
    exact ⟨rfl, hb1⟩
  | some t =>
    rw [hr] at CV
    have CS := Lib.hid (l6tSource_c s hs t hr)
    have HR := Lib.hid (show tofT s.data.toList = some (tOf t).text by simp [tofT, hr])
    rw [HR.out]
    clear hr
    go_enter Try.func13, Try.ntmps13
    go_wp2_with (first | (go_at_call 30; go_must (refine (CV.out _).mono ?_; rintro e w1 ⟨rfl, hb1⟩)) | (go_at_call 31; go_must (refine (CS.out _).mono ?_; rintro e w2 ⟨rfl, hb2⟩)))
    go_ret2
    exact ⟨rfl, hb1.trans (hb2.mono hb1.size)⟩
set_option maxHeartbeats 1000000 in
theorem specTargetNext_c (s : ByteArray) (hs : s.size ≤ 1048576) (w : World) :
    Calls Try.prog 15 #[.string s] w fun e w' => TxtP (tnextT s.data.toList) e ∧ Below w.heap.size w w' := by
  have CV := Lib.hid (specTypeValid_c s hs)
  cases hr : readTy s.data.toList with
  | none =>
    rw [hr] at CV
    have HR := Lib.hid (show tnextT s.data.toList = none by simp [tnextT, hr])
    rw [HR.out]
    clear hr
    go_enter Try.func15, Try.ntmps15
    go_wp2_with (go_at_call 30; go_must (refine (CV.out _).mono ?_; rintro e w1 ⟨rfl, hb1⟩))
    go_ret2
    exact ⟨rfl, hb1⟩
  | some t =>
    rw [hr] at CV
    have hg := readTy_got hr
    have hl := tOf_len t hg.2.2.2.2.1 hg.2.2.2.2.2
    have CS := Lib.hid (l6tSource_c s hs t hr)
    have CX := Lib.hid (l6tNext_c (tOf t).text (by omega))
    have HR := Lib.hid (show tnextT s.data.toList = some (pkText (tOf t).text) by simp [tnextT, hr, text_pk1])
    rw [HR.out]
    clear hr hg hl
    go_enter Try.func15, Try.ntmps15
    go_wp2_with (first | (go_at_call 30; go_must (refine (CV.out _).mono ?_; rintro e w1 ⟨rfl, hb1⟩)) | (go_at_call 31; go_must (refine (CS.out _).mono ?_; rintro e w2 ⟨rfl, hb2⟩)) | (go_at_call 35; go_must (refine (CX.out _).mono ?_; rintro e w3 ⟨rfl, rfl⟩)))
    go_ret2
    exact ⟨rfl, hb1.trans (hb2.mono hb1.size)⟩
set_option maxHeartbeats 1000000 in
theorem walk_FnExactTargetOf (a0 : ByteArray) (w0 : a0.size ≤ maxLen) (w : World) :
    Calls Try.prog 4 #[.string a0] w fun e w' => e = .returned (.bool true) ∧ Below w.heap.size w w' := by
  by_cases hs : a0.size ≤ 1048576
  · have hd : decide (1048576 < (a0.size : Int)) = false := by simp; omega
    obtain ⟨x, hx⟩ : ∃ x, x = bs ((tofT a0.data.toList).getD []) := ⟨_, rfl⟩
    obtain ⟨z, hz⟩ : ∃ z, z = (tofT a0.data.toList).isSome := ⟨_, rfl⟩
    have C1 : Hid (∀ W, Calls Try.prog 13 #[.string a0] W fun e w' => e = .returned (.tuple #[.string x, .bool z]) ∧ Below W.heap.size W w') := Lib.hid (fun W => (specTargetOf_c a0 hs W).mono fun e w' ⟨h1, h2⟩ => ⟨by rw [hx, hz]; exact h1, h2⟩)
    have C2 : Hid (∀ W, Calls Try.prog 14 #[.string a0] W fun e w' => e = .returned (.tuple #[.string x, .bool z]) ∧ Below W.heap.size W w') := Lib.hid (fun W => (implTargetOf_c a0 hs W).mono fun e w' ⟨h1, h2⟩ => ⟨by rw [hx, hz]; exact h1, h2⟩)
    clear hx hz
    go_enter Try.func4, Try.ntmps4
    go_wp2_with (first | (go_at_call 13; go_must (refine (C1.out _).mono ?_; rintro e w1 ⟨rfl, hb1⟩)) | (go_at_call 14; go_must (refine (C2.out _).mono ?_; rintro e w2 ⟨rfl, hb2⟩)))
    go_ret
    exact ⟨rfl, hb1.trans (hb2.mono hb1.size)⟩
  · have hd : decide (1048576 < (a0.size : Int)) = true := by simp; omega
    have hm := maxLen_le w0
    go_enter Try.func4, Try.ntmps4
    go_wp2_with fail
    go_ret
    exact ⟨rfl, Below.refl _ _⟩
set_option maxHeartbeats 1000000 in
theorem walk_FnExactTargetNext (a0 : ByteArray) (w0 : a0.size ≤ maxLen) (w : World) :
    Calls Try.prog 5 #[.string a0] w fun e w' => e = .returned (.bool true) ∧ Below w.heap.size w w' := by
  by_cases hs : a0.size ≤ 1048576
  · have hd : decide (1048576 < (a0.size : Int)) = false := by simp; omega
    obtain ⟨x, hx⟩ : ∃ x, x = bs ((tnextT a0.data.toList).getD []) := ⟨_, rfl⟩
    obtain ⟨z, hz⟩ : ∃ z, z = (tnextT a0.data.toList).isSome := ⟨_, rfl⟩
    have C1 : Hid (∀ W, Calls Try.prog 15 #[.string a0] W fun e w' => e = .returned (.tuple #[.string x, .bool z]) ∧ Below W.heap.size W w') := Lib.hid (fun W => (specTargetNext_c a0 hs W).mono fun e w' ⟨h1, h2⟩ => ⟨by rw [hx, hz]; exact h1, h2⟩)
    have C2 : Hid (∀ W, Calls Try.prog 16 #[.string a0] W fun e w' => e = .returned (.tuple #[.string x, .bool z]) ∧ Below W.heap.size W w') := Lib.hid (fun W => (implTargetNext_c a0 hs W).mono fun e w' ⟨h1, h2⟩ => ⟨by rw [hx, hz]; exact h1, h2⟩)
    clear hx hz
    go_enter Try.func5, Try.ntmps5
    go_wp2_with (first | (go_at_call 15; go_must (refine (C1.out _).mono ?_; rintro e w1 ⟨rfl, hb1⟩)) | (go_at_call 16; go_must (refine (C2.out _).mono ?_; rintro e w2 ⟨rfl, hb2⟩)))
    go_ret
    exact ⟨rfl, hb1.trans (hb2.mono hb1.size)⟩
  · have hd : decide (1048576 < (a0.size : Int)) = true := by simp; omega
    have hm := maxLen_le w0
    go_enter Try.func5, Try.ntmps5
    go_wp2_with fail
    go_ret
    exact ⟨rfl, Below.refl _ _⟩
end Go.Proofs.Ytaoicbmepliklaa
