/- TargetOf and TargetNext: the program's and the reference model's functions, and the walks of their exact laws. -/
import Derived.Test.YtaoicbmepliklaaTgb
namespace Go.Proofs.Ytaoicbmepliklaa
open Go.RowKit
set_option maxRecDepth 8000
set_option linter.unusedSimpArgs false
set_option linter.unusedVariables false
/-- The text of a package of code that needs a value with a text. -/
def pkText (l : List UInt8) : List UInt8 := 40 :: 101 :: 32 :: 40 :: 116 :: 32 :: 40 :: 99 :: 32 :: 118 :: 32 :: (l ++ [41, 32, 118, 41, 41])
theorem FV.all {nd : Tr → Value → List Value} {B : Nat} {w : World} {T : Tr} {cs : List Value} (h : FV nd w (newK B w) T cs) : FV nd w (fun k => k < w.heap.size) T cs := h.wide (fun k hk => hk.2)
set_option maxHeartbeats 2000000 in
theorem implTargetOf_c (s : ByteArray) (hs : s.size ≤ 1048576) (w : World) :
    Calls Try.prog 14 #[.string s] w fun e w' => TxtP (tofT s.data.toList) e ∧ Below w.heap.size w w' := by
  cases hr : readTy s.data.toList with
  | none =>
    have C := Lib.hid (readType_none hs hr)
    have HR := Lib.hid (show tofT s.data.toList = none by simp [tofT, hr])
    rw [HR.out]
    clear hr
    go_enter Try.func14, Try.ntmps14
    go_wp2_with (go_at_call 32; go_must (refine (C.out _).mono ?_; rintro e w1 ⟨rfl, hb1⟩))
    go_ret2
    exact ⟨rfl, hb1.alloc hb1.size _⟩
  | some t =>
    have C := Lib.hid (readType_some hs hr)
    have hg := readTy_got hr
    obtain ⟨fw, fb⟩ := tOf_fits t hg.2.2.2.2.1
    have hsz := hg.2.2.2.2.2
    have HR := Lib.hid (show tofT s.data.toList = some (tOf t).text by simp [tofT, hr])
    rw [HR.out]
    obtain ⟨v, hv⟩ : ∃ u, u = bs (atomOf (tOf t)) := ⟨_, rfl⟩
    obtain ⟨a1, ha1⟩ : ∃ x : Int, x = (tOf t).bytes := ⟨_, rfl⟩
    obtain ⟨a2, ha2⟩ : ∃ x : Int, x = (tOf t).size := ⟨_, rfl⟩
    obtain ⟨a3, ha3⟩ : ∃ x : Int, x = (tOf t).depth := ⟨_, rfl⟩
    have C1 : Hid (∀ (W : World) (p : Option Addr) (m c : Nat), FV nI W (fun k => k < W.heap.size) t (nI t (.slice p m c)) → Calls Try.prog 33 #[.agg #[.string (bs (atomOf t)), .slice p m c, .int .i64 t.bytes, .int .i64 t.size, .int .i64 t.depth]] W fun e w' => MadeU (newK W.heap.size w') (tOf t) v a1 a2 a3 e w' ∧ Below W.heap.size W w') :=
      Lib.hid (fun W p m c k1 => (tf_all (t.depth + 1) t p m c W (by omega) hg.2.2.2.2.1 hg.1 hsz k1).mono fun e w' ⟨h1, h2⟩ => ⟨madeU_of h1 hv ha1 ha2 ha3 (fun k hk => hk), h2⟩)
    have C2 : Hid (∀ (W : World) (p : Option Addr) (m c : Nat), FV nI W (fun k => k < W.heap.size) (tOf t) [.string v, .slice p m c, .int .i64 a1, .int .i64 a2, .int .i64 a3] → Calls Try.prog 34 #[.agg #[.string v, .slice p m c, .int .i64 a1, .int .i64 a2, .int .i64 a3]] W fun e w' => e = .returned (.string (bs (tOf t).text)) ∧ Below W.heap.size W w') :=
      Lib.hid (fun W p m c k1 => by
        rw [hv, ha1, ha2, ha3] at k1 ⊢
        exact text_c (tOf t) p m c _ W fw (by omega) k1 (fun k hk => hk))
    clear hr hv ha1 ha2 ha3 hg fw fb hsz
    go_enter Try.func14, Try.ntmps14
    go_wp2_with (first | (go_at_call 32; go_must (refine (C.out _).mono ?_; rintro e w1 ⟨⟨p, m, c, rfl, hv⟩, hb1⟩)) | (go_at_call 33; go_must (refine (C1.out _ _ _ _ (FV.move (fun k hk => by have := hk.2; simp; omega) (fun k hk => heap_alloc_old _ _ hk.2) _ _ hv)).mono ?_; rintro e w2 ⟨⟨p2, m2, c2, rfl, hf2⟩, hb2⟩)) | (go_at_call 34; go_must (refine (C2.out _ _ _ _ hf2.all).mono ?_; rintro e w3 ⟨rfl, hb3⟩)))
    go_ret2
    exact ⟨rfl, ((hb1.alloc hb1.size _).trans (hb2.mono (Nat.le_trans hb1.size (by simp)))).trans (hb3.mono (Nat.le_trans (Nat.le_trans hb1.size (by simp)) hb2.size))⟩
set_option maxHeartbeats 2000000 in
theorem implTargetNext_c (s : ByteArray) (hs : s.size ≤ 1048576) (w : World) :
    Calls Try.prog 16 #[.string s] w fun e w' => TxtP (tnextT s.data.toList) e ∧ Below w.heap.size w w' := by
  cases hr : readTy s.data.toList with
  | none =>
    have C := Lib.hid (readType_none hs hr)
    have HR := Lib.hid (show tnextT s.data.toList = none by simp [tnextT, hr])
    rw [HR.out]
    clear hr
    go_enter Try.func16, Try.ntmps16
    go_wp2_with (go_at_call 32; go_must (refine (C.out _).mono ?_; rintro e w1 ⟨rfl, hb1⟩))
    go_ret2
    exact ⟨rfl, hb1.alloc hb1.size _⟩
  | some t =>
    have C := Lib.hid (readType_some hs hr)
    have hg := readTy_got hr
    obtain ⟨fw0, fb0⟩ := tOf_fits t hg.2.2.2.2.1
    have fw : (pk [tOf t]).wf := pk_wf ⟨fw0, trivial⟩
    have fb : (pk [tOf t]).bytes ≤ 16 + 40 * t.size := by rw [pk_bytes]; simp only [bytess]; omega
    have hsz := hg.2.2.2.2.2
    have HR := Lib.hid (show tnextT s.data.toList = some (pk [tOf t]).text by simp [tnextT, hr])
    rw [HR.out]
    obtain ⟨v, hv⟩ : ∃ u, u = bs (atomOf (pk [tOf t])) := ⟨_, rfl⟩
    obtain ⟨a1, ha1⟩ : ∃ x : Int, x = (pk [tOf t]).bytes := ⟨_, rfl⟩
    obtain ⟨a2, ha2⟩ : ∃ x : Int, x = (pk [tOf t]).size := ⟨_, rfl⟩
    obtain ⟨a3, ha3⟩ : ∃ x : Int, x = (pk [tOf t]).depth := ⟨_, rfl⟩
    have C1 : Hid (∀ (W : World) (p : Option Addr) (m c : Nat), FV nI W (fun k => k < W.heap.size) t (nI t (.slice p m c)) → Calls Try.prog 36 #[.agg #[.string (bs (atomOf t)), .slice p m c, .int .i64 t.bytes, .int .i64 t.size, .int .i64 t.depth]] W fun e w' => MadeU (newK W.heap.size w') (pk [tOf t]) v a1 a2 a3 e w' ∧ Below W.heap.size W w') :=
      Lib.hid (fun W p m c k1 => (nextForm_c (t.depth + 1) (tf_all _) t p m c W (by omega) hg.2.2.2.2.1 hg.1 hsz k1).mono fun e w' ⟨h1, h2⟩ => ⟨madeU_of h1 hv ha1 ha2 ha3 (fun k hk => hk), h2⟩)
    have C2 : Hid (∀ (W : World) (p : Option Addr) (m c : Nat), FV nI W (fun k => k < W.heap.size) (pk [tOf t]) [.string v, .slice p m c, .int .i64 a1, .int .i64 a2, .int .i64 a3] → Calls Try.prog 34 #[.agg #[.string v, .slice p m c, .int .i64 a1, .int .i64 a2, .int .i64 a3]] W fun e w' => e = .returned (.string (bs (pk [tOf t]).text)) ∧ Below W.heap.size W w') :=
      Lib.hid (fun W p m c k1 => by
        rw [hv, ha1, ha2, ha3] at k1 ⊢
        exact text_c (pk [tOf t]) p m c _ W fw (by omega) k1 (fun k hk => hk))
    clear fw0 fb0 hr hv ha1 ha2 ha3 hg fw fb hsz
    go_enter Try.func16, Try.ntmps16
    go_wp2_with (first | (go_at_call 32; go_must (refine (C.out _).mono ?_; rintro e w1 ⟨⟨p, m, c, rfl, hv⟩, hb1⟩)) | (go_at_call 36; go_must (refine (C1.out _ _ _ _ (FV.move (fun k hk => by have := hk.2; simp; omega) (fun k hk => heap_alloc_old _ _ hk.2) _ _ hv)).mono ?_; rintro e w2 ⟨⟨p2, m2, c2, rfl, hf2⟩, hb2⟩)) | (go_at_call 34; go_must (refine (C2.out _ _ _ _ hf2.all).mono ?_; rintro e w3 ⟨rfl, hb3⟩)))
    go_ret2
    exact ⟨rfl, ((hb1.alloc hb1.size _).trans (hb2.mono (Nat.le_trans hb1.size (by simp)))).trans (hb3.mono (Nat.le_trans (Nat.le_trans hb1.size (by simp)) hb2.size))⟩
end Go.Proofs.Ytaoicbmepliklaa
