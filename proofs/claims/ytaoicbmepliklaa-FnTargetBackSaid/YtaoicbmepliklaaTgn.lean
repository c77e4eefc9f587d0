/- The program's answer of TargetBack. -/
import Derived.Test.YtaoicbmepliklaaTgm
import Derived.Test.YtaoicbmepliklaaTgc
namespace Go.Proofs.Ytaoicbmepliklaa
open Go.RowKit
set_option maxRecDepth 8000
set_option linter.unusedSimpArgs false
set_option linter.unusedVariables false
def tbackT (l : List UInt8) : Option (List UInt8) :=
  match parse l with
  | none => none
  | some f => match src 61 f with
    | none => none
    | some t => if t.size ≤ 16 then some t.text else none
set_option maxHeartbeats 4000000 in
theorem implTargetBack_c (s : ByteArray) (hs : s.size ≤ 1048576) (w : World) :
    Calls Try.prog 18 #[.string s] w fun e w' => TxtP (tbackT s.data.toList) e ∧ Below w.heap.size w w' := by
  cases hp : parse s.data.toList with
  | none =>
    have C := Lib.hid (readForm_none hs hp)
    have HR := Lib.hid (show tbackT s.data.toList = none by simp [tbackT, hp])
    rw [HR.out]
    clear hp
    go_enter Try.func18, Try.ntmps18
    go_wp2_with (go_at_call 38; go_must (refine (C.out _).mono ?_; rintro e w1 ⟨rfl, hb1⟩))
    go_ret2
    exact ⟨rfl, hb1.alloc hb1.size _⟩
  | some f =>
    have C := Lib.hid (readForm_some hs hp)
    have hg := parse_got hp
    have CF : Hid (∀ (W : World) (p : Option Addr) (m c : Nat), FV nI W (fun k => k < W.heap.size) f (nI f (.slice p m c)) → Calls Try.prog 39 #[.agg #[.string (bs (atomOf f)), .slice p m c, .int .i64 f.bytes, .int .i64 f.size, .int .i64 f.depth]] W fun e w' => SfPost W.heap.size (src 61 f) e w' ∧ Below W.heap.size W w') :=
      Lib.hid (fun W p m c k1 => sf_all 61 f p m c W (by omega) hg.1 hg.2.1 k1)
    cases hq : src 61 f with
    | none =>
      have HR := Lib.hid (show tbackT s.data.toList = none by simp [tbackT, hp, hq])
      rw [HR.out]
      rw [hq] at CF
      clear hp hq hg
      go_enter Try.func18, Try.ntmps18
      go_wp2_with (first | (go_at_call 38; go_must (refine (C.out _).mono ?_; rintro e w1 ⟨⟨p, m, c, rfl, hv⟩, hb1⟩)) | (go_at_call 39; go_must (refine (CF.out _ _ _ _ (FV.move (fun k hk => by have := hk.2; simp; omega) (fun k hk => heap_alloc_old _ _ hk.2) _ _ hv)).mono ?_; rintro e w2 ⟨⟨u2, p2, m2, c2, x2, y2, z2, rfl⟩, hb2⟩; have hB2 := (hb1.alloc hb1.size _).trans (hb2.mono (Nat.le_trans hb1.size (by simp))))))
      go_ret2
      exact ⟨rfl, hB2.alloc hB2.size _⟩
    | some t =>
      have hd : f.depth < 61 := by omega
      obtain ⟨hty, htf⟩ := (src_iff 61 f t hd).1 hq
      obtain ⟨fw, fb⟩ := src_fits hd hq
      have fs := size_le _ fw
      rw [hq] at CF
      obtain ⟨v, hv⟩ : ∃ u, u = bs (atomOf t) := ⟨_, rfl⟩
      obtain ⟨a1, ha1⟩ : ∃ x : Int, x = t.bytes := ⟨_, rfl⟩
      obtain ⟨a2, ha2⟩ : ∃ x : Int, x = t.size := ⟨_, rfl⟩
      obtain ⟨a3, ha3⟩ : ∃ x : Int, x = t.depth := ⟨_, rfl⟩
      have CF2 : Hid (∀ (W : World) (p : Option Addr) (m c : Nat), FV nI W (fun k => k < W.heap.size) f (nI f (.slice p m c)) → Calls Try.prog 39 #[.agg #[.string (bs (atomOf f)), .slice p m c, .int .i64 f.bytes, .int .i64 f.size, .int .i64 f.depth]] W fun e w' => (∃ p n c, e = .returned (.tuple #[.agg #[.string v, .slice p n c, .int .i64 a1, .int .i64 a2, .int .i64 a3], .bool true]) ∧ FV nI w' (newK W.heap.size w') t [.string v, .slice p n c, .int .i64 a1, .int .i64 a2, .int .i64 a3]) ∧ Below W.heap.size W w') :=
        Lib.hid (fun W p m c k1 => by rw [hv, ha1, ha2, ha3]; exact CF.out W p m c k1)
      have CL : Hid (∀ (W : World) (p : Option Addr) (m c : Nat), FV nI W (fun k => k < W.heap.size) t [.string v, .slice p m c, .int .i64 a1, .int .i64 a2, .int .i64 a3] → Calls Try.prog 40 #[.agg #[.string v, .slice p m c, .int .i64 a1, .int .i64 a2, .int .i64 a3]] W fun e w' => e = .returned (.bool (decide (t.size ≤ 16))) ∧ Below W.heap.size W w') :=
        Lib.hid (fun W p m c k1 => by
          rw [hv, ha1, ha2, ha3] at k1 ⊢
          have := isTypeInLimit_c t p m c _ W fw (by omega) k1 (fun k hk => hk)
          rw [hty, Bool.true_and] at this
          exact this)
      have CT : Hid (∀ (W : World) (p : Option Addr) (m c : Nat), FV nI W (fun k => k < W.heap.size) t [.string v, .slice p m c, .int .i64 a1, .int .i64 a2, .int .i64 a3] → Calls Try.prog 34 #[.agg #[.string v, .slice p m c, .int .i64 a1, .int .i64 a2, .int .i64 a3]] W fun e w' => e = .returned (.string (bs t.text)) ∧ Below W.heap.size W w') :=
        Lib.hid (fun W p m c k1 => by
          rw [hv, ha1, ha2, ha3] at k1 ⊢
          exact text_c t p m c _ W fw (by omega) k1 (fun k hk => hk))
      clear CF
      by_cases h16 : t.size ≤ 16
      · have HR := Lib.hid (show tbackT s.data.toList = some t.text by simp [tbackT, hp, hq, h16])
        rw [HR.out]
        rw [show decide (t.size ≤ 16) = true by simpa using h16] at CL
        clear hp hq hg hv ha1 ha2 ha3 h16 hty htf fw fb fs hd
        go_enter Try.func18, Try.ntmps18
        go_wp2_with (first | (go_at_call 38; go_must (refine (C.out _).mono ?_; rintro e w1 ⟨⟨p, m, c, rfl, hv⟩, hb1⟩)) | (go_at_call 39; go_must (refine (CF2.out _ _ _ _ (FV.move (fun k hk => by have := hk.2; simp; omega) (fun k hk => heap_alloc_old _ _ hk.2) _ _ hv)).mono ?_; rintro e w2 ⟨⟨p2, m2, c2, rfl, hf2⟩, hb2⟩; have hB2 := (hb1.alloc hb1.size _).trans (hb2.mono (Nat.le_trans hb1.size (by simp))))) | (go_at_call 40; go_must (refine (CL.out _ _ _ _ (FV.move (fun k hk => by have := hk.2; simp; omega) (fun k hk => heap_alloc_old _ _ hk.2) _ _ hf2)).mono ?_; rintro e w3 ⟨rfl, hb3⟩; have x2 := below_blk hb3 (by simp) (heap_alloc_new w2 _); have q0 := cell_of (j := 0) x2; have q1 := cell_of (j := 1) x2; have q2 := cell_of (j := 2) x2; have q3 := cell_of (j := 3) x2; have q4 := cell_of (j := 4) x2; have hs3 := hb3.size; have hB3 := (hB2.alloc hB2.size _).trans (hb3.mono (Nat.le_trans hB2.size (by simp))))) | (go_at_call 34; go_must (refine (CT.out _ _ _ _ (FV.move (fun k hk => by have := hk.2; simp at hs3; omega) (fun k hk => (hb3.block k (by have := hk.2; simp; omega)).trans (heap_alloc_old _ _ hk.2)) _ _ hf2)).mono ?_; rintro e w4 ⟨rfl, hb4⟩)))
        go_ret2
        exact ⟨rfl, hB3.trans (hb4.mono hB3.size)⟩
      · have HR := Lib.hid (show tbackT s.data.toList = none by simp [tbackT, hp, hq, h16])
        rw [HR.out]
        rw [show decide (t.size ≤ 16) = false by simpa using h16] at CL
        clear hp hq hg hv ha1 ha2 ha3 h16 hty htf fw fb fs hd
        go_enter Try.func18, Try.ntmps18
        go_wp2_with (first | (go_at_call 38; go_must (refine (C.out _).mono ?_; rintro e w1 ⟨⟨p, m, c, rfl, hv⟩, hb1⟩)) | (go_at_call 39; go_must (refine (CF2.out _ _ _ _ (FV.move (fun k hk => by have := hk.2; simp; omega) (fun k hk => heap_alloc_old _ _ hk.2) _ _ hv)).mono ?_; rintro e w2 ⟨⟨p2, m2, c2, rfl, hf2⟩, hb2⟩; have hB2 := (hb1.alloc hb1.size _).trans (hb2.mono (Nat.le_trans hb1.size (by simp))))) | (go_at_call 40; go_must (refine (CL.out _ _ _ _ (FV.move (fun k hk => by have := hk.2; simp; omega) (fun k hk => heap_alloc_old _ _ hk.2) _ _ hf2)).mono ?_; rintro e w3 ⟨rfl, hb3⟩; have hB3 := (hB2.alloc hB2.size _).trans (hb3.mono (Nat.le_trans hB2.size (by simp))))))
        go_ret2
        exact ⟨rfl, hB3⟩
end Go.Proofs.Ytaoicbmepliklaa
