/- The reference model's answers on types. -/
import Derived.Test.YtmiapkoiplgfiaaSpec1e
namespace Go.Proofs.Ytmiapkoiplgfiaa
open Go.RowKit
set_option linter.unusedSimpArgs false
set_option linter.unusedVariables false
theorem l1Parse_none {s : ByteArray} (hs : s.size ≤ 1048576) (hp : parse s.data.toList = none) (W : World) : Calls Try.prog 37 #[.string s] W fun e w' => (∃ a p n c, e = .returned (.tuple #[.agg #[.string a, .slice p n c], .bool false]) ∧ n ≤ maxLen) ∧ Below W.heap.size W w' :=
  (l1Parse_c s hs W).mono fun e w' ⟨h1, h2⟩ => ⟨by rw [hp] at h1; exact h1, h2⟩
theorem l1Parse_some {s : ByteArray} (hs : s.size ≤ 1048576) {t : Tr} (hp : parse s.data.toList = some t) (W : World) : Calls Try.prog 37 #[.string s] W fun e w' => (∃ p n c, e = .returned (.tuple #[.agg #[.string (bs (atomOf t)), .slice p n c], .bool true]) ∧ FV nS w' (fun k => W.heap.size ≤ k ∧ k < w'.heap.size) t (nS t (.slice p n c))) ∧ Below W.heap.size W w' :=
  (l1Parse_c s hs W).mono fun e w' ⟨h1, h2⟩ => ⟨by rw [hp] at h1; exact h1, h2⟩
set_option maxHeartbeats 400000 in
theorem specTypeValid_c (s : ByteArray) (hs : s.size ≤ 1048576) (w : World) :
    Calls Try.prog 22 #[.string s] w fun e w' => e = .returned (.bool (readTy s.data.toList).isSome) ∧ Below w.heap.size w w' := by
  cases hp : parse s.data.toList with
  | none =>
    have C := Lib.hid (l1Parse_none hs hp)
    have HR := Lib.hid (readTy_none hp)
    clear hp
    go_enter Try.func22, Try.ntmps22
    go_wp2_with (go_at_call 37; go_must (refine (C.out _).mono ?_; rintro e w1 ⟨⟨a, p, n, c, rfl, hn⟩, hb1⟩))
    go_ret
    exact ⟨ret_bool (by rw [HR.out]; rfl), hb1.alloc hb1.size _⟩
  | some t =>
    have C := Lib.hid (l1Parse_some hs hp)
    have hg := parse_got hp
    have HR := Lib.hid (readTy_some hp)
    clear hp
    have T : Hid (∀ (W : World) (p : Option Addr) (n c : Nat) (ok : Nat → Prop), FV nS W ok t (nS t (.slice p n c)) → (∀ k, ok k → k < W.heap.size) → Calls Try.prog 45 #[.agg #[.string (bs (atomOf t)), .slice p n c]] W fun e w' => e = .returned (.bool (isTy t && decide (t.size ≤ 16))) ∧ Below W.heap.size W w') :=
      Lib.hid (fun W p n c ok h1 h2 => l1Typed_c t p n c ok W hg.1 (by omega) h1 h2)
    go_enter Try.func22, Try.ntmps22
    go_wp2_with (first | (go_at_call 37; go_must (refine (C.out _).mono ?_; rintro e w1 ⟨⟨p, n, c, rfl, hv⟩, hb1⟩)) | (go_at_call 45; go_must (refine (T.out _ p n c (fun k => w.heap.size ≤ k ∧ k < w1.heap.size) (hv.below (below1 _ _) (fun k hk => hk.2)) (fun k hk => by simp; omega)).mono ?_; rintro e w2 ⟨rfl, hb2⟩)))
    go_ret
    exact ⟨ret_bool (by rw [HR.out]; cases isTy t && decide (t.size ≤ 16) <;> rfl), (hb1.alloc hb1.size _).trans (hb2.mono (by have := hb1.size; simp; omega))⟩
set_option maxHeartbeats 400000 in
theorem specTypeOrder_c (s : ByteArray) (hs : s.size ≤ 1048576) (w : World) :
    Calls Try.prog 28 #[.string s] w fun e w' => e = .returned (.int .i64 (orderOf s.data.toList)) ∧ Below w.heap.size w w' := by
  cases hp : parse s.data.toList with
  | none =>
    have C := Lib.hid (l1Parse_none hs hp)
    have HR := Lib.hid (readTy_none hp)
    clear hp
    go_enter Try.func28, Try.ntmps28
    go_wp2_with (go_at_call 37; go_must (refine (C.out _).mono ?_; rintro e w1 ⟨⟨a, p, n, c, rfl, hn⟩, hb1⟩))
    go_ret
    exact ⟨ret_int (by unfold orderOf; rw [HR.out]), hb1.alloc hb1.size _⟩
  | some t =>
    have C := Lib.hid (l1Parse_some hs hp)
    have hg := parse_got hp
    have HR := Lib.hid (readTy_some hp)
    clear hp
    have T : Hid (∀ (W : World) (p : Option Addr) (n c : Nat) (ok : Nat → Prop), FV nS W ok t (nS t (.slice p n c)) → (∀ k, ok k → k < W.heap.size) → Calls Try.prog 45 #[.agg #[.string (bs (atomOf t)), .slice p n c]] W fun e w' => e = .returned (.bool (isTy t && decide (t.size ≤ 16))) ∧ Below W.heap.size W w') :=
      Lib.hid (fun W p n c ok h1 h2 => l1Typed_c t p n c ok W hg.1 (by omega) h1 h2)
    cases hty : (isTy t && decide (t.size ≤ 16)) with
    | false =>
      rw [hty] at T HR
      go_enter Try.func28, Try.ntmps28
      go_wp2_with (first | (go_at_call 37; go_must (refine (C.out _).mono ?_; rintro e w1 ⟨⟨p, n, c, rfl, hv⟩, hb1⟩)) | (go_at_call 45; go_must (refine (T.out _ p n c (fun k => w.heap.size ≤ k ∧ k < w1.heap.size) (hv.below (below1 _ _) (fun k hk => hk.2)) (fun k hk => by simp; omega)).mono ?_; rintro e w2 ⟨rfl, hb2⟩)))
      go_ret
      exact ⟨ret_int (by unfold orderOf; rw [HR.out]; rfl), (hb1.alloc hb1.size _).trans (hb2.mono (by have := hb1.size; simp; omega))⟩
    | true =>
      rw [hty] at T HR
      have hty1 : isTy t = true := by simp only [Bool.and_eq_true] at hty; exact hty.1
      have O : Hid (∀ (W : World) (p : Option Addr) (n c : Nat) (ok : Nat → Prop), FV nS W ok t (nS t (.slice p n c)) → (∀ k, ok k → k < W.heap.size) → Calls Try.prog 49 #[.agg #[.string (bs (atomOf t)), .slice p n c]] W fun e w' => e = .returned (.int .i64 (tyOrder t)) ∧ Below W.heap.size W w') :=
        Lib.hid (fun W p n c ok h1 h2 => l1Order_c (t.depth + 1) t _ ok W (by omega) (by omega) hg.1 hty1 h1 h2)
      clear hty hty1
      go_enter Try.func28, Try.ntmps28
      go_wp2_with (first | (go_at_call 37; go_must (refine (C.out _).mono ?_; rintro e w1 ⟨⟨p, n, c, rfl, hv⟩, hb1⟩)) | (go_at_call 45; go_must (refine (T.out _ p n c (fun k => w.heap.size ≤ k ∧ k < w1.heap.size) (hv.below (below1 _ _) (fun k hk => hk.2)) (fun k hk => by simp; omega)).mono ?_; rintro e w2 ⟨rfl, hb2⟩; have c1 := below_blk hb2 (by simp) (heap_alloc_new _ _); have d0 := cell_of (j := 0) c1; have d1 := cell_of (j := 1) c1)) | (go_at_call 49; go_must (refine (O.out _ p n c (fun k => w.heap.size ≤ k ∧ k < w1.heap.size) ((hv.below (below1 _ _) (fun k hk => hk.2)).below hb2 (fun k hk => by simp; omega)) (fun k hk => by have := hb2.size; simp at this; omega)).mono ?_; rintro e w3 ⟨rfl, hb3⟩)))
      go_ret
      exact ⟨ret_int (by unfold orderOf; rw [HR.out]; rfl), ((hb1.alloc hb1.size _).trans (hb2.mono (by have := hb1.size; simp; omega))).trans (hb3.mono (by have := hb1.size; have := hb2.size; simp at this; omega))⟩
end Go.Proofs.Ytmiapkoiplgfiaa
