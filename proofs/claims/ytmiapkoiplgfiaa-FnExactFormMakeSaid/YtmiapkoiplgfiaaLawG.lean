/- The walk of the law on FormMake. -/
import Derived.Test.YtmiapkoiplgfiaaImpl1p
import Derived.Test.YtmiapkoiplgfiaaSpec1m
import Derived.Test.YtmiapkoiplgfiaaStrs2
namespace Go.Proofs.Ytmiapkoiplgfiaa
open Go.RowKit
set_option linter.unusedSimpArgs false
set_option linter.unusedVariables false
theorem StrS.below {w w' : World} {v : Value} {l : List (List UInt8)} (h : StrS w v l) (hb : Below w.heap.size w w') : StrS w' v l := by
  obtain ⟨p, c, rfl, h1, h2⟩ := h
  refine ⟨p, c, rfl, h1, fun hne => ?_⟩
  obtain ⟨r, off, rfl, h3⟩ := h2 hne
  refine ⟨r, off, rfl, h3.move (hb.block r ?_)⟩
  have h0 : 0 < l.length := List.length_pos_iff.2 hne
  exact World.block_lt_of_cell? w ⟨r, off + 0, none⟩ (StrS.cell h3 h0)
theorem leftS_neg {l : List (List UInt8)} {left : Nat} (h : ¬ l.length + lens l ≤ left) : leftS l left = -1 := by rw [leftS, if_neg h]
theorem leftS_nonneg {l : List (List UInt8)} {left : Nat} (h : l.length + lens l ≤ left) : ∃ n : Nat, leftS l left = (n : Int) ∧ n ≤ left := ⟨_, by rw [leftS, if_pos h], by omega⟩
set_option maxHeartbeats 2000000 in
theorem walk_FnExactFormMake (w : World) (v : Value) (l : List (List UInt8)) (h : StrS w v l) (hm : ∀ x ∈ l, x.length ≤ 9223372036854775807) :
    Calls Try.prog 3 #[v] w fun e w' => e = .returned (.bool true) ∧ Below w.heap.size w w' := by
  have SZ : Hid (∀ W, W = w → Calls Try.prog 11 #[v, .int .i64 1048576] W fun e w' => e = .returned (.int .i64 (leftS l 1048576)) ∧ w' = W) := Lib.hid (fun W hW => by subst hW; exact szS_c v l 1048576 (Nat.le_refl _) W h hm)
  by_cases hsz : l.length + lens l ≤ 1048576
  · obtain ⟨n, hn, hn2⟩ := leftS_nonneg hsz
    rw [hn] at SZ
    have hneg : decide ((n : Int) < 0) = false := by simp
    obtain ⟨x, z, hx⟩ := makePost_shape (makeOf l)
    have C1 : Hid (∀ W v, StrS W v l → Calls Try.prog 12 #[v] W fun e w' => e = .returned (.tuple #[.string x, .bool z]) ∧ Below W.heap.size W w') := Lib.hid (fun W v hv => (specFormMake_c v l hsz W hv).mono fun e w' ⟨k1, k2⟩ => ⟨hx e k1, k2⟩)
    have C2 : Hid (∀ W v, StrS W v l → Calls Try.prog 14 #[v] W fun e w' => e = .returned (.tuple #[.string x, .bool z]) ∧ Below W.heap.size W w') := Lib.hid (fun W v hv => (implFormMake_c v l hsz W hv).mono fun e w' ⟨k1, k2⟩ => ⟨hx e k1, k2⟩)
    have TS : Hid (∀ W, Below w.heap.size w W → Calls Try.prog 13 #[v] W fun e w' => CopyS W.heap.size l e w' ∧ Below W.heap.size W w') := Lib.hid (fun W hW => toS_c v l (by omega) W (h.below hW))
    have EQ : Hid (∀ W va vb, StrS W va l → StrS W vb l → Calls Try.prog 15 #[va, vb] W fun e w' => e = .returned (.bool true) ∧ ∃ n, w' = W.drewN n) := Lib.hid (fun W va vb k1 k2 => (eqS_c va vb l l W k1 k2).mono fun e w' ⟨k3, k4⟩ => ⟨by rw [k3]; simp, k4⟩)
    have B0 := Lib.hid (Below.refl w.heap.size w)
    clear hx h hm hn hsz
    go_enter Try.func3, Try.ntmps3
    go_wp2_with (go_at_call 11; go_must (refine (SZ.out _ rfl).mono ?_; rintro e w0 ⟨rfl, rfl⟩))
    refine (TS.out _ B0.out).mono ?_
    rintro e w1 ⟨⟨v1, rfl, hv1, ho1⟩, hb1⟩
    go_wp2_with fail
    refine (C1.out _ v1 hv1).mono ?_
    rintro e w2 ⟨rfl, hb2⟩
    have B2 := Lib.hid (hb1.trans (hb2.mono hb1.size))
    go_wp2_with fail
    refine (TS.out _ B2.out).mono ?_
    rintro e w3 ⟨⟨v3, rfl, hv3, ho3⟩, hb3⟩
    have B3 := Lib.hid (B2.out.trans (hb3.mono B2.out.size))
    go_wp2_with fail
    refine (C2.out _ v3 hv3).mono ?_
    rintro e w4 ⟨rfl, hb4⟩
    have B4 := Lib.hid (B3.out.trans (hb4.mono B3.out.size))
    have hv4 := hv3.below hb4
    go_wp2_with fail
    refine (TS.out _ B4.out).mono ?_
    rintro e w5 ⟨⟨v5, rfl, hv5, ho5⟩, hb5⟩
    have B5 := Lib.hid (B4.out.trans (hb5.mono B4.out.size))
    have hv6 := hv4.below hb5
    go_wp2_with fail
    refine (EQ.out _ v3 v5 hv6 hv5).mono ?_
    rintro e w6 ⟨rfl, n6, rfl⟩
    go_wp2_with fail
    go_ret
    exact ⟨rfl, B5.out.trans ⟨rfl, rfl, rfl, Nat.le_refl _, fun _ _ => rfl⟩⟩
  · rw [leftS_neg hsz] at SZ
    clear h hm
    go_enter Try.func3, Try.ntmps3
    go_wp2_with (go_at_call 11; go_must (refine (SZ.out _ rfl).mono ?_; rintro e w0 ⟨rfl, rfl⟩))
    go_ret
    exact ⟨rfl, Below.refl _ _⟩
end Go.Proofs.Ytmiapkoiplgfiaa
