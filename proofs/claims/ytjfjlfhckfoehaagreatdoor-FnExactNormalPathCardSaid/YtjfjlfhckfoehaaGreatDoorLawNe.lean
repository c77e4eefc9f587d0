/- The law on NormalPath: its walk. -/
import Derived.Test.YtjfjlfhckfoehaaGreatDoorNf7
namespace Go.Proofs.YtjfjlfhckfoehaaGreatDoor
open Go.RowKit
set_option maxRecDepth 8000
set_option linter.unusedSimpArgs false
set_option linter.unusedVariables false
theorem owns_strSK {w : World} {B : Nat} {v : Value} {l : List (List UInt8)} (h : w.ownsRow B 9 1 v l.length (l.map strV)) (hl : l.length ≤ 9223372036854775807) : StrS w v l := by
  rcases h.2 with ⟨rfl, h0⟩ | ⟨g, cap, cur, rfl, hb, hg, h1, h2, h3, h4⟩
  · exact ⟨none, 0, by rw [h0], hl, fun hne => absurd (List.eq_nil_of_length_eq_zero h0) hne⟩
  · exact ⟨_, cap, rfl, hl, fun _ => ⟨g, 0, rfl, owns_row h⟩⟩
theorem owns_apartK {w : World} {e n : Nat} {size : Nat} {v v0 : Value} {xs : List Value} {lim : Nat} (h0 : ∀ q, v0.ownBlock = some q → q < lim) (h1 : w.ownsRow lim e size v n xs) : v0.ownBlock = none ∨ v0.ownBlock ≠ v.ownBlock := by
  cases hv : v0.ownBlock with
  | none => exact .inl rfl
  | some q => exact .inr (fun e => by have a := h0 q hv; have b := (h1.lt q e.symm).1; omega)
theorem owns_drewK {w : World} {B : Nat} {e : TypeId} {size : Nat} {v : Value} {n : Nat} {xs : List Value} (h : w.ownsRow B e size v n xs) (m : Nat) : (w.drewN m).ownsRow B e size v n xs := h
theorem below_drewK (w : World) (m : Nat) : Below w.heap.size w (w.drewN m) := ⟨rfl, rfl, rfl, Nat.le_refl _, fun _ _ => rfl⟩
set_option maxHeartbeats 2000000 in
theorem walk_FnExactNormalPath (a0 : ByteArray) (w0 : a0.size ≤ maxLen) (w : World) (hT : Tab w) :
    Calls Tryz.prog 12 #[.string a0] w fun e w' => e = .returned (.bool true) ∧ Below w.heap.size w w' := by
  by_cases hs : a0.size ≤ 1048576
  · have hd : decide (1048576 < (a0.size : Int)) = false := by simp; omega
    obtain ⟨l, hl⟩ : ∃ l, l = ((pathTx a0.data.toList).map (fun q => q.1)).getD [] := ⟨_, rfl⟩
    obtain ⟨z, hz⟩ : ∃ z, z = (pathTx a0.data.toList).isSome := ⟨_, rfl⟩
    obtain ⟨TT, htt⟩ : ∃ TT, TT = bs (((pathTx a0.data.toList).map (fun q => q.2)).getD []) := ⟨_, rfl⟩
    have hn : l.length ≤ 120 := by rw [hl]; exact pathTx_len
    have C1 : Hid (∀ W, Calls Tryz.prog 36 #[.string a0] W fun e w' => (∃ v, e = .returned (.tuple #[v, .string TT, .bool z]) ∧ w'.ownsRow W.heap.size 9 1 v l.length (l.map strV)) ∧ Below W.heap.size W w') := Lib.hid (fun W => by have := specNormalPath_c a0 hs W; unfold NpPost at this; rwa [← hl, ← hz, ← htt] at this)
    have hT := Lib.hid hT
    have C2 : Hid (∀ W, Tab W → Calls Tryz.prog 37 #[.string a0] W fun e w' => (∃ v, e = .returned (.tuple #[v, .string TT, .bool z]) ∧ w'.ownsRow W.heap.size 9 1 v l.length (l.map strV)) ∧ Below W.heap.size W w') := Lib.hid (fun W hTW => by have := implNormalPath_c a0 hs W hTW; unfold NpPost at this; rwa [← hl, ← hz, ← htt] at this)
    clear hl hz htt
    have tok1 : True := trivial
    have tok2 : True := trivial
    have tok3 : True := trivial
    go_enter Tryz.func12, Tryz.ntmps12
    go_wp2_with (first | (go_at_call 36; go_must (refine (C1.out _).mono ?_; rintro e w1 ⟨⟨v0, rfl, ho0⟩, hb1⟩; obtain ⟨p0, c0, rfl⟩ := owns_slice ho0; have HO0 := Lib.hid ho0; have hB1 := hb1; clear ho0 hb1)) | (go_at_call 37; clear tok1; go_must (refine (C2.out _ (hT.out.below hB1)).mono ?_; rintro e w2 ⟨⟨v1, rfl, ho1⟩, hb2⟩; obtain ⟨p1, c1, rfl⟩ := owns_slice ho1; have HL0 := Lib.hid (fun q hq => (HO0.out.lt q hq).2); have HO1 := Lib.hid ho1; have HO0 := Lib.hid (owns_below HO0.out hb2); have hB2 := hB1.trans (hb2.mono hB1.size); clear ho1 hb2)) | (go_at_call 38; clear tok2; go_must (refine (eqS_c _ _ l l w2 (owns_strSK HO1.out (by omega)) (owns_strSK HO0.out (by omega))).mono ?_; rintro e w3 ⟨rfl, m3, rfl⟩)) | (go_at_call 39; go_must (refine (mark_c w1.heap.size _ l.length 1 _ _ (owns_drewK HO1.out m3) (by omega) (by omega)).mono ?_; rintro e w4 ⟨rfl, ho4, hg4⟩; have HO4 := Lib.hid ho4; have HO04 := Lib.hid (World.ownsRow.kept (owns_drewK HO0.out m3) hg4 (owns_apartK HL0.out HO1.out)); have hB4 := (hB2.trans ((below_drewK w2 m3).mono hB2.size)).grown hg4 hB2.size (fun q hq => Nat.le_trans hB1.size (HO1.out.lt q hq).1); clear ho4 hg4)) | (go_at_call 40; clear tok3; go_must (refine (held_c w1.heap.size _ l.length 1 _ HO4.out (by omega) (by omega)).mono ?_; rintro e w5 ⟨rfl, hb5⟩; have HO5 := Lib.hid (owns_below HO4.out hb5); have HO05 := Lib.hid (owns_below HO04.out hb5); have hB5 := hB4.trans (hb5.mono hB4.size); clear hb5)) | (go_at_call 37; go_must (refine (C2.out _ (hT.out.below hB5)).mono ?_; rintro e w6 ⟨⟨v6, rfl, ho6⟩, hb6⟩; obtain ⟨p6, c6, rfl⟩ := owns_slice ho6; have HO6 := Lib.hid ho6; have HO06 := Lib.hid (owns_below HO05.out hb6); have HO46 := Lib.hid (owns_below HO5.out hb6); have hB6 := hB5.trans (hb6.mono hB5.size); clear ho6 hb6)) | (go_at_call 38; go_must (refine (eqS_c _ _ l l w6 (owns_strSK HO6.out (by omega)) (owns_strSK HO06.out (by omega))).mono ?_; rintro e w7 ⟨rfl, m7, rfl⟩)) | (go_at_call 40; go_must (refine (held_c w1.heap.size _ l.length 1 _ (owns_drewK HO46.out m7) (by omega) (by omega)).mono ?_; rintro e w8 ⟨rfl, hb8⟩; have hB8 := (hB6.trans ((below_drewK w6 m7).mono hB6.size)).trans (hb8.mono hB6.size))))
    go_ret
    exact ⟨rfl, hB8⟩
  · have hd : decide (1048576 < (a0.size : Int)) = true := by simp; omega
    have hm := maxLen_le w0
    go_enter Tryz.func12, Tryz.ntmps12
    go_wp2_with fail
    go_ret
    exact ⟨rfl, Below.refl _ _⟩
end Go.Proofs.YtjfjlfhckfoehaaGreatDoor
