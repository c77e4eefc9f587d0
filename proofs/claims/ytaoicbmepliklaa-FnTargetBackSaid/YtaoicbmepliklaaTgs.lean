/- The reference model reads a type back from its target type: packages. -/
import Derived.Test.YtaoicbmepliklaaTgr
import Derived.Deep.RegionWith
import Derived.Deep.RegionHeld3
import Derived.Deep.DrawnRows
namespace Go.Proofs.Ytaoicbmepliklaa
open Go.RowKit
set_option maxRecDepth 8000
set_option linter.unusedSimpArgs false
set_option linter.unusedVariables false
set_option maxHeartbeats 2000000 in
theorem bk_e4 (u hd : ByteArray) (h0 : (u.toList == [105]) = false) (h1 : (hd.toList == [116]) = false) (h2 : (hd.toList == [101]) = true) (p : Option Addr) (n c : Nat) (w : World)
    (CH : ∀ W, Below w.heap.size w W → Calls Try.prog 68 #[.agg #[.string u, .slice p n c]] W fun e w' => e = .returned (.string hd) ∧ Below W.heap.size W w')
    (CC : ∀ W, Below w.heap.size w W → Calls Try.prog 69 #[.agg #[.string u, .slice p n c]] W fun e w' => (∃ q m k, e = .returned (.slice q m k) ∧ m ≠ 4 ∧ m ≤ maxLen) ∧ Below W.heap.size W w') :
    Calls Try.prog 37 #[.agg #[.string u, .slice p n c]] w fun e w' => e = .returned (.string ⟨#[]⟩) ∧ Below w.heap.size w w' := by
  have CH' := Lib.hid CH
  have CC' := Lib.hid CC
  clear CH CC
  go_enter Try.func37, Try.ntmps37
  go_wp2_with (first | (go_at_call 68; go_must (refine (CH'.out _ (below1 _ _)).mono ?_; rintro e w1 ⟨rfl, hb1⟩; have y1 := below_blk hb1 (by simp) (heap_alloc_new w _); have q0 := cell_of (j := 0) y1; have q1 := cell_of (j := 1) y1; have hB1 := (below1 w _).trans (hb1.mono (by simp)))) | (go_at_call 69; first | ((with_reducible refine (CC'.out _ hB1).mono ?_); rintro e w2 ⟨⟨q2, m2, k2, rfl, hm2, hm3⟩, hb2⟩; have hm4 := maxLen_le hm3; have hn1 : ((m2 : Int) != 4) = true := (by simp; omega); have hn2 : ¬ (m2 : Int) = 4 := (by omega); have hB2 := hB1.trans (hb2.mono hB1.size))))
  go_ret
  exact ⟨rfl, hB2⟩
set_option maxHeartbeats 2000000 in
theorem bk_e3 (u hd : ByteArray) (h0 : (u.toList == [105]) = false) (h1 : (hd.toList == [116]) = false) (h2 : (hd.toList == [101]) = true) (p : Option Addr) (n c : Nat) (w : World)
    (CH : ∀ W, Below w.heap.size w W → Calls Try.prog 68 #[.agg #[.string u, .slice p n c]] W fun e w' => e = .returned (.string hd) ∧ Below W.heap.size W w')
    (CC : ∀ W, Below w.heap.size w W → Calls Try.prog 69 #[.agg #[.string u, .slice p n c]] W fun e w' => (∃ r3 off3 c3 uk pk nk ck, e = .returned (.slice (some ⟨r3, off3, none⟩) 4 c3) ∧ r3 < w.heap.size ∧ 4 ≤ c3 ∧ c3 ≤ maxLen ∧ (w.cell? ⟨r3, off3 + 6, none⟩ = some (.string uk) ∧ w.cell? ⟨r3, off3 + 6 + 1, none⟩ = some (.slice pk nk ck)) ∧ Hid (∀ W, Below w.heap.size w W → Calls Try.prog 69 #[.agg #[.string uk, .slice pk nk ck]] W fun e w' => (∃ q m k, e = .returned (.slice q m k) ∧ m ≠ 3 ∧ m ≤ maxLen) ∧ Below W.heap.size W w')) ∧ Below W.heap.size W w') :
    Calls Try.prog 37 #[.agg #[.string u, .slice p n c]] w fun e w' => e = .returned (.string ⟨#[]⟩) ∧ Below w.heap.size w w' := by
  have CH' := Lib.hid CH
  have CC' := Lib.hid CC
  clear CH CC
  go_enter Try.func37, Try.ntmps37
  go_wp2_with (first | (go_at_call 68; go_must (refine (CH'.out _ (below1 _ _)).mono ?_; rintro e w1 ⟨rfl, hb1⟩; have y1 := below_blk hb1 (by simp) (heap_alloc_new w _); have q0 := cell_of (j := 0) y1; have q1 := cell_of (j := 1) y1; have hB1 := (below1 w _).trans (hb1.mono (by simp)))) | (go_at_call 69; first | ((with_reducible refine (CC'.out _ hB1).mono ?_); rintro e w2 ⟨⟨r3, off3, c3, uk, pk, nk, ck, rfl, hr3, hc3, hc4, ⟨k0, k1⟩, CK⟩, hb2⟩; have hc5 := maxLen_le hc4; have hB2 := hB1.trans (hb2.mono hB1.size); have l0 := (hB2.cell (p := ⟨r3, off3 + 6, none⟩) hr3).trans k0; have l1 := (hB2.cell (p := ⟨r3, off3 + 6 + 1, none⟩) hr3).trans k1) | ((with_reducible refine (CK.out _ hB2).mono ?_); rintro e w3 ⟨⟨q2, m2, k2, rfl, hm2, hm3⟩, hb3⟩; have hm4 := maxLen_le hm3; have hn1 : ((m2 : Int) != 3) = true := (by simp; omega); have hn2 : ¬ (m2 : Int) = 3 := (by omega); have hB3 := hB2.trans (hb3.mono hB2.size))))
  go_ret
  exact ⟨rfl, hB3⟩
set_option maxHeartbeats 20000000 in
theorem bk_e (u hd : ByteArray) (h0 : (u.toList == [105]) = false) (h1 : (hd.toList == [116]) = false) (h2 : (hd.toList == [101]) = true) (p : Option Addr) (n c : Nat) (w : World) (PA PB : ByteArray → Prop) (hPA : ∀ s, PA s → s.size ≤ 200000) (hPB : ∀ s, PB s → s.size ≤ 200000)
    (CH : ∀ W, Below w.heap.size w W → Calls Try.prog 68 #[.agg #[.string u, .slice p n c]] W fun e w' => e = .returned (.string hd) ∧ Below W.heap.size W w')
    (CC : ∀ W, Below w.heap.size w W → Calls Try.prog 69 #[.agg #[.string u, .slice p n c]] W fun e w' => (∃ r3 off3 c3 uk pk nk ck ua pa na ca, e = .returned (.slice (some ⟨r3, off3, none⟩) 4 c3) ∧ r3 < w.heap.size ∧ 4 ≤ c3 ∧ c3 ≤ maxLen ∧ (w.cell? ⟨r3, off3 + 6, none⟩ = some (.string uk) ∧ w.cell? ⟨r3, off3 + 6 + 1, none⟩ = some (.slice pk nk ck)) ∧ (w.cell? ⟨r3, off3 + 4, none⟩ = some (.string ua) ∧ w.cell? ⟨r3, off3 + 4 + 1, none⟩ = some (.slice pa na ca)) ∧ Hid (∀ W, Below w.heap.size w W → Calls Try.prog 69 #[.agg #[.string uk, .slice pk nk ck]] W fun e w' => (∃ r4 off4 c4 ub pb nb cb, e = .returned (.slice (some ⟨r4, off4, none⟩) 3 c4) ∧ r4 < w.heap.size ∧ 3 ≤ c4 ∧ c4 ≤ maxLen ∧ (w.cell? ⟨r4, off4 + 4, none⟩ = some (.string ub) ∧ w.cell? ⟨r4, off4 + 4 + 1, none⟩ = some (.slice pb nb cb)) ∧ Hid (∀ W, Below w.heap.size w W → Calls Try.prog 37 #[.agg #[.string ub, .slice pb nb cb]] W fun e w' => (∃ s, e = .returned (.string s) ∧ PB s) ∧ Below W.heap.size W w')) ∧ Below W.heap.size W w') ∧ Hid (∀ W, Below w.heap.size w W → Calls Try.prog 37 #[.agg #[.string ua, .slice pa na ca]] W fun e w' => (∃ s, e = .returned (.string s) ∧ PA s) ∧ Below W.heap.size W w')) ∧ Below W.heap.size W w') :
    Calls Try.prog 37 #[.agg #[.string u, .slice p n c]] w fun e w' => (∃ s1 s2, PA s1 ∧ PB s2 ∧ e = .returned (.string (⟨#[40, 62, 32]⟩ ++ s1 ++ ⟨#[32]⟩ ++ s2 ++ ⟨#[41]⟩))) ∧ Below w.heap.size w w' := by
  have CH' := Lib.hid CH
  have CC' := Lib.hid CC
  have HPA := Lib.hid hPA
  have HPB := Lib.hid hPB
  clear CH CC hPA hPB
  go_enter Try.func37, Try.ntmps37
  go_wp2_with (first | (go_at_call 68; go_must (refine (CH'.out _ (below1 _ _)).mono ?_; rintro e w1 ⟨rfl, hb1⟩; have y1 := below_blk hb1 (by simp) (heap_alloc_new w _); have q0 := cell_of (j := 0) y1; have q1 := cell_of (j := 1) y1; have hB1 := (below1 w _).trans (hb1.mono (by simp)))) | (go_at_call 69; first | ((with_reducible refine (CC'.out _ hB1).mono ?_); rintro e w2 ⟨⟨r3, off3, c3, uk, pk, nk, ck, ua, pa, na, ca, rfl, hr3, hc3, hc4, ⟨k0, k1⟩, ⟨e0, e1⟩, CK, CA'⟩, hb2⟩; have hc5 := maxLen_le hc4; have hB2 := hB1.trans (hb2.mono hB1.size); have l0 := (hB2.cell (p := ⟨r3, off3 + 6, none⟩) hr3).trans k0; have l1 := (hB2.cell (p := ⟨r3, off3 + 6 + 1, none⟩) hr3).trans k1) | ((with_reducible refine (CK.out _ hB2).mono ?_); rintro e w3 ⟨⟨r4, off4, c4, ub, pb, nb, cb, rfl, hr4, hc6, hc7, ⟨e2, e3⟩, CB'⟩, hb3⟩; have hc8 := maxLen_le hc7; have hB3 := hB2.trans (hb3.mono hB2.size))))
  have KA : Hid (∀ W, Below w3.heap.size w3 W → W.cell? ⟨r3, off3 + 4, none⟩ = some (.string ua) ∧ W.cell? ⟨r3, off3 + 4 + 1, none⟩ = some (.slice pa na ca) ∧ W.cell? ⟨r4, off4 + 4, none⟩ = some (.string ub) ∧ W.cell? ⟨r4, off4 + 4 + 1, none⟩ = some (.slice pb nb cb)) := Lib.hid (fun W hW => by
    have hq := hB3.trans (hW.mono hB3.size)
    exact ⟨(hq.cell (p := ⟨r3, off3 + 4, none⟩) hr3).trans e0, (hq.cell (p := ⟨r3, off3 + 4 + 1, none⟩) hr3).trans e1, (hq.cell (p := ⟨r4, off4 + 4, none⟩) hr4).trans e2, (hq.cell (p := ⟨r4, off4 + 4 + 1, none⟩) hr4).trans e3⟩)
  have hR0 := Below.refl w3.heap.size w3
  have hR1 := hR0.drew
  obtain ⟨i0, i1, i2, i3⟩ := KA.out _ hR0
  clear e0 e1 e2 e3 k0 k1 l0 l1 hb1 hb2 hb3 q0 q1 y1 CK
  first | (go_region_with (first | (go_at_call 37; ((with_reducible refine (CA'.out _ ?_).mono ?_); (· exact hB3.trans (Below.mono (by assumption) hB3.size)); rintro e w4 ⟨⟨s1, rfl, hp1⟩, hb4⟩; have hBw4 := Below.trans (by assumption : Below w3.heap.size w3 _) (hb4.mono (Below.size (by assumption))); have hR2 := hBw4.drew; obtain ⟨j0, j1, j2, j3⟩ := KA.out _ hBw4; have hz1 := HPA.out _ hp1; have := (show ¬ (9223372036854775807 : Nat) < 3 + s1.size by omega); have := (show ¬ (9223372036854775807 : Nat) < 3 + s1.size + 1 by omega))) | (go_at_call 37; ((with_reducible refine (CB'.out _ ?_).mono ?_); (· exact hB3.trans (Below.mono (by assumption) hB3.size)); rintro e w5 ⟨⟨s2, rfl, hp2⟩, hb5⟩; have hBw5 := Below.trans (by assumption : Below w3.heap.size w3 _) (hb5.mono (Below.size (by assumption))); have hR3 := hBw5.drew; have hz2 := HPB.out _ hp2; have := (show ¬ (9223372036854775807 : Nat) < 3 + s1.size + 1 + s2.size by omega); have := (show ¬ (9223372036854775807 : Nat) < 3 + s1.size + 1 + s2.size + 1 by omega))) | fail)) | fail
  all_goals
    go_wp2_with fail
    go_ret
    first
      | exact ⟨⟨s1, s2, hp1, hp2, rfl⟩, hB3.trans (hBw5.mono hB3.size)⟩
      | exact ⟨⟨s1, s2, hp1, hp2, rfl⟩, (hB3.trans (hBw5.mono hB3.size)).drew⟩
end Go.Proofs.Ytaoicbmepliklaa
