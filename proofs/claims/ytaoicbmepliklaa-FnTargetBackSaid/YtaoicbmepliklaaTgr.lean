/- The reference model reads a type back from its target type: the shapes of a form. -/
import Derived.Test.YtaoicbmepliklaaTgq
import Derived.Deep.RegionWith
import Derived.Deep.RegionHeld3
import Derived.Deep.DrawnRows
namespace Go.Proofs.Ytaoicbmepliklaa
open Go.RowKit
set_option maxRecDepth 8000
set_option linter.unusedSimpArgs false
set_option linter.unusedVariables false
set_option maxHeartbeats 2000000 in
theorem bk_i (u : ByteArray) (h1 : (u.toList == [105]) = true) (p : Option Addr) (n c : Nat) (w : World) :
    Calls Try.prog 37 #[.agg #[.string u, .slice p n c]] w fun e w' => e = .returned (.string ⟨#[105]⟩) ∧ Below w.heap.size w w' := by
  go_enter Try.func37, Try.ntmps37
  go_wp2_with fail
  go_ret
  exact ⟨rfl, below1 _ _⟩
set_option maxHeartbeats 2000000 in
theorem bk_o (u hd : ByteArray) (h0 : (u.toList == [105]) = false) (h1 : (hd.toList == [116]) = false) (h2 : (hd.toList == [101]) = false) (p : Option Addr) (n c : Nat) (w : World)
    (CH : ∀ W, Below w.heap.size w W → Calls Try.prog 68 #[.agg #[.string u, .slice p n c]] W fun e w' => e = .returned (.string hd) ∧ Below W.heap.size W w') :
    Calls Try.prog 37 #[.agg #[.string u, .slice p n c]] w fun e w' => e = .returned (.string ⟨#[]⟩) ∧ Below w.heap.size w w' := by
  have CH' := Lib.hid CH
  clear CH
  go_enter Try.func37, Try.ntmps37
  go_wp2_with (go_at_call 68; go_must (refine (CH'.out _ (below1 _ _)).mono ?_; rintro e w1 ⟨rfl, hb1⟩; have y1 := below_blk hb1 (by simp) (heap_alloc_new w _); have q0 := cell_of (j := 0) y1; have q1 := cell_of (j := 1) y1; have hB1 := (below1 w _).trans (hb1.mono (by simp))))
  go_ret
  exact ⟨rfl, hB1⟩
set_option maxHeartbeats 2000000 in
theorem bk_tl (u hd : ByteArray) (h0 : (u.toList == [105]) = false) (h1 : (hd.toList == [116]) = true) (p : Option Addr) (n c : Nat) (hn : n ≠ 3) (hnm : n ≤ maxLen) (w : World)
    (CH : ∀ W, Below w.heap.size w W → Calls Try.prog 68 #[.agg #[.string u, .slice p n c]] W fun e w' => e = .returned (.string hd) ∧ Below W.heap.size W w') :
    Calls Try.prog 37 #[.agg #[.string u, .slice p n c]] w fun e w' => e = .returned (.string ⟨#[]⟩) ∧ Below w.heap.size w w' := by
  have CH' := Lib.hid CH
  clear CH
  have hm := maxLen_le hnm
  have hn1 : ((n : Int) != 3) = true := by simp; omega
  have hn2 : ¬ (n : Int) = 3 := by omega
  go_enter Try.func37, Try.ntmps37
  go_wp2_with (go_at_call 68; go_must (refine (CH'.out _ (below1 _ _)).mono ?_; rintro e w1 ⟨rfl, hb1⟩; have y1 := below_blk hb1 (by simp) (heap_alloc_new w _); have q0 := cell_of (j := 0) y1; have q1 := cell_of (j := 1) y1; have hB1 := (below1 w _).trans (hb1.mono (by simp))))
  go_ret
  exact ⟨rfl, hB1⟩
set_option maxHeartbeats 20000000 in
theorem bk_t (u hd ua ub : ByteArray) (h0 : (u.toList == [105]) = false) (h1 : (hd.toList == [116]) = true) (r off c : Nat) (hc : 3 ≤ c) (hcm : c ≤ maxLen) (pa pb : Option Addr) (na ca nb cb : Nat) (w : World) (hr : r < w.heap.size)
    (e0 : w.cell? ⟨r, off + 2, none⟩ = some (.string ua)) (e1 : w.cell? ⟨r, off + 2 + 1, none⟩ = some (.slice pa na ca)) (e2 : w.cell? ⟨r, off + 4, none⟩ = some (.string ub)) (e3 : w.cell? ⟨r, off + 4 + 1, none⟩ = some (.slice pb nb cb))
    (CH : ∀ W, Below w.heap.size w W → Calls Try.prog 68 #[.agg #[.string u, .slice (some ⟨r, off, none⟩) 3 c]] W fun e w' => e = .returned (.string hd) ∧ Below W.heap.size W w')
    (PA PB : ByteArray → Prop) (hPA : ∀ s, PA s → s.size ≤ 200000) (hPB : ∀ s, PB s → s.size ≤ 200000)
    (CA : ∀ W, Below w.heap.size w W → Calls Try.prog 37 #[.agg #[.string ua, .slice pa na ca]] W fun e w' => (∃ s, e = .returned (.string s) ∧ PA s) ∧ Below W.heap.size W w')
    (CB : ∀ W, Below w.heap.size w W → Calls Try.prog 37 #[.agg #[.string ub, .slice pb nb cb]] W fun e w' => (∃ s, e = .returned (.string s) ∧ PB s) ∧ Below W.heap.size W w') :
    Calls Try.prog 37 #[.agg #[.string u, .slice (some ⟨r, off, none⟩) 3 c]] w fun e w' => (∃ s1 s2, PA s1 ∧ PB s2 ∧ e = .returned (.string (⟨#[40, 42, 32]⟩ ++ s1 ++ ⟨#[32]⟩ ++ s2 ++ ⟨#[41]⟩))) ∧ Below w.heap.size w w' := by
  have CH' := Lib.hid CH
  have CA' := Lib.hid CA
  have CB' := Lib.hid CB
  have HPA := Lib.hid hPA
  have HPB := Lib.hid hPB
  clear CH CA CB hPA hPB
  have hm := maxLen_le hcm
  go_enter Try.func37, Try.ntmps37
  go_wp2_with (go_at_call 68; go_must (refine (CH'.out _ (below1 _ _)).mono ?_; rintro e w1 ⟨rfl, hb1⟩; have y1 := below_blk hb1 (by simp) (heap_alloc_new w _); have q0 := cell_of (j := 0) y1; have q1 := cell_of (j := 1) y1; have hB1 := (below1 w _).trans (hb1.mono (by simp))))
  have KA : Hid (∀ W, Below w1.heap.size w1 W → W.cell? ⟨r, off + 2, none⟩ = some (.string ua) ∧ W.cell? ⟨r, off + 2 + 1, none⟩ = some (.slice pa na ca) ∧ W.cell? ⟨r, off + 4, none⟩ = some (.string ub) ∧ W.cell? ⟨r, off + 4 + 1, none⟩ = some (.slice pb nb cb) ∧ W.cell? ⟨w.heap.size, 1, none⟩ = some (.slice (some ⟨r, off, none⟩) 3 c)) := Lib.hid (fun W hW => by
    have hq := hB1.trans (hW.mono hB1.size)
    exact ⟨(hq.cell (p := ⟨r, off + 2, none⟩) hr).trans e0, (hq.cell (p := ⟨r, off + 2 + 1, none⟩) hr).trans e1, (hq.cell (p := ⟨r, off + 4, none⟩) hr).trans e2, (hq.cell (p := ⟨r, off + 4 + 1, none⟩) hr).trans e3, cell_of (j := 1) (below_blk hW (lt_of_block y1) y1)⟩)
  have hR0 := Below.refl w1.heap.size w1
  have hR1 := hR0.drew
  obtain ⟨i0, i1, i2, i3, i4⟩ := KA.out _ hR0
  clear e0 e1 e2 e3 hb1 q0 q1 y1
  first | (go_region_with (first | (go_at_call 37; ((with_reducible refine (CA'.out _ ?_).mono ?_); (· exact hB1.trans (Below.mono (by assumption) hB1.size)); rintro e w2 ⟨⟨s1, rfl, hp1⟩, hb2⟩; have hBw2 := Below.trans (by assumption : Below w1.heap.size w1 _) (hb2.mono (Below.size (by assumption))); have hR2 := hBw2.drew; obtain ⟨j0, j1, j2, j3, j4⟩ := KA.out _ hBw2; have hz1 := HPA.out _ hp1; have := (show ¬ (9223372036854775807 : Nat) < 3 + s1.size by omega); have := (show ¬ (9223372036854775807 : Nat) < 3 + s1.size + 1 by omega))) | (go_at_call 37; ((with_reducible refine (CB'.out _ ?_).mono ?_); (· exact hB1.trans (Below.mono (by assumption) hB1.size)); rintro e w3 ⟨⟨s2, rfl, hp2⟩, hb3⟩; have hBw3 := Below.trans (by assumption : Below w1.heap.size w1 _) (hb3.mono (Below.size (by assumption))); have hR3 := hBw3.drew; have hz2 := HPB.out _ hp2; have := (show ¬ (9223372036854775807 : Nat) < 3 + s1.size + 1 + s2.size by omega); have := (show ¬ (9223372036854775807 : Nat) < 3 + s1.size + 1 + s2.size + 1 by omega))) | fail)) | fail
  all_goals
    go_wp2_with fail
    go_ret
    first
      | exact ⟨⟨s1, s2, hp1, hp2, rfl⟩, hB1.trans (hBw3.mono hB1.size)⟩
      | exact ⟨⟨s1, s2, hp1, hp2, rfl⟩, (hB1.trans (hBw3.mono hB1.size)).drew⟩
end Go.Proofs.Ytaoicbmepliklaa
