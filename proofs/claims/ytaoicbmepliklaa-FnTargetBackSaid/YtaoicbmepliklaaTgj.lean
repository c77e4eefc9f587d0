/- The program reads a type back from its target type: lists. -/
import Derived.Test.YtaoicbmepliklaaTgi
namespace Go.Proofs.Ytaoicbmepliklaa
open Go.RowKit
set_option maxRecDepth 8000
set_option linter.unusedSimpArgs false
set_option linter.unusedVariables false
set_option maxHeartbeats 20000000 in
theorem sf_pair (n : Nat) (ih : SFc n) (a b : Tr) (r off cap : Nat) (xs : List Value) (n1 n2 n3 : Int) (w : World) (hd : (Tr.list [.atom [116], a, b]).depth < n + 1) (hwf : (Tr.list [.atom [116], a, b]).wf) (hbt : (Tr.list [.atom [116], a, b]).bytes ≤ 12000) (hrlt : r < w.heap.size) (hc1 : 3 ≤ cap) (hc2 : cap ≤ maxLen) (h5 : hasRow w r off xs) (h6 : FVs nI w (fun k => k < w.heap.size) [.atom [116], a, b] xs) :
    Calls Try.prog 39 #[.agg #[.string ⟨#[]⟩, .slice (some ⟨r, off, none⟩) 3 cap, .int .i64 n1, .int .i64 n2, .int .i64 n3]] w fun e w' => SfPost w.heap.size (two [42] (src n a) (src n b)) e w' ∧ Below w.heap.size w w' := by
  have hc3 := maxLen_le hc2
  obtain ⟨⟨p0, m0, c0, v0, r0⟩, ⟨p1, m1, c1, v1, r1⟩, ⟨p2, m2, c2, v2, r2⟩⟩ := FVs.three nI_len h6 h5
  have hdd := depths3 (.atom [116]) a b
  obtain ⟨ua, a1, a2, a3, -, -, -, -, hna⟩ := nI_named a
  obtain ⟨ub, b1, b2, b3, -, -, -, -, hnb⟩ := nI_named b
  rw [hna] at v1 r1
  rw [hnb] at v2 r2
  have e0 : w.cell? ⟨r, off, none⟩ = some (.string ⟨#[116]⟩) := r0 0 _ rfl
  have j0 : w.cell? ⟨r, off + 5, none⟩ = some (.string ua) := r1 0 _ rfl
  have j1 : w.cell? ⟨r, off + 5 + 1, none⟩ = some (.slice p1 m1 c1) := r1 1 _ rfl
  have j2 : w.cell? ⟨r, off + 5 + 2, none⟩ = some (.int .i64 a1) := r1 2 _ rfl
  have j3 : w.cell? ⟨r, off + 5 + 3, none⟩ = some (.int .i64 a2) := r1 3 _ rfl
  have j4 : w.cell? ⟨r, off + 5 + 4, none⟩ = some (.int .i64 a3) := r1 4 _ rfl
  have i0 : w.cell? ⟨r, off + 10, none⟩ = some (.string ub) := r2 0 _ rfl
  have i1 : w.cell? ⟨r, off + 10 + 1, none⟩ = some (.slice p2 m2 c2) := r2 1 _ rfl
  have i2 : w.cell? ⟨r, off + 10 + 2, none⟩ = some (.int .i64 b1) := r2 2 _ rfl
  have i3 : w.cell? ⟨r, off + 10 + 3, none⟩ = some (.int .i64 b2) := r2 3 _ rfl
  have i4 : w.cell? ⟨r, off + 10 + 4, none⟩ = some (.int .i64 b3) := r2 4 _ rfl
  have hbb : a.bytes ≤ 12000 ∧ b.bytes ≤ 12000 := by simp only [Tr.bytes, bytess] at hbt; omega
  have CS : Hid (∀ W, Below w.heap.size w W → Calls Try.prog 71 #[.string ⟨#[42]⟩, .agg #[.string ua, .slice p1 m1 c1, .int .i64 a1, .int .i64 a2, .int .i64 a3], .agg #[.string ub, .slice p2 m2 c2, .int .i64 b1, .int .i64 b2, .int .i64 b3]] W fun e w' => SfPost W.heap.size (two [42] (src n a) (src n b)) e w' ∧ Below W.heap.size W w') :=
    Lib.hid (fun W hW => sot_c n ih [42] (okAt_one (by decide)) a b ua ub p1 p2 m1 c1 m2 c2 a1 a2 a3 b1 b2 b3 W (by omega) (by omega) hwf.2.2.1 hwf.2.2.2.1 hbb.1 hbb.2 hna hnb ((v1.below hW (fun k hk => hk)).wide (fun k hk => Nat.lt_of_lt_of_le hk hW.size)) ((v2.below hW (fun k hk => hk)).wide (fun k hk => Nat.lt_of_lt_of_le hk hW.size)))
  have y0 := heap_alloc_new2 w (.cells #[.string ⟨#[]⟩, .slice (some ⟨r, off, none⟩) 3 cap, .int .i64 n1, .int .i64 n2, .int .i64 n3] 41) (.cells #[.string ⟨#[]⟩, .slice none 0 0, .int .i64 0, .int .i64 0, .int .i64 0] 41)
  have b0 := blk_alloc (o' := .cells #[.string ⟨#[]⟩, .slice none 0 0, .int .i64 0, .int .i64 0, .int .i64 0] 41) (heap_alloc_new w (.cells #[.string ⟨#[]⟩, .slice (some ⟨r, off, none⟩) 3 cap, .int .i64 n1, .int .i64 n2, .int .i64 n3] 41))
  generalize two [42] (src n a) (src n b) = R at *
  clear ih h5 h6 v0 v1 v2 r0 r1 r2 hna hnb hwf hbt hd hdd hbb
  go_enter Try.func39, Try.ntmps39
  go_wp2_with (go_at_call 55; go_must (refine (isAtom_no _ _ _ _ (by simp) _ _ _ _).mono ?_; rintro e w1 ⟨rfl, hb1⟩; have y1 := below_blk hb1 (lt_of_block y0) y0; have d1 := below_blk hb1 (lt_of_block b0) b0; have hB1 := (below2 w _ _).trans (hb1.mono (by simp; omega)); have hs1 := hb1.size; have q0 := cell_of (j := 0) d1; have q1 := cell_of (j := 1) d1; have q2 := cell_of (j := 2) d1; have q3 := cell_of (j := 3) d1; have q4 := cell_of (j := 4) d1; have g0 := (hB1.cell (p := ⟨r, off, none⟩) hrlt).trans e0))
  have KA : Hid (∀ W, Below w1.heap.size w1 W → (W.cell? ⟨r, off + 5, none⟩ = some (.string ua) ∧ W.cell? ⟨r, off + 5 + 1, none⟩ = some (.slice p1 m1 c1) ∧ W.cell? ⟨r, off + 5 + 2, none⟩ = some (.int .i64 a1) ∧ W.cell? ⟨r, off + 5 + 3, none⟩ = some (.int .i64 a2) ∧ W.cell? ⟨r, off + 5 + 4, none⟩ = some (.int .i64 a3)) ∧ (W.cell? ⟨r, off + 10, none⟩ = some (.string ub) ∧ W.cell? ⟨r, off + 10 + 1, none⟩ = some (.slice p2 m2 c2) ∧ W.cell? ⟨r, off + 10 + 2, none⟩ = some (.int .i64 b1) ∧ W.cell? ⟨r, off + 10 + 3, none⟩ = some (.int .i64 b2) ∧ W.cell? ⟨r, off + 10 + 4, none⟩ = some (.int .i64 b3)) ∧ W.cell? ⟨w.heap.size, 1, none⟩ = some (.slice (some ⟨r, off, none⟩) 3 cap) ∧ W.heap[w.heap.size + 1]? = some (.cells #[.string ⟨#[]⟩, .slice none 0 0, .int .i64 0, .int .i64 0, .int .i64 0] 41 (0, 0))) := Lib.hid (fun W hW => by
    have h2 := below_blk hW (lt_of_block d1) d1
    have h3 := below_blk hW (lt_of_block y1) y1
    have hq := hB1.trans (hW.mono hB1.size)
    exact ⟨⟨(hq.cell (p := ⟨r, off + 5, none⟩) hrlt).trans j0, (hq.cell (p := ⟨r, off + 5 + 1, none⟩) hrlt).trans j1, (hq.cell (p := ⟨r, off + 5 + 2, none⟩) hrlt).trans j2, (hq.cell (p := ⟨r, off + 5 + 3, none⟩) hrlt).trans j3, (hq.cell (p := ⟨r, off + 5 + 4, none⟩) hrlt).trans j4⟩, ⟨(hq.cell (p := ⟨r, off + 10, none⟩) hrlt).trans i0, (hq.cell (p := ⟨r, off + 10 + 1, none⟩) hrlt).trans i1, (hq.cell (p := ⟨r, off + 10 + 2, none⟩) hrlt).trans i2, (hq.cell (p := ⟨r, off + 10 + 3, none⟩) hrlt).trans i3, (hq.cell (p := ⟨r, off + 10 + 4, none⟩) hrlt).trans i4⟩, cell_of (j := 1) h2, h3⟩)
  have hR0 := Below.refl w1.heap.size w1
  have hR1 := hR0.drew
  obtain ⟨⟨s0, s1, s2, s3, s4⟩, ⟨t0, t1, t2, t3, t4⟩, l1, -⟩ := KA.out _ hR0
  first | (go_region_with (first | (go_at_call 71; ((with_reducible refine (CS.out _ ?_).mono ?_); (· exact hB1.trans (Below.mono (by assumption) hB1.size)); rintro e w2 ⟨hp, hb2⟩; obtain ⟨u4, p4, m4, k4, x4, y4, z4, b4, rfl⟩ := sfPost_shape hp; have hp' : SfPost w1.heap.size R _ w2 := hp; have HP := Lib.hid hp'; clear hp hp'; have hBw2 := Below.trans (by assumption : Below w1.heap.size w1 _) (hb2.mono (Below.size (by assumption))); have yw := (KA.out _ hBw2).2.2.2; have zc0 := cell_of (j := 0) yw; have zc1 := cell_of (j := 1) yw; have zc2 := cell_of (j := 2) yw; have zc3 := cell_of (j := 3) yw; have zc4 := cell_of (j := 4) yw; have zf0 := free_of (j := 0) yw; have zf1 := free_of (j := 1) yw; have zf2 := free_of (j := 2) yw; have zf3 := free_of (j := 3) yw; have zf4 := free_of (j := 4) yw)) | fail)) | fail
  all_goals
    go_wp2_with fail
    have hB2 := hB1.trans (hBw2.mono hB1.size)
    have O := set5_same yw (.string u4) (.slice p4 m4 k4) (.int .i64 x4) (.int .i64 y4) (.int .i64 z4)
    have r0 := cell_of (j := 0) O
    have r1 := cell_of (j := 1) O
    have r2 := cell_of (j := 2) O
    have r3 := cell_of (j := 3) O
    have r4 := cell_of (j := 4) O
    have hlt := lt_of_block yw
    refine bodyPost_ret (v := .tuple #[.agg #[.string u4, .slice p4 m4 k4, .int .i64 x4, .int .i64 y4, .int .i64 z4], .bool b4]) (by simp [results, Try.results39, go_sem, r0, r1, r2, r3, r4, hlt]) rfl ⟨sfPost_move HP.out (by have := hB1.size; have := hs1; simp at this; omega) (by simp) (fun k hk1 hk2 => by rw [set5_other (by have := hs1; simp at this; omega)]), ?_⟩
    first
      | exact (set5 hB2 (by omega) _ _ _ _ _).drew
      | exact set5 hB2 (by omega) _ _ _ _ _
end Go.Proofs.Ytaoicbmepliklaa
