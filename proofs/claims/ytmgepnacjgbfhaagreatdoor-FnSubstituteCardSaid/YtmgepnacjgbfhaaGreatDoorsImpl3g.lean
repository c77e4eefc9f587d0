/- The program: the type of an expression by the types of its parts. -/
import Derived.Test.YtmgepnacjgbfhaaGreatDoorsImpl3f
import Derived.Test.YtmgepnacjgbfhaaGreatDoorsAsrA
import Derived.Deep.RegionWith
namespace Go.Proofs.YtmgepnacjgbfhaaGreatDoor
open Go.RowKit Go.Proofs.Tryz
set_option maxRecDepth 8000
set_option maxHeartbeats 20000000
set_option linter.unusedVariables false
set_option linter.unusedSimpArgs false
def J0 (w : World) (ok : Nat → Prop) (r : Option Tr) (e : Ending) (w' : World) : Prop :=
 match r with
 | none => ∃ u p m c, ∃ i1 i2 i3 : Int, e = .returned (.tuple #[.agg #[.string u, .slice p m c, .int .i64 i1, .int .i64 i2, .int .i64 i3], .bool false])
 | some t => ∃ p m c, e = .returned (.tuple #[.agg #[.string (bs (Z0 t)), .slice p m c, .int .i64 t.bytes, .int .i64 t.size, .int .i64 t.depth], .bool true]) ∧ FV nI w' (okN w w' ok) t (nI t (.slice p m c))
theorem Vz {t : Tr} {w0 : World} {ok : Nat → Prop} {p : Option Addr} {m c : Nat} (hwf : t.wf) (hv : FV nI w0 ok t (nI t (.slice p m c))) (W : World) : Calls prog 76 #[.agg #[.string (bs (Z0 t)), .slice p m c, .int .i64 t.bytes, .int .i64 t.size, .int .i64 t.depth]] W fun e w' => e = .returned (.bool (Ya t)) ∧ Below W.heap.size W w' := by
 match t, hwf, hv with
 | .atom a, _, hv =>
   simp only [FV] at hv
   have hh := Ji _ _ _ hv
   simp only [Value.slice.injEq] at hh
   obtain ⟨rfl, rfl, rfl⟩ := hh
   exact Z14 _ _ _ _ _ _ _
 | .list ts, hwf, hv =>
   obtain ⟨r, off, cap, xs, hh, _⟩ := hv.list_cells
   have hh := Ji _ _ _ hh
   simp only [Value.slice.injEq] at hh
   obtain ⟨rfl, rfl, rfl⟩ := hh
   exact Ja _ _ _ _ (by have := hwf.1; cases ts with | nil => exact absurd rfl this | cons _ _ => simp) _ _ _ _
theorem tp_tI (w : World) (ok : Nat → Prop) (w' : World) : J0 w ok (some tI) (.returned (.tuple #[.agg #[.string ⟨#[105]⟩, .slice none 0 0, .int .i64 1, .int .i64 1, .int .i64 0], .bool true])) w' := ⟨none, 0, 0, rfl, by simp only [tI, FV]⟩
theorem tp_number (w : World) (ok : Nat → Prop) (u : Value) (v : Value) : Calls prog 44 #[.iface 111 u, v] w fun e w' => J0 w ok (some tI) e w' ∧ Below w.heap.size w w' := by
 have N1 := H_ (fun W => Kb ⟨#[105]⟩ W (show 1 ≤ 12000 by decide))
 have y := heap_alloc_new w (.cells #[.string ⟨#[]⟩, .slice none 0 0, .int .i64 0, .int .i64 0, .int .i64 0] 49)
 go_enter func44, ntmps44
 go_wp2_with (go_at_call 83; go_must (refine (N1.out _).mono ?_; rintro e w1 ⟨rfl, hb1⟩; have y1 := Z1 hb1 (lt_of_block y) y; obtain ⟨f0, f1, f2, f3, f4⟩ := Zf y1; obtain ⟨z0, z1, z2, z3, z4⟩ := Zb y1))
 have O := Zg y1 (.string ⟨#[105]⟩) (.slice none 0 0) (.int .i64 1) (.int .i64 1) (.int .i64 0)
 obtain ⟨r0, r1, r2, r3, r4⟩ := Zb O
 refine bodyPost_ret (v := .tuple #[.agg #[.string ⟨#[105]⟩, .slice none 0 0, .int .i64 1, .int .i64 1, .int .i64 0], .bool true]) (by simp [results, results44, go_sem, r0, r1, r2, r3, r4]) rfl ⟨tp_tI w ok _, ?_⟩
 exact Ym ((Z4 w _).trans (hb1.mono (by simp))) (Nat.le_refl _) _ _ _ _ _
theorem tp_add (ok : Nat → Prop) (ta tb : Tr) (u v : Value) (w : World) (hok : ∀ k, ok k → k < w.heap.size) (ha : ta.wf) (hb : tb.wf) (hr : Z0h w ok [ta, tb] v) :
 Calls prog 44 #[.iface 127 u, v] w fun e w' => J0 w ok (Yt .add ta tb) e w' ∧ Below w.heap.size w w' := by
 obtain ⟨r, off, cap, ys, rfl, h1, h2, h3, h4, h5⟩ : ∃ r off cap ys, v = .slice (some ⟨r, off, none⟩) 2 cap ∧ 2 ≤ cap ∧ cap ≤ maxLen ∧ r < w.heap.size ∧ Yc w r off ys ∧ FVs nI w ok [ta, tb] ys := by
  rcases hr with ⟨h, _⟩ | h
  · cases h
  · exact h
 have hm := Zx h2
 obtain ⟨cs1, g1, w1⟩ := FVs.get Xz h5 h4 0 (by simp)
 obtain ⟨p1, n1, c1, rfl⟩ := g1.node
 simp only [List.getElem_cons_zero, List.getElem_cons_succ] at g1 w1
 obtain ⟨ua, a1, a2, a3, hu1, hx1, hy1, hz1, hq1⟩ := Zm ta
 rw [hq1] at w1
 have x0 : w.cell? ⟨r, off, none⟩ = some (.string ua) := by simpa using w1 0 _ rfl
 have x1 : w.cell? ⟨r, off + 1, none⟩ = some (.slice p1 n1 c1) := by simpa using w1 1 _ rfl
 have x2 : w.cell? ⟨r, off + 2, none⟩ = some (.int .i64 a1) := by simpa using w1 2 _ rfl
 have x3 : w.cell? ⟨r, off + 3, none⟩ = some (.int .i64 a2) := by simpa using w1 3 _ rfl
 have x4 : w.cell? ⟨r, off + 4, none⟩ = some (.int .i64 a3) := by simpa using w1 4 _ rfl
 obtain ⟨cs2, g2, w2⟩ := FVs.get Xz h5 h4 1 (by simp)
 obtain ⟨p2, n2, c2, rfl⟩ := g2.node
 simp only [List.getElem_cons_zero, List.getElem_cons_succ] at g2 w2
 obtain ⟨ub, b1, b2, b3, hu2, hx2, hy2, hz2, hq2⟩ := Zm tb
 rw [hq2] at w2
 have y0 : w.cell? ⟨r, off + 5, none⟩ = some (.string ub) := by simpa using w2 0 _ rfl
 have y1 : w.cell? ⟨r, off + 5 + 1, none⟩ = some (.slice p2 n2 c2) := by simpa using w2 1 _ rfl
 have y2 : w.cell? ⟨r, off + 5 + 2, none⟩ = some (.int .i64 b1) := by simpa using w2 2 _ rfl
 have y3 : w.cell? ⟨r, off + 5 + 3, none⟩ = some (.int .i64 b2) := by simpa using w2 3 _ rfl
 have y4 : w.cell? ⟨r, off + 5 + 4, none⟩ = some (.int .i64 b3) := by simpa using w2 4 _ rfl
 have KS : Hid (∀ W, Below w.heap.size w W → W.cell? ⟨r, off, none⟩ = some (.string ua) ∧ W.cell? ⟨r, off + 1, none⟩ = some (.slice p1 n1 c1) ∧ W.cell? ⟨r, off + 2, none⟩ = some (.int .i64 a1) ∧ W.cell? ⟨r, off + 3, none⟩ = some (.int .i64 a2) ∧ W.cell? ⟨r, off + 4, none⟩ = some (.int .i64 a3) ∧ W.cell? ⟨r, off + 5, none⟩ = some (.string ub) ∧ W.cell? ⟨r, off + 5 + 1, none⟩ = some (.slice p2 n2 c2) ∧ W.cell? ⟨r, off + 5 + 2, none⟩ = some (.int .i64 b1) ∧ W.cell? ⟨r, off + 5 + 3, none⟩ = some (.int .i64 b2) ∧ W.cell? ⟨r, off + 5 + 4, none⟩ = some (.int .i64 b3)) := H_ (fun W hW => ⟨(hW.cell (p := ⟨r, off, none⟩) h3).trans (x0), (hW.cell (p := ⟨r, off + 1, none⟩) h3).trans (x1), (hW.cell (p := ⟨r, off + 2, none⟩) h3).trans (x2), (hW.cell (p := ⟨r, off + 3, none⟩) h3).trans (x3), (hW.cell (p := ⟨r, off + 4, none⟩) h3).trans (x4), (hW.cell (p := ⟨r, off + 5, none⟩) h3).trans (y0), (hW.cell (p := ⟨r, off + 5 + 1, none⟩) h3).trans (y1), (hW.cell (p := ⟨r, off + 5 + 2, none⟩) h3).trans (y2), (hW.cell (p := ⟨r, off + 5 + 3, none⟩) h3).trans (y3), (hW.cell (p := ⟨r, off + 5 + 4, none⟩) h3).trans (y4)⟩)
 have N1 := H_ (fun W => Kb ⟨#[105]⟩ W (show 1 ≤ 12000 by decide))
 have CA : Hid (∀ W, Calls prog 76 #[.agg #[.string ua, .slice p1 n1 c1, .int .i64 a1, .int .i64 a2, .int .i64 a3]] W fun e w' => e = .returned (.bool (Ya ta)) ∧ Below W.heap.size W w') := H_ (fun W => by rw [hu1, hx1, hy1, hz1]; exact Vz ha g1 W)
 have CB : Hid (∀ W, Calls prog 76 #[.agg #[.string ub, .slice p2 n2 c2, .int .i64 b1, .int .i64 b2, .int .i64 b3]] W fun e w' => e = .returned (.bool (Ya tb)) ∧ Below W.heap.size W w') := H_ (fun W => by rw [hu2, hx2, hy2, hz2]; exact Vz hb g2 W)
 have HJ := H_ (show Yt .add ta tb = if Ya ta = true ∧ Ya tb = true then some tI else none from rfl)
 obtain ⟨wa, hwa⟩ : ∃ wa, wa = w.alloc (.cells #[.string ⟨#[]⟩, .slice none 0 0, .int .i64 0, .int .i64 0, .int .i64 0] 49) := ⟨_, rfl⟩
 have yw : wa.heap[w.heap.size]? = some (.cells #[.string ⟨#[]⟩, .slice none 0 0, .int .i64 0, .int .i64 0, .int .i64 0] 49 (0, 0)) := by rw [hwa]; exact heap_alloc_new _ _
 have hbw := H_ (show Below w.heap.size w wa by rw [hwa]; exact Z4 _ _)
 have KA : Hid (∀ W, Below wa.heap.size wa W → (W.cell? ⟨r, off, none⟩ = some (.string ua) ∧ W.cell? ⟨r, off + 1, none⟩ = some (.slice p1 n1 c1) ∧ W.cell? ⟨r, off + 2, none⟩ = some (.int .i64 a1) ∧ W.cell? ⟨r, off + 3, none⟩ = some (.int .i64 a2) ∧ W.cell? ⟨r, off + 4, none⟩ = some (.int .i64 a3) ∧ W.cell? ⟨r, off + 5, none⟩ = some (.string ub) ∧ W.cell? ⟨r, off + 5 + 1, none⟩ = some (.slice p2 n2 c2) ∧ W.cell? ⟨r, off + 5 + 2, none⟩ = some (.int .i64 b1) ∧ W.cell? ⟨r, off + 5 + 3, none⟩ = some (.int .i64 b2) ∧ W.cell? ⟨r, off + 5 + 4, none⟩ = some (.int .i64 b3)) ∧ W.heap[w.heap.size]? = some (.cells #[.string ⟨#[]⟩, .slice none 0 0, .int .i64 0, .int .i64 0, .int .i64 0] 49 (0, 0))) := H_ (fun W hW => ⟨KS.out W (hbw.out.trans (hW.mono hbw.out.size)), Z1 hW (lt_of_block yw) yw⟩)
 have hD : Below wa.heap.size wa wa.drew := (Below.refl _ _).drew
 have hD1 : Below wa.heap.size wa wa := Below.refl _ _
 obtain ⟨⟨ix0, ix1, ix2, ix3, ix4, iy0, iy1, iy2, iy3, iy4⟩, y0⟩ := KA.out _ hD1
 clear y0
 clear g1 w1 hu1 hx1 hy1 hz1 hq1 x0 x1 x2 x3 x4 g2 w2 hu2 hx2 hy2 hz2 hq2 y0 y1 y2 y3 y4 h4 h5 hr h1 ha hb KS
 cases hza : Ya ta with
 | false =>
   rw [hza] at CA HJ
   have HF := H_ (show Yt .add ta tb = none by rw [HJ.out]; simp)
   rw [HF.out]
   clear HJ hza CB
   go_enter func44, ntmps44
   go_wp2_with fail
   rw [← hwa]
   clear hwa yw
   first | (go_region_with (first | (go_at_call 83; first | ((with_reducible refine (N1.out _).mono ?_); rintro e w1 ⟨rfl, hbw1⟩; have hBw1 := Below.trans (by assumption : Below wa.heap.size wa _) (hbw1.mono (Below.size (by assumption))); obtain ⟨⟨jx0, jx1, jx2, jx3, jx4, jy0, jy1, jy2, jy3, jy4⟩, yw1⟩ := KA.out _ hBw1; obtain ⟨f0, f1, f2, f3, f4⟩ := Zf yw1; obtain ⟨z0, z1, z2, z3, z4⟩ := Zb yw1)) | (go_at_call 76; first | ((with_reducible refine (CA.out _).mono ?_); rintro e w2 ⟨rfl, hbw2⟩; have hBw2 := Below.trans (by assumption : Below wa.heap.size wa _) (hbw2.mono (Below.size (by assumption))); obtain ⟨⟨kx0, kx1, kx2, kx3, kx4, ky0, ky1, ky2, ky3, ky4⟩, yw2⟩ := KA.out _ hBw2; obtain ⟨f0, f1, f2, f3, f4⟩ := Zf yw2; obtain ⟨z0, z1, z2, z3, z4⟩ := Zb yw2)))) | fail
   all_goals
    go_wp2_with fail
    have O := Zg yw2 (.string ⟨#[105]⟩) (.slice none 0 0) (.int .i64 1) (.int .i64 1) (.int .i64 0)
    obtain ⟨r0, r1, r2, r3, r4⟩ := Zb O
    refine bodyPost_ret (v := .tuple #[.agg #[.string ⟨#[105]⟩, .slice none 0 0, .int .i64 1, .int .i64 1, .int .i64 0], .bool false]) (by simp [results, results44, go_sem, r0, r1, r2, r3, r4]) rfl ⟨⟨_, _, _, _, _, _, _, rfl⟩, ?_⟩
    first
     | exact Ym (hbw.out.trans (hBw2.mono hbw.out.size)) (Nat.le_refl _) _ _ _ _ _
     | exact (Ym (hbw.out.trans (hBw2.mono hbw.out.size)) (Nat.le_refl _) _ _ _ _ _).drew
 | true =>
   rw [hza] at CA HJ
   cases hzb : Ya tb with
   | false =>
     rw [hzb] at CB HJ
     have HF := H_ (show Yt .add ta tb = none by rw [HJ.out]; simp)
     rw [HF.out]
     clear HJ hza hzb
     go_enter func44, ntmps44
     go_wp2_with fail
     rw [← hwa]
     clear hwa yw
     first | (go_region_with (first | (go_at_call 83; first | ((with_reducible refine (N1.out _).mono ?_); rintro e w1 ⟨rfl, hbw1⟩; have hBw1 := Below.trans (by assumption : Below wa.heap.size wa _) (hbw1.mono (Below.size (by assumption))); obtain ⟨⟨jx0, jx1, jx2, jx3, jx4, jy0, jy1, jy2, jy3, jy4⟩, yw1⟩ := KA.out _ hBw1; obtain ⟨f0, f1, f2, f3, f4⟩ := Zf yw1; obtain ⟨z0, z1, z2, z3, z4⟩ := Zb yw1)) | (go_at_call 76; first | ((with_reducible refine (CA.out _).mono ?_); rintro e w2 ⟨rfl, hbw2⟩; have hBw2 := Below.trans (by assumption : Below wa.heap.size wa _) (hbw2.mono (Below.size (by assumption))); obtain ⟨⟨kx0, kx1, kx2, kx3, kx4, ky0, ky1, ky2, ky3, ky4⟩, yw2⟩ := KA.out _ hBw2; obtain ⟨f0, f1, f2, f3, f4⟩ := Zf yw2; obtain ⟨z0, z1, z2, z3, z4⟩ := Zb yw2) | ((with_reducible refine (CB.out _).mono ?_); rintro e w3 ⟨rfl, hbw3⟩; have hBw3 := Below.trans (by assumption : Below wa.heap.size wa _) (hbw3.mono (Below.size (by assumption))); obtain ⟨⟨lx0, lx1, lx2, lx3, lx4, ly0, ly1, ly2, ly3, ly4⟩, yw3⟩ := KA.out _ hBw3; obtain ⟨f0, f1, f2, f3, f4⟩ := Zf yw3; obtain ⟨z0, z1, z2, z3, z4⟩ := Zb yw3)))) | fail
     all_goals
      go_wp2_with fail
      have O := Zg yw3 (.string ⟨#[105]⟩) (.slice none 0 0) (.int .i64 1) (.int .i64 1) (.int .i64 0)
      obtain ⟨r0, r1, r2, r3, r4⟩ := Zb O
      refine bodyPost_ret (v := .tuple #[.agg #[.string ⟨#[105]⟩, .slice none 0 0, .int .i64 1, .int .i64 1, .int .i64 0], .bool false]) (by simp [results, results44, go_sem, r0, r1, r2, r3, r4]) rfl ⟨⟨_, _, _, _, _, _, _, rfl⟩, ?_⟩
      first
       | exact Ym (hbw.out.trans (hBw3.mono hbw.out.size)) (Nat.le_refl _) _ _ _ _ _
       | exact (Ym (hbw.out.trans (hBw3.mono hbw.out.size)) (Nat.le_refl _) _ _ _ _ _).drew
   | true =>
     rw [hzb] at CB HJ
     have HF := H_ (show Yt .add ta tb = some tI by rw [HJ.out]; simp)
     rw [HF.out]
     clear HJ hza hzb
     go_enter func44, ntmps44
     go_wp2_with fail
     rw [← hwa]
     clear hwa yw
     first | (go_region_with (first | (go_at_call 83; first | ((with_reducible refine (N1.out _).mono ?_); rintro e w1 ⟨rfl, hbw1⟩; have hBw1 := Below.trans (by assumption : Below wa.heap.size wa _) (hbw1.mono (Below.size (by assumption))); obtain ⟨⟨jx0, jx1, jx2, jx3, jx4, jy0, jy1, jy2, jy3, jy4⟩, yw1⟩ := KA.out _ hBw1; obtain ⟨f0, f1, f2, f3, f4⟩ := Zf yw1; obtain ⟨z0, z1, z2, z3, z4⟩ := Zb yw1)) | (go_at_call 76; first | ((with_reducible refine (CA.out _).mono ?_); rintro e w2 ⟨rfl, hbw2⟩; have hBw2 := Below.trans (by assumption : Below wa.heap.size wa _) (hbw2.mono (Below.size (by assumption))); obtain ⟨⟨kx0, kx1, kx2, kx3, kx4, ky0, ky1, ky2, ky3, ky4⟩, yw2⟩ := KA.out _ hBw2; obtain ⟨f0, f1, f2, f3, f4⟩ := Zf yw2; obtain ⟨z0, z1, z2, z3, z4⟩ := Zb yw2) | ((with_reducible refine (CB.out _).mono ?_); rintro e w3 ⟨rfl, hbw3⟩; have hBw3 := Below.trans (by assumption : Below wa.heap.size wa _) (hbw3.mono (Below.size (by assumption))); obtain ⟨⟨lx0, lx1, lx2, lx3, lx4, ly0, ly1, ly2, ly3, ly4⟩, yw3⟩ := KA.out _ hBw3; obtain ⟨f0, f1, f2, f3, f4⟩ := Zf yw3; obtain ⟨z0, z1, z2, z3, z4⟩ := Zb yw3)))) | fail
     all_goals
      go_wp2_with fail
      have O := Zg yw3 (.string ⟨#[105]⟩) (.slice none 0 0) (.int .i64 1) (.int .i64 1) (.int .i64 0)
      obtain ⟨r0, r1, r2, r3, r4⟩ := Zb O
      refine bodyPost_ret (v := .tuple #[.agg #[.string ⟨#[105]⟩, .slice none 0 0, .int .i64 1, .int .i64 1, .int .i64 0], .bool true]) (by simp [results, results44, go_sem, r0, r1, r2, r3, r4]) rfl ⟨tp_tI w ok _, ?_⟩
      first
       | exact Ym (hbw.out.trans (hBw3.mono hbw.out.size)) (Nat.le_refl _) _ _ _ _ _
       | exact (Ym (hbw.out.trans (hBw3.mono hbw.out.size)) (Nat.le_refl _) _ _ _ _ _).drew
theorem tp_sub (ok : Nat → Prop) (ta tb : Tr) (u v : Value) (w : World) (hok : ∀ k, ok k → k < w.heap.size) (ha : ta.wf) (hb : tb.wf) (hr : Z0h w ok [ta, tb] v) :
 Calls prog 44 #[.iface 128 u, v] w fun e w' => J0 w ok (Yt .sub ta tb) e w' ∧ Below w.heap.size w w' := by
 obtain ⟨r, off, cap, ys, rfl, h1, h2, h3, h4, h5⟩ : ∃ r off cap ys, v = .slice (some ⟨r, off, none⟩) 2 cap ∧ 2 ≤ cap ∧ cap ≤ maxLen ∧ r < w.heap.size ∧ Yc w r off ys ∧ FVs nI w ok [ta, tb] ys := by
  rcases hr with ⟨h, _⟩ | h
  · cases h
  · exact h
 have hm := Zx h2
 obtain ⟨cs1, g1, w1⟩ := FVs.get Xz h5 h4 0 (by simp)
 obtain ⟨p1, n1, c1, rfl⟩ := g1.node
 simp only [List.getElem_cons_zero, List.getElem_cons_succ] at g1 w1
 obtain ⟨ua, a1, a2, a3, hu1, hx1, hy1, hz1, hq1⟩ := Zm ta
 rw [hq1] at w1
 have x0 : w.cell? ⟨r, off, none⟩ = some (.string ua) := by simpa using w1 0 _ rfl
 have x1 : w.cell? ⟨r, off + 1, none⟩ = some (.slice p1 n1 c1) := by simpa using w1 1 _ rfl
 have x2 : w.cell? ⟨r, off + 2, none⟩ = some (.int .i64 a1) := by simpa using w1 2 _ rfl
 have x3 : w.cell? ⟨r, off + 3, none⟩ = some (.int .i64 a2) := by simpa using w1 3 _ rfl
 have x4 : w.cell? ⟨r, off + 4, none⟩ = some (.int .i64 a3) := by simpa using w1 4 _ rfl
 obtain ⟨cs2, g2, w2⟩ := FVs.get Xz h5 h4 1 (by simp)
 obtain ⟨p2, n2, c2, rfl⟩ := g2.node
 simp only [List.getElem_cons_zero, List.getElem_cons_succ] at g2 w2
 obtain ⟨ub, b1, b2, b3, hu2, hx2, hy2, hz2, hq2⟩ := Zm tb
 rw [hq2] at w2
 have y0 : w.cell? ⟨r, off + 5, none⟩ = some (.string ub) := by simpa using w2 0 _ rfl
 have y1 : w.cell? ⟨r, off + 5 + 1, none⟩ = some (.slice p2 n2 c2) := by simpa using w2 1 _ rfl
 have y2 : w.cell? ⟨r, off + 5 + 2, none⟩ = some (.int .i64 b1) := by simpa using w2 2 _ rfl
 have y3 : w.cell? ⟨r, off + 5 + 3, none⟩ = some (.int .i64 b2) := by simpa using w2 3 _ rfl
 have y4 : w.cell? ⟨r, off + 5 + 4, none⟩ = some (.int .i64 b3) := by simpa using w2 4 _ rfl
 have KS : Hid (∀ W, Below w.heap.size w W → W.cell? ⟨r, off, none⟩ = some (.string ua) ∧ W.cell? ⟨r, off + 1, none⟩ = some (.slice p1 n1 c1) ∧ W.cell? ⟨r, off + 2, none⟩ = some (.int .i64 a1) ∧ W.cell? ⟨r, off + 3, none⟩ = some (.int .i64 a2) ∧ W.cell? ⟨r, off + 4, none⟩ = some (.int .i64 a3) ∧ W.cell? ⟨r, off + 5, none⟩ = some (.string ub) ∧ W.cell? ⟨r, off + 5 + 1, none⟩ = some (.slice p2 n2 c2) ∧ W.cell? ⟨r, off + 5 + 2, none⟩ = some (.int .i64 b1) ∧ W.cell? ⟨r, off + 5 + 3, none⟩ = some (.int .i64 b2) ∧ W.cell? ⟨r, off + 5 + 4, none⟩ = some (.int .i64 b3)) := H_ (fun W hW => ⟨(hW.cell (p := ⟨r, off, none⟩) h3).trans (x0), (hW.cell (p := ⟨r, off + 1, none⟩) h3).trans (x1), (hW.cell (p := ⟨r, off + 2, none⟩) h3).trans (x2), (hW.cell (p := ⟨r, off + 3, none⟩) h3).trans (x3), (hW.cell (p := ⟨r, off + 4, none⟩) h3).trans (x4), (hW.cell (p := ⟨r, off + 5, none⟩) h3).trans (y0), (hW.cell (p := ⟨r, off + 5 + 1, none⟩) h3).trans (y1), (hW.cell (p := ⟨r, off + 5 + 2, none⟩) h3).trans (y2), (hW.cell (p := ⟨r, off + 5 + 3, none⟩) h3).trans (y3), (hW.cell (p := ⟨r, off + 5 + 4, none⟩) h3).trans (y4)⟩)
 have N1 := H_ (fun W => Kb ⟨#[105]⟩ W (show 1 ≤ 12000 by decide))
 have CA : Hid (∀ W, Calls prog 76 #[.agg #[.string ua, .slice p1 n1 c1, .int .i64 a1, .int .i64 a2, .int .i64 a3]] W fun e w' => e = .returned (.bool (Ya ta)) ∧ Below W.heap.size W w') := H_ (fun W => by rw [hu1, hx1, hy1, hz1]; exact Vz ha g1 W)
 have CB : Hid (∀ W, Calls prog 76 #[.agg #[.string ub, .slice p2 n2 c2, .int .i64 b1, .int .i64 b2, .int .i64 b3]] W fun e w' => e = .returned (.bool (Ya tb)) ∧ Below W.heap.size W w') := H_ (fun W => by rw [hu2, hx2, hy2, hz2]; exact Vz hb g2 W)
 have HJ := H_ (show Yt .sub ta tb = if Ya ta = true ∧ Ya tb = true then some tI else none from rfl)
 obtain ⟨wa, hwa⟩ : ∃ wa, wa = w.alloc (.cells #[.string ⟨#[]⟩, .slice none 0 0, .int .i64 0, .int .i64 0, .int .i64 0] 49) := ⟨_, rfl⟩
 have yw : wa.heap[w.heap.size]? = some (.cells #[.string ⟨#[]⟩, .slice none 0 0, .int .i64 0, .int .i64 0, .int .i64 0] 49 (0, 0)) := by rw [hwa]; exact heap_alloc_new _ _
 have hbw := H_ (show Below w.heap.size w wa by rw [hwa]; exact Z4 _ _)
 have KA : Hid (∀ W, Below wa.heap.size wa W → (W.cell? ⟨r, off, none⟩ = some (.string ua) ∧ W.cell? ⟨r, off + 1, none⟩ = some (.slice p1 n1 c1) ∧ W.cell? ⟨r, off + 2, none⟩ = some (.int .i64 a1) ∧ W.cell? ⟨r, off + 3, none⟩ = some (.int .i64 a2) ∧ W.cell? ⟨r, off + 4, none⟩ = some (.int .i64 a3) ∧ W.cell? ⟨r, off + 5, none⟩ = some (.string ub) ∧ W.cell? ⟨r, off + 5 + 1, none⟩ = some (.slice p2 n2 c2) ∧ W.cell? ⟨r, off + 5 + 2, none⟩ = some (.int .i64 b1) ∧ W.cell? ⟨r, off + 5 + 3, none⟩ = some (.int .i64 b2) ∧ W.cell? ⟨r, off + 5 + 4, none⟩ = some (.int .i64 b3)) ∧ W.heap[w.heap.size]? = some (.cells #[.string ⟨#[]⟩, .slice none 0 0, .int .i64 0, .int .i64 0, .int .i64 0] 49 (0, 0))) := H_ (fun W hW => ⟨KS.out W (hbw.out.trans (hW.mono hbw.out.size)), Z1 hW (lt_of_block yw) yw⟩)
 have hD : Below wa.heap.size wa wa.drew := (Below.refl _ _).drew
 have hD1 : Below wa.heap.size wa wa := Below.refl _ _
 obtain ⟨⟨ix0, ix1, ix2, ix3, ix4, iy0, iy1, iy2, iy3, iy4⟩, y0⟩ := KA.out _ hD1
 clear y0
 clear g1 w1 hu1 hx1 hy1 hz1 hq1 x0 x1 x2 x3 x4 g2 w2 hu2 hx2 hy2 hz2 hq2 y0 y1 y2 y3 y4 h4 h5 hr h1 ha hb KS
 cases hza : Ya ta with
 | false =>
   rw [hza] at CA HJ
   have HF := H_ (show Yt .sub ta tb = none by rw [HJ.out]; simp)
   rw [HF.out]
   clear HJ hza CB
   go_enter func44, ntmps44
   go_wp2_with fail
   rw [← hwa]
   clear hwa yw
   first | (go_region_with (first | (go_at_call 83; first | ((with_reducible refine (N1.out _).mono ?_); rintro e w1 ⟨rfl, hbw1⟩; have hBw1 := Below.trans (by assumption : Below wa.heap.size wa _) (hbw1.mono (Below.size (by assumption))); obtain ⟨⟨jx0, jx1, jx2, jx3, jx4, jy0, jy1, jy2, jy3, jy4⟩, yw1⟩ := KA.out _ hBw1; obtain ⟨f0, f1, f2, f3, f4⟩ := Zf yw1; obtain ⟨z0, z1, z2, z3, z4⟩ := Zb yw1)) | (go_at_call 76; first | ((with_reducible refine (CA.out _).mono ?_); rintro e w2 ⟨rfl, hbw2⟩; have hBw2 := Below.trans (by assumption : Below wa.heap.size wa _) (hbw2.mono (Below.size (by assumption))); obtain ⟨⟨kx0, kx1, kx2, kx3, kx4, ky0, ky1, ky2, ky3, ky4⟩, yw2⟩ := KA.out _ hBw2; obtain ⟨f0, f1, f2, f3, f4⟩ := Zf yw2; obtain ⟨z0, z1, z2, z3, z4⟩ := Zb yw2)))) | fail
   all_goals
    go_wp2_with fail
    have O := Zg yw2 (.string ⟨#[105]⟩) (.slice none 0 0) (.int .i64 1) (.int .i64 1) (.int .i64 0)
    obtain ⟨r0, r1, r2, r3, r4⟩ := Zb O
    refine bodyPost_ret (v := .tuple #[.agg #[.string ⟨#[105]⟩, .slice none 0 0, .int .i64 1, .int .i64 1, .int .i64 0], .bool false]) (by simp [results, results44, go_sem, r0, r1, r2, r3, r4]) rfl ⟨⟨_, _, _, _, _, _, _, rfl⟩, ?_⟩
    first
     | exact Ym (hbw.out.trans (hBw2.mono hbw.out.size)) (Nat.le_refl _) _ _ _ _ _
     | exact (Ym (hbw.out.trans (hBw2.mono hbw.out.size)) (Nat.le_refl _) _ _ _ _ _).drew
 | true =>
   rw [hza] at CA HJ
   cases hzb : Ya tb with
   | false =>
     rw [hzb] at CB HJ
     have HF := H_ (show Yt .sub ta tb = none by rw [HJ.out]; simp)
     rw [HF.out]
     clear HJ hza hzb
     go_enter func44, ntmps44
     go_wp2_with fail
     rw [← hwa]
     clear hwa yw
     first | (go_region_with (first | (go_at_call 83; first | ((with_reducible refine (N1.out _).mono ?_); rintro e w1 ⟨rfl, hbw1⟩; have hBw1 := Below.trans (by assumption : Below wa.heap.size wa _) (hbw1.mono (Below.size (by assumption))); obtain ⟨⟨jx0, jx1, jx2, jx3, jx4, jy0, jy1, jy2, jy3, jy4⟩, yw1⟩ := KA.out _ hBw1; obtain ⟨f0, f1, f2, f3, f4⟩ := Zf yw1; obtain ⟨z0, z1, z2, z3, z4⟩ := Zb yw1)) | (go_at_call 76; first | ((with_reducible refine (CA.out _).mono ?_); rintro e w2 ⟨rfl, hbw2⟩; have hBw2 := Below.trans (by assumption : Below wa.heap.size wa _) (hbw2.mono (Below.size (by assumption))); obtain ⟨⟨kx0, kx1, kx2, kx3, kx4, ky0, ky1, ky2, ky3, ky4⟩, yw2⟩ := KA.out _ hBw2; obtain ⟨f0, f1, f2, f3, f4⟩ := Zf yw2; obtain ⟨z0, z1, z2, z3, z4⟩ := Zb yw2) | ((with_reducible refine (CB.out _).mono ?_); rintro e w3 ⟨rfl, hbw3⟩; have hBw3 := Below.trans (by assumption : Below wa.heap.size wa _) (hbw3.mono (Below.size (by assumption))); obtain ⟨⟨lx0, lx1, lx2, lx3, lx4, ly0, ly1, ly2, ly3, ly4⟩, yw3⟩ := KA.out _ hBw3; obtain ⟨f0, f1, f2, f3, f4⟩ := Zf yw3; obtain ⟨z0, z1, z2, z3, z4⟩ := Zb yw3)))) | fail
     all_goals
      go_wp2_with fail
      have O := Zg yw3 (.string ⟨#[105]⟩) (.slice none 0 0) (.int .i64 1) (.int .i64 1) (.int .i64 0)
      obtain ⟨r0, r1, r2, r3, r4⟩ := Zb O
      refine bodyPost_ret (v := .tuple #[.agg #[.string ⟨#[105]⟩, .slice none 0 0, .int .i64 1, .int .i64 1, .int .i64 0], .bool false]) (by simp [results, results44, go_sem, r0, r1, r2, r3, r4]) rfl ⟨⟨_, _, _, _, _, _, _, rfl⟩, ?_⟩
      first
       | exact Ym (hbw.out.trans (hBw3.mono hbw.out.size)) (Nat.le_refl _) _ _ _ _ _
       | exact (Ym (hbw.out.trans (hBw3.mono hbw.out.size)) (Nat.le_refl _) _ _ _ _ _).drew
   | true =>
     rw [hzb] at CB HJ
     have HF := H_ (show Yt .sub ta tb = some tI by rw [HJ.out]; simp)
     rw [HF.out]
     clear HJ hza hzb
     go_enter func44, ntmps44
     go_wp2_with fail
     rw [← hwa]
     clear hwa yw
     first | (go_region_with (first | (go_at_call 83; first | ((with_reducible refine (N1.out _).mono ?_); rintro e w1 ⟨rfl, hbw1⟩; have hBw1 := Below.trans (by assumption : Below wa.heap.size wa _) (hbw1.mono (Below.size (by assumption))); obtain ⟨⟨jx0, jx1, jx2, jx3, jx4, jy0, jy1, jy2, jy3, jy4⟩, yw1⟩ := KA.out _ hBw1; obtain ⟨f0, f1, f2, f3, f4⟩ := Zf yw1; obtain ⟨z0, z1, z2, z3, z4⟩ := Zb yw1)) | (go_at_call 76; first | ((with_reducible refine (CA.out _).mono ?_); rintro e w2 ⟨rfl, hbw2⟩; have hBw2 := Below.trans (by assumption : Below wa.heap.size wa _) (hbw2.mono (Below.size (by assumption))); obtain ⟨⟨kx0, kx1, kx2, kx3, kx4, ky0, ky1, ky2, ky3, ky4⟩, yw2⟩ := KA.out _ hBw2; obtain ⟨f0, f1, f2, f3, f4⟩ := Zf yw2; obtain ⟨z0, z1, z2, z3, z4⟩ := Zb yw2) | ((with_reducible refine (CB.out _).mono ?_); rintro e w3 ⟨rfl, hbw3⟩; have hBw3 := Below.trans (by assumption : Below wa.heap.size wa _) (hbw3.mono (Below.size (by assumption))); obtain ⟨⟨lx0, lx1, lx2, lx3, lx4, ly0, ly1, ly2, ly3, ly4⟩, yw3⟩ := KA.out _ hBw3; obtain ⟨f0, f1, f2, f3, f4⟩ := Zf yw3; obtain ⟨z0, z1, z2, z3, z4⟩ := Zb yw3)))) | fail
     all_goals
      go_wp2_with fail
      have O := Zg yw3 (.string ⟨#[105]⟩) (.slice none 0 0) (.int .i64 1) (.int .i64 1) (.int .i64 0)
      obtain ⟨r0, r1, r2, r3, r4⟩ := Zb O
      refine bodyPost_ret (v := .tuple #[.agg #[.string ⟨#[105]⟩, .slice none 0 0, .int .i64 1, .int .i64 1, .int .i64 0], .bool true]) (by simp [results, results44, go_sem, r0, r1, r2, r3, r4]) rfl ⟨tp_tI w ok _, ?_⟩
      first
       | exact Ym (hbw.out.trans (hBw3.mono hbw.out.size)) (Nat.le_refl _) _ _ _ _ _
       | exact (Ym (hbw.out.trans (hBw3.mono hbw.out.size)) (Nat.le_refl _) _ _ _ _ _).drew
theorem tp_mul (ok : Nat → Prop) (ta tb : Tr) (u v : Value) (w : World) (hok : ∀ k, ok k → k < w.heap.size) (ha : ta.wf) (hb : tb.wf) (hr : Z0h w ok [ta, tb] v) :
 Calls prog 44 #[.iface 129 u, v] w fun e w' => J0 w ok (Yt .mul ta tb) e w' ∧ Below w.heap.size w w' := by
 obtain ⟨r, off, cap, ys, rfl, h1, h2, h3, h4, h5⟩ : ∃ r off cap ys, v = .slice (some ⟨r, off, none⟩) 2 cap ∧ 2 ≤ cap ∧ cap ≤ maxLen ∧ r < w.heap.size ∧ Yc w r off ys ∧ FVs nI w ok [ta, tb] ys := by
  rcases hr with ⟨h, _⟩ | h
  · cases h
  · exact h
 have hm := Zx h2
 obtain ⟨cs1, g1, w1⟩ := FVs.get Xz h5 h4 0 (by simp)
 obtain ⟨p1, n1, c1, rfl⟩ := g1.node
 simp only [List.getElem_cons_zero, List.getElem_cons_succ] at g1 w1
 obtain ⟨ua, a1, a2, a3, hu1, hx1, hy1, hz1, hq1⟩ := Zm ta
 rw [hq1] at w1
 have x0 : w.cell? ⟨r, off, none⟩ = some (.string ua) := by simpa using w1 0 _ rfl
 have x1 : w.cell? ⟨r, off + 1, none⟩ = some (.slice p1 n1 c1) := by simpa using w1 1 _ rfl
 have x2 : w.cell? ⟨r, off + 2, none⟩ = some (.int .i64 a1) := by simpa using w1 2 _ rfl
 have x3 : w.cell? ⟨r, off + 3, none⟩ = some (.int .i64 a2) := by simpa using w1 3 _ rfl
 have x4 : w.cell? ⟨r, off + 4, none⟩ = some (.int .i64 a3) := by simpa using w1 4 _ rfl
 obtain ⟨cs2, g2, w2⟩ := FVs.get Xz h5 h4 1 (by simp)
 obtain ⟨p2, n2, c2, rfl⟩ := g2.node
 simp only [List.getElem_cons_zero, List.getElem_cons_succ] at g2 w2
 obtain ⟨ub, b1, b2, b3, hu2, hx2, hy2, hz2, hq2⟩ := Zm tb
 rw [hq2] at w2
 have y0 : w.cell? ⟨r, off + 5, none⟩ = some (.string ub) := by simpa using w2 0 _ rfl
 have y1 : w.cell? ⟨r, off + 5 + 1, none⟩ = some (.slice p2 n2 c2) := by simpa using w2 1 _ rfl
 have y2 : w.cell? ⟨r, off + 5 + 2, none⟩ = some (.int .i64 b1) := by simpa using w2 2 _ rfl
 have y3 : w.cell? ⟨r, off + 5 + 3, none⟩ = some (.int .i64 b2) := by simpa using w2 3 _ rfl
 have y4 : w.cell? ⟨r, off + 5 + 4, none⟩ = some (.int .i64 b3) := by simpa using w2 4 _ rfl
 have KS : Hid (∀ W, Below w.heap.size w W → W.cell? ⟨r, off, none⟩ = some (.string ua) ∧ W.cell? ⟨r, off + 1, none⟩ = some (.slice p1 n1 c1) ∧ W.cell? ⟨r, off + 2, none⟩ = some (.int .i64 a1) ∧ W.cell? ⟨r, off + 3, none⟩ = some (.int .i64 a2) ∧ W.cell? ⟨r, off + 4, none⟩ = some (.int .i64 a3) ∧ W.cell? ⟨r, off + 5, none⟩ = some (.string ub) ∧ W.cell? ⟨r, off + 5 + 1, none⟩ = some (.slice p2 n2 c2) ∧ W.cell? ⟨r, off + 5 + 2, none⟩ = some (.int .i64 b1) ∧ W.cell? ⟨r, off + 5 + 3, none⟩ = some (.int .i64 b2) ∧ W.cell? ⟨r, off + 5 + 4, none⟩ = some (.int .i64 b3)) := H_ (fun W hW => ⟨(hW.cell (p := ⟨r, off, none⟩) h3).trans (x0), (hW.cell (p := ⟨r, off + 1, none⟩) h3).trans (x1), (hW.cell (p := ⟨r, off + 2, none⟩) h3).trans (x2), (hW.cell (p := ⟨r, off + 3, none⟩) h3).trans (x3), (hW.cell (p := ⟨r, off + 4, none⟩) h3).trans (x4), (hW.cell (p := ⟨r, off + 5, none⟩) h3).trans (y0), (hW.cell (p := ⟨r, off + 5 + 1, none⟩) h3).trans (y1), (hW.cell (p := ⟨r, off + 5 + 2, none⟩) h3).trans (y2), (hW.cell (p := ⟨r, off + 5 + 3, none⟩) h3).trans (y3), (hW.cell (p := ⟨r, off + 5 + 4, none⟩) h3).trans (y4)⟩)
 have N1 := H_ (fun W => Kb ⟨#[105]⟩ W (show 1 ≤ 12000 by decide))
 have CA : Hid (∀ W, Calls prog 76 #[.agg #[.string ua, .slice p1 n1 c1, .int .i64 a1, .int .i64 a2, .int .i64 a3]] W fun e w' => e = .returned (.bool (Ya ta)) ∧ Below W.heap.size W w') := H_ (fun W => by rw [hu1, hx1, hy1, hz1]; exact Vz ha g1 W)
 have CB : Hid (∀ W, Calls prog 76 #[.agg #[.string ub, .slice p2 n2 c2, .int .i64 b1, .int .i64 b2, .int .i64 b3]] W fun e w' => e = .returned (.bool (Ya tb)) ∧ Below W.heap.size W w') := H_ (fun W => by rw [hu2, hx2, hy2, hz2]; exact Vz hb g2 W)
 have HJ := H_ (show Yt .mul ta tb = if Ya ta = true ∧ Ya tb = true then some tI else none from rfl)
 obtain ⟨wa, hwa⟩ : ∃ wa, wa = w.alloc (.cells #[.string ⟨#[]⟩, .slice none 0 0, .int .i64 0, .int .i64 0, .int .i64 0] 49) := ⟨_, rfl⟩
 have yw : wa.heap[w.heap.size]? = some (.cells #[.string ⟨#[]⟩, .slice none 0 0, .int .i64 0, .int .i64 0, .int .i64 0] 49 (0, 0)) := by rw [hwa]; exact heap_alloc_new _ _
 have hbw := H_ (show Below w.heap.size w wa by rw [hwa]; exact Z4 _ _)
 have KA : Hid (∀ W, Below wa.heap.size wa W → (W.cell? ⟨r, off, none⟩ = some (.string ua) ∧ W.cell? ⟨r, off + 1, none⟩ = some (.slice p1 n1 c1) ∧ W.cell? ⟨r, off + 2, none⟩ = some (.int .i64 a1) ∧ W.cell? ⟨r, off + 3, none⟩ = some (.int .i64 a2) ∧ W.cell? ⟨r, off + 4, none⟩ = some (.int .i64 a3) ∧ W.cell? ⟨r, off + 5, none⟩ = some (.string ub) ∧ W.cell? ⟨r, off + 5 + 1, none⟩ = some (.slice p2 n2 c2) ∧ W.cell? ⟨r, off + 5 + 2, none⟩ = some (.int .i64 b1) ∧ W.cell? ⟨r, off + 5 + 3, none⟩ = some (.int .i64 b2) ∧ W.cell? ⟨r, off + 5 + 4, none⟩ = some (.int .i64 b3)) ∧ W.heap[w.heap.size]? = some (.cells #[.string ⟨#[]⟩, .slice none 0 0, .int .i64 0, .int .i64 0, .int .i64 0] 49 (0, 0))) := H_ (fun W hW => ⟨KS.out W (hbw.out.trans (hW.mono hbw.out.size)), Z1 hW (lt_of_block yw) yw⟩)
 have hD : Below wa.heap.size wa wa.drew := (Below.refl _ _).drew
 have hD1 : Below wa.heap.size wa wa := Below.refl _ _
 obtain ⟨⟨ix0, ix1, ix2, ix3, ix4, iy0, iy1, iy2, iy3, iy4⟩, y0⟩ := KA.out _ hD1
 clear y0
 clear g1 w1 hu1 hx1 hy1 hz1 hq1 x0 x1 x2 x3 x4 g2 w2 hu2 hx2 hy2 hz2 hq2 y0 y1 y2 y3 y4 h4 h5 hr h1 ha hb KS
 cases hza : Ya ta with
 | false =>
   rw [hza] at CA HJ
   have HF := H_ (show Yt .mul ta tb = none by rw [HJ.out]; simp)
   rw [HF.out]
   clear HJ hza CB
   go_enter func44, ntmps44
   go_wp2_with fail
   rw [← hwa]
   clear hwa yw
   first | (go_region_with (first | (go_at_call 83; first | ((with_reducible refine (N1.out _).mono ?_); rintro e w1 ⟨rfl, hbw1⟩; have hBw1 := Below.trans (by assumption : Below wa.heap.size wa _) (hbw1.mono (Below.size (by assumption))); obtain ⟨⟨jx0, jx1, jx2, jx3, jx4, jy0, jy1, jy2, jy3, jy4⟩, yw1⟩ := KA.out _ hBw1; obtain ⟨f0, f1, f2, f3, f4⟩ := Zf yw1; obtain ⟨z0, z1, z2, z3, z4⟩ := Zb yw1)) | (go_at_call 76; first | ((with_reducible refine (CA.out _).mono ?_); rintro e w2 ⟨rfl, hbw2⟩; have hBw2 := Below.trans (by assumption : Below wa.heap.size wa _) (hbw2.mono (Below.size (by assumption))); obtain ⟨⟨kx0, kx1, kx2, kx3, kx4, ky0, ky1, ky2, ky3, ky4⟩, yw2⟩ := KA.out _ hBw2; obtain ⟨f0, f1, f2, f3, f4⟩ := Zf yw2; obtain ⟨z0, z1, z2, z3, z4⟩ := Zb yw2)))) | fail
   all_goals
    go_wp2_with fail
    have O := Zg yw2 (.string ⟨#[105]⟩) (.slice none 0 0) (.int .i64 1) (.int .i64 1) (.int .i64 0)
    obtain ⟨r0, r1, r2, r3, r4⟩ := Zb O
    refine bodyPost_ret (v := .tuple #[.agg #[.string ⟨#[105]⟩, .slice none 0 0, .int .i64 1, .int .i64 1, .int .i64 0], .bool false]) (by simp [results, results44, go_sem, r0, r1, r2, r3, r4]) rfl ⟨⟨_, _, _, _, _, _, _, rfl⟩, ?_⟩
    first
     | exact Ym (hbw.out.trans (hBw2.mono hbw.out.size)) (Nat.le_refl _) _ _ _ _ _
     | exact (Ym (hbw.out.trans (hBw2.mono hbw.out.size)) (Nat.le_refl _) _ _ _ _ _).drew
 | true =>
   rw [hza] at CA HJ
   cases hzb : Ya tb with
   | false =>
     rw [hzb] at CB HJ
     have HF := H_ (show Yt .mul ta tb = none by rw [HJ.out]; simp)
     rw [HF.out]
     clear HJ hza hzb
     go_enter func44, ntmps44
     go_wp2_with fail
     rw [← hwa]
     clear hwa yw
     first | (go_region_with (first | (go_at_call 83; first | ((with_reducible refine (N1.out _).mono ?_); rintro e w1 ⟨rfl, hbw1⟩; have hBw1 := Below.trans (by assumption : Below wa.heap.size wa _) (hbw1.mono (Below.size (by assumption))); obtain ⟨⟨jx0, jx1, jx2, jx3, jx4, jy0, jy1, jy2, jy3, jy4⟩, yw1⟩ := KA.out _ hBw1; obtain ⟨f0, f1, f2, f3, f4⟩ := Zf yw1; obtain ⟨z0, z1, z2, z3, z4⟩ := Zb yw1)) | (go_at_call 76; first | ((with_reducible refine (CA.out _).mono ?_); rintro e w2 ⟨rfl, hbw2⟩; have hBw2 := Below.trans (by assumption : Below wa.heap.size wa _) (hbw2.mono (Below.size (by assumption))); obtain ⟨⟨kx0, kx1, kx2, kx3, kx4, ky0, ky1, ky2, ky3, ky4⟩, yw2⟩ := KA.out _ hBw2; obtain ⟨f0, f1, f2, f3, f4⟩ := Zf yw2; obtain ⟨z0, z1, z2, z3, z4⟩ := Zb yw2) | ((with_reducible refine (CB.out _).mono ?_); rintro e w3 ⟨rfl, hbw3⟩; have hBw3 := Below.trans (by assumption : Below wa.heap.size wa _) (hbw3.mono (Below.size (by assumption))); obtain ⟨⟨lx0, lx1, lx2, lx3, lx4, ly0, ly1, ly2, ly3, ly4⟩, yw3⟩ := KA.out _ hBw3; obtain ⟨f0, f1, f2, f3, f4⟩ := Zf yw3; obtain ⟨z0, z1, z2, z3, z4⟩ := Zb yw3)))) | fail
     all_goals
      go_wp2_with fail
      have O := Zg yw3 (.string ⟨#[105]⟩) (.slice none 0 0) (.int .i64 1) (.int .i64 1) (.int .i64 0)
      obtain ⟨r0, r1, r2, r3, r4⟩ := Zb O
      refine bodyPost_ret (v := .tuple #[.agg #[.string ⟨#[105]⟩, .slice none 0 0, .int .i64 1, .int .i64 1, .int .i64 0], .bool false]) (by simp [results, results44, go_sem, r0, r1, r2, r3, r4]) rfl ⟨⟨_, _, _, _, _, _, _, rfl⟩, ?_⟩
      first
       | exact Ym (hbw.out.trans (hBw3.mono hbw.out.size)) (Nat.le_refl _) _ _ _ _ _
       | exact (Ym (hbw.out.trans (hBw3.mono hbw.out.size)) (Nat.le_refl _) _ _ _ _ _).drew
   | true =>
     rw [hzb] at CB HJ
     have HF := H_ (show Yt .mul ta tb = some tI by rw [HJ.out]; simp)
     rw [HF.out]
     clear HJ hza hzb
     go_enter func44, ntmps44
     go_wp2_with fail
     rw [← hwa]
     clear hwa yw
     first | (go_region_with (first | (go_at_call 83; first | ((with_reducible refine (N1.out _).mono ?_); rintro e w1 ⟨rfl, hbw1⟩; have hBw1 := Below.trans (by assumption : Below wa.heap.size wa _) (hbw1.mono (Below.size (by assumption))); obtain ⟨⟨jx0, jx1, jx2, jx3, jx4, jy0, jy1, jy2, jy3, jy4⟩, yw1⟩ := KA.out _ hBw1; obtain ⟨f0, f1, f2, f3, f4⟩ := Zf yw1; obtain ⟨z0, z1, z2, z3, z4⟩ := Zb yw1)) | (go_at_call 76; first | ((with_reducible refine (CA.out _).mono ?_); rintro e w2 ⟨rfl, hbw2⟩; have hBw2 := Below.trans (by assumption : Below wa.heap.size wa _) (hbw2.mono (Below.size (by assumption))); obtain ⟨⟨kx0, kx1, kx2, kx3, kx4, ky0, ky1, ky2, ky3, ky4⟩, yw2⟩ := KA.out _ hBw2; obtain ⟨f0, f1, f2, f3, f4⟩ := Zf yw2; obtain ⟨z0, z1, z2, z3, z4⟩ := Zb yw2) | ((with_reducible refine (CB.out _).mono ?_); rintro e w3 ⟨rfl, hbw3⟩; have hBw3 := Below.trans (by assumption : Below wa.heap.size wa _) (hbw3.mono (Below.size (by assumption))); obtain ⟨⟨lx0, lx1, lx2, lx3, lx4, ly0, ly1, ly2, ly3, ly4⟩, yw3⟩ := KA.out _ hBw3; obtain ⟨f0, f1, f2, f3, f4⟩ := Zf yw3; obtain ⟨z0, z1, z2, z3, z4⟩ := Zb yw3)))) | fail
     all_goals
      go_wp2_with fail
      have O := Zg yw3 (.string ⟨#[105]⟩) (.slice none 0 0) (.int .i64 1) (.int .i64 1) (.int .i64 0)
      obtain ⟨r0, r1, r2, r3, r4⟩ := Zb O
      refine bodyPost_ret (v := .tuple #[.agg #[.string ⟨#[105]⟩, .slice none 0 0, .int .i64 1, .int .i64 1, .int .i64 0], .bool true]) (by simp [results, results44, go_sem, r0, r1, r2, r3, r4]) rfl ⟨tp_tI w ok _, ?_⟩
      first
       | exact Ym (hbw.out.trans (hBw3.mono hbw.out.size)) (Nat.le_refl _) _ _ _ _ _
       | exact (Ym (hbw.out.trans (hBw3.mono hbw.out.size)) (Nat.le_refl _) _ _ _ _ _).drew
end Go.Proofs.YtmgepnacjgbfhaaGreatDoor
