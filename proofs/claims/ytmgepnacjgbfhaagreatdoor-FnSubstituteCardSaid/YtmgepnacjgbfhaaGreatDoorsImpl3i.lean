/- The program: the type of an expression by the types of its parts: call, if, pair. The program: the type of an expression by the types of its parts: call, if, pair. The program: the type of an expression by the types of its parts: call, if, pair. -/
import Derived.Test.YtmgepnacjgbfhaaGreatDoorsImpl3h
namespace Go.Proofs.YtmgepnacjgbfhaaGreatDoor
open Go.RowKit Go.Proofs.Tryz
set_option maxRecDepth 8000
set_option maxHeartbeats 20000000
set_option linter.unusedVariables false
set_option linter.unusedSimpArgs false
theorem tp_some_of {w w' : World} {ok : Nat → Prop} {t : Tr} {p : Option Addr} {m c : Nat} (hok : ∀ k, ok k → k < w.heap.size) (hB : Below w.heap.size w w') (hv : FV nI w ok t (nI t (.slice p m c))) : J0 w ok (some t) (.returned (.tuple #[.agg #[.string (bs (Z0 t)), .slice p m c, .int .i64 t.bytes, .int .i64 t.size, .int .i64 t.depth], .bool true])) w' :=
 ⟨p, m, c, rfl, FV.move (fun k hk => .inl hk) (fun k hk => hB.block k (hok k hk)) _ _ hv⟩
theorem text_eq {a b : Tr} (ha : a.wf) (hb : b.wf) : a = b ↔ a.text = b.text := ⟨fun h => by rw [h], text_inj ha hb⟩
theorem Z4w {t u : Tr} {p q : Option Addr} {m c m2 c2 : Nat} {w : World} {ok1 ok2 : Nat → Prop} (h1 : t.wf) (h2 : u.wf) (f1 : FV nI w ok1 t (nI t (.slice p m c))) (f2 : FV nI w ok2 u (nI u (.slice q m2 c2))) (k1 : ∀ k, ok1 k → k < w.heap.size) (k2 : ∀ k, ok2 k → k < w.heap.size) :
 Calls prog 82 #[.agg #[.string (bs (Z0 t)), .slice p m c, .int .i64 t.bytes, .int .i64 t.size, .int .i64 t.depth], .agg #[.string (bs (Z0 u)), .slice q m2 c2, .int .i64 u.bytes, .int .i64 u.size, .int .i64 u.depth]] w fun e w' => Z1b (t.text = u.text) e ∧ Below w.heap.size w w' :=
 (equals_c (t.depth + 1) t u p q m c m2 c2 w (by omega) h1 h2 (f1.wide k1) (f2.wide k2)).mono fun e w' ⟨⟨z, q1, q2⟩, q3⟩ => ⟨⟨z, q1, q2.trans (text_eq h1 h2)⟩, q3⟩
theorem tp_pair (ok : Nat → Prop) (ta tb : Tr) (u v : Value) (w : World) (hok : ∀ k, ok k → k < w.heap.size) (hta : Zn ta = true) (htb : Zn tb = true) (hr : Z0h w ok [ta, tb] v) :
 Calls prog 44 #[.iface 109 u, v] w fun e w' => J0 w ok (Yt .pair ta tb) e w' ∧ Below w.heap.size w w' := by
 obtain ⟨r, off, cap, ys, rfl, h1, h2, h3, h4, h5⟩ : ∃ r off cap ys, v = .slice (some ⟨r, off, none⟩) 2 cap ∧ 2 ≤ cap ∧ cap ≤ maxLen ∧ r < w.heap.size ∧ Yc w r off ys ∧ FVs nI w ok [ta, tb] ys := by
  rcases hr with ⟨h, _⟩ | h
  · cases h
  · exact h
 have hm := Zx h2
 obtain ⟨cs1, g1, w1⟩ := FVs.get Xz h5 h4 0 (by simp)
 obtain ⟨p1, n1, c1, rfl⟩ := g1.node
 simp only [List.getElem_cons_zero, List.getElem_cons_succ] at g1 w1
 obtain ⟨ua, a1, a2, a3, hu1, hx1, hy1, hz1, hq1⟩ := Zm ta
 rw [hq1] at w1
 have x0 : w.cell? ⟨r, off, none⟩ = some (.string ua) := by simpa using w1 0 _ rfl
 have x1 : w.cell? ⟨r, off + 1, none⟩ = some (.slice p1 n1 c1) := by simpa using w1 1 _ rfl
 have x2 : w.cell? ⟨r, off + 2, none⟩ = some (.int .i64 a1) := by simpa using w1 2 _ rfl
 have x3 : w.cell? ⟨r, off + 3, none⟩ = some (.int .i64 a2) := by simpa using w1 3 _ rfl
 have x4 : w.cell? ⟨r, off + 4, none⟩ = some (.int .i64 a3) := by simpa using w1 4 _ rfl
 obtain ⟨cs2, g2, w2⟩ := FVs.get Xz h5 h4 1 (by simp)
 obtain ⟨p2, n2, c2, rfl⟩ := g2.node
 simp only [List.getElem_cons_zero, List.getElem_cons_succ] at g2 w2
 obtain ⟨ub, b1, b2, b3, hu2, hx2, hy2, hz2, hq2⟩ := Zm tb
 rw [hq2] at w2
 have y0 : w.cell? ⟨r, off + 5, none⟩ = some (.string ub) := by simpa using w2 0 _ rfl
 have y1 : w.cell? ⟨r, off + 5 + 1, none⟩ = some (.slice p2 n2 c2) := by simpa using w2 1 _ rfl
 have y2 : w.cell? ⟨r, off + 5 + 2, none⟩ = some (.int .i64 b1) := by simpa using w2 2 _ rfl
 have y3 : w.cell? ⟨r, off + 5 + 3, none⟩ = some (.int .i64 b2) := by simpa using w2 3 _ rfl
 have y4 : w.cell? ⟨r, off + 5 + 4, none⟩ = some (.int .i64 b3) := by simpa using w2 4 _ rfl
 have KS : Hid (∀ W, Below w.heap.size w W → W.cell? ⟨r, off, none⟩ = some (.string ua) ∧ W.cell? ⟨r, off + 1, none⟩ = some (.slice p1 n1 c1) ∧ W.cell? ⟨r, off + 2, none⟩ = some (.int .i64 a1) ∧ W.cell? ⟨r, off + 3, none⟩ = some (.int .i64 a2) ∧ W.cell? ⟨r, off + 4, none⟩ = some (.int .i64 a3) ∧ W.cell? ⟨r, off + 5, none⟩ = some (.string ub) ∧ W.cell? ⟨r, off + 5 + 1, none⟩ = some (.slice p2 n2 c2) ∧ W.cell? ⟨r, off + 5 + 2, none⟩ = some (.int .i64 b1) ∧ W.cell? ⟨r, off + 5 + 3, none⟩ = some (.int .i64 b2) ∧ W.cell? ⟨r, off + 5 + 4, none⟩ = some (.int .i64 b3)) := H_ (fun W hW => ⟨(hW.cell (p := ⟨r, off, none⟩) h3).trans (x0), (hW.cell (p := ⟨r, off + 1, none⟩) h3).trans (x1), (hW.cell (p := ⟨r, off + 2, none⟩) h3).trans (x2), (hW.cell (p := ⟨r, off + 3, none⟩) h3).trans (x3), (hW.cell (p := ⟨r, off + 4, none⟩) h3).trans (x4), (hW.cell (p := ⟨r, off + 5, none⟩) h3).trans (y0), (hW.cell (p := ⟨r, off + 5 + 1, none⟩) h3).trans (y1), (hW.cell (p := ⟨r, off + 5 + 2, none⟩) h3).trans (y2), (hW.cell (p := ⟨r, off + 5 + 3, none⟩) h3).trans (y3), (hW.cell (p := ⟨r, off + 5 + 4, none⟩) h3).trans (y4)⟩)
 obtain ⟨m1, hm1⟩ : ∃ m : Int, m = (Jn 42 ta tb).bytes := ⟨_, rfl⟩
 obtain ⟨m2, hm2⟩ : ∃ m : Int, m = (Jn 42 ta tb).size := ⟨_, rfl⟩
 obtain ⟨m3, hm3⟩ : ∃ m : Int, m = (Jn 42 ta tb).depth := ⟨_, rfl⟩
 have CM : Hid (∀ W, Below w.heap.size w W → Calls prog 81 #[.string ⟨#[42]⟩, .agg #[.string ua, .slice p1 n1 c1, .int .i64 a1, .int .i64 a2, .int .i64 a3], .agg #[.string ub, .slice p2 n2 c2, .int .i64 b1, .int .i64 b2, .int .i64 b3]] W fun e w' => (∃ r5, e = .returned (.tuple #[.agg #[.string ⟨#[]⟩, .slice (some ⟨r5, 0, none⟩) 3 3, .int .i64 m1, .int .i64 m2, .int .i64 m3], .bool (decide (m2 ≤ 16))]) ∧ FV nI w' (fun q => ok q ∨ (W.heap.size ≤ q ∧ q < w'.heap.size)) (Jn 42 ta tb) (nI (Jn 42 ta tb) (.slice (some ⟨r5, 0, none⟩) 3 3))) ∧ Below W.heap.size W w') := H_ (fun W hW =>
  Z6t ok 42 (.inr rfl) ta tb (Zw hta).1 (Zw hta).2 (Zw htb).1 (Zw htb).2 ua ub a1 a2 a3 b1 b2 b3 m1 m2 m3 p1 p2 n1 c1 n2 c2 W hq1 hq2 hm1 hm2 hm3 (fun k hk => Nat.lt_of_lt_of_le (hok k hk) hW.size) (g1.below hW hok) (g2.below hW hok))
 have HZ : Hid (∀ z : Bool, z = decide (m2 ≤ 16) → Yt .pair ta tb = if z = true then some (Jn 42 ta tb) else none) := H_ (fun z hz => by
  have hs := Z4n 42 ta tb
  subst hz
  rw [hm2, hs]
  simp only [Yt, mkT, Jn]
  by_cases h : 1 + ta.size + tb.size ≤ 16
  · rw [if_pos h, if_pos (by simpa using by omega)]
  · rw [if_neg h, if_neg (by simpa using by omega)])
 have HN : Hid (∀ v', nI (Jn 42 ta tb) v' = [.string ⟨#[]⟩, v', .int .i64 m1, .int .i64 m2, .int .i64 m3]) := H_ (fun v' => by rw [hm1, hm2, hm3]; rfl)
 have HE2 : Hid (bs (Z0 (Jn 42 ta tb)) = ⟨#[]⟩ ∧ ((Jn 42 ta tb).bytes : Int) = m1 ∧ ((Jn 42 ta tb).size : Int) = m2 ∧ ((Jn 42 ta tb).depth : Int) = m3) := H_ ⟨rfl, hm1.symm, hm2.symm, hm3.symm⟩
 obtain ⟨z, hz⟩ : ∃ z, z = decide (m2 ≤ 16) := ⟨_, rfl⟩
 rw [HZ.out z hz]
 rw [← hz] at CM
 obtain ⟨R0, hR0⟩ : ∃ R, R = (if z = true then some (Jn 42 ta tb) else none) := ⟨_, rfl⟩
 rw [← hR0]
 have HR0 := H_ hR0
 clear hR0
 obtain ⟨wa, hwa⟩ : ∃ wa, wa = w.alloc (.cells #[.string ⟨#[]⟩, .slice none 0 0, .int .i64 0, .int .i64 0, .int .i64 0] 49) := ⟨_, rfl⟩
 have yw : wa.heap[w.heap.size]? = some (.cells #[.string ⟨#[]⟩, .slice none 0 0, .int .i64 0, .int .i64 0, .int .i64 0] 49 (0, 0)) := by rw [hwa]; exact heap_alloc_new _ _
 have hbw := H_ (show Below w.heap.size w wa by rw [hwa]; exact Z4 _ _)
 have KA : Hid (∀ W, Below wa.heap.size wa W → (W.cell? ⟨r, off, none⟩ = some (.string ua) ∧ W.cell? ⟨r, off + 1, none⟩ = some (.slice p1 n1 c1) ∧ W.cell? ⟨r, off + 2, none⟩ = some (.int .i64 a1) ∧ W.cell? ⟨r, off + 3, none⟩ = some (.int .i64 a2) ∧ W.cell? ⟨r, off + 4, none⟩ = some (.int .i64 a3) ∧ W.cell? ⟨r, off + 5, none⟩ = some (.string ub) ∧ W.cell? ⟨r, off + 5 + 1, none⟩ = some (.slice p2 n2 c2) ∧ W.cell? ⟨r, off + 5 + 2, none⟩ = some (.int .i64 b1) ∧ W.cell? ⟨r, off + 5 + 3, none⟩ = some (.int .i64 b2) ∧ W.cell? ⟨r, off + 5 + 4, none⟩ = some (.int .i64 b3)) ∧ W.heap[w.heap.size]? = some (.cells #[.string ⟨#[]⟩, .slice none 0 0, .int .i64 0, .int .i64 0, .int .i64 0] 49 (0, 0))) := H_ (fun W hW => ⟨KS.out W (hbw.out.trans (hW.mono hbw.out.size)), Z1 hW (lt_of_block yw) yw⟩)
 have hD : Below wa.heap.size wa wa.drew := (Below.refl _ _).drew
 have hD1 : Below wa.heap.size wa wa := Below.refl _ _
 have CMa : Hid (∀ W, Below wa.heap.size wa W → Calls prog 81 #[.string ⟨#[42]⟩, .agg #[.string ua, .slice p1 n1 c1, .int .i64 a1, .int .i64 a2, .int .i64 a3], .agg #[.string ub, .slice p2 n2 c2, .int .i64 b1, .int .i64 b2, .int .i64 b3]] W fun e w' => (∃ r5, e = .returned (.tuple #[.agg #[.string ⟨#[]⟩, .slice (some ⟨r5, 0, none⟩) 3 3, .int .i64 m1, .int .i64 m2, .int .i64 m3], .bool z]) ∧ FV nI w' (okN wa w' ok) (Jn 42 ta tb) (nI (Jn 42 ta tb) (.slice (some ⟨r5, 0, none⟩) 3 3))) ∧ Below W.heap.size W w') := H_ (fun W hW => (CM.out W (hbw.out.trans (hW.mono hbw.out.size))).mono fun e w' ⟨⟨r5, k1, k2⟩, k3⟩ => ⟨⟨r5, k1, k2.move (fun k hk => hk.imp id (fun q => ⟨by have := hW.size; omega, q.2⟩)) (fun _ _ => rfl) _ _⟩, k3⟩)
 have hwz : wa.heap.size = w.heap.size + 1 := by rw [hwa]; simp
 obtain ⟨⟨ix0, ix1, ix2, ix3, ix4, iy0, iy1, iy2, iy3, iy4⟩, y0⟩ := KA.out _ hD1
 clear y0
 generalize Jn 42 ta tb = T at *
 clear HZ hz hm1 hm2 hm3 hta htb KS CM g1 w1 hu1 hx1 hy1 hz1 hq1 x0 x1 x2 x3 x4 g2 w2 hu2 hx2 hy2 hz2 hq2 y0 y1 y2 y3 y4 h4 h5 hr h1
 go_enter func44, ntmps44
 go_wp2_with fail
 rw [← hwa]
 clear hwa yw
 first | (go_region_with (first | (go_at_call 81; first | ((with_reducible refine (CMa.out _ (by assumption)).mono ?_); rintro e w2 ⟨⟨r5, rfl, hf5⟩, hbw2⟩; have hBw2 := Below.trans (by assumption : Below wa.heap.size wa _) (hbw2.mono (Below.size (by assumption))); obtain ⟨⟨kx0, kx1, kx2, kx3, kx4, ky0, ky1, ky2, ky3, ky4⟩, yw2⟩ := KA.out _ hBw2; obtain ⟨f0, f1, f2, f3, f4⟩ := Zf yw2; obtain ⟨z0, z1, z2, z3, z4⟩ := Zb yw2)))) | fail
 all_goals
  go_wp2_with fail
  have O := Zg yw2 (.string ⟨#[]⟩) (.slice (some ⟨r5, 0, none⟩) 3 3) (.int .i64 m1) (.int .i64 m2) (.int .i64 m3)
  obtain ⟨r0, r1, r2, r3, r4⟩ := Zb O
  refine bodyPost_ret (v := .tuple #[.agg #[.string ⟨#[]⟩, .slice (some ⟨r5, 0, none⟩) 3 3, .int .i64 m1, .int .i64 m2, .int .i64 m3], .bool z]) (by simp [results, results44, go_sem, r0, r1, r2, r3, r4]) rfl ⟨?_, ?_⟩
  · rw [HR0.out]
    cases z
    · exact ⟨_, _, _, _, _, _, _, rfl⟩
    · obtain ⟨z1, z2, z3, z4⟩ := HE2.out
      refine ⟨_, _, _, by rw [z1, z2, z3, z4], FV.move (fun k hk => ?_) (fun k hk => ?_) _ _ hf5⟩
      · rcases hk with hk | hk
        · exact .inl hk
        · exact .inr ⟨by have := hk.1; omega, by simpa using hk.2⟩
      · refine Y2 ?_ _ _ _ _ _
        rcases hk with hk | hk
        · have := hok k hk; omega
        · have := hk.1; omega
  first
   | exact Ym (hbw.out.trans (hBw2.mono hbw.out.size)) (Nat.le_refl _) _ _ _ _ _
   | exact (Ym (hbw.out.trans (hBw2.mono hbw.out.size)) (Nat.le_refl _) _ _ _ _ _).drew
theorem tp_if (ok : Nat → Prop) (ta tb tc : Tr) (u v : Value) (w : World) (hok : ∀ k, ok k → k < w.heap.size) (ha : Zn ta = true) (hb : Zn tb = true) (hc : Zn tc = true) (hr : Z0h w ok [ta, tb, tc] v) :
 Calls prog 44 #[.iface 131 u, v] w fun e w' => J0 w ok (if Ya ta = true ∧ tb.text = tc.text then some tb else none) e w' ∧ Below w.heap.size w w' := by
 obtain ⟨r, off, cap, ys, rfl, h1, h2, h3, h4, h5⟩ : ∃ r off cap ys, v = .slice (some ⟨r, off, none⟩) 3 cap ∧ 3 ≤ cap ∧ cap ≤ maxLen ∧ r < w.heap.size ∧ Yc w r off ys ∧ FVs nI w ok [ta, tb, tc] ys := by
  rcases hr with ⟨h, _⟩ | h
  · cases h
  · exact h
 have hm := Zx h2
 obtain ⟨cs1, g1, w1⟩ := FVs.get Xz h5 h4 0 (by simp)
 obtain ⟨p1, n1, c1, rfl⟩ := g1.node
 simp only [List.getElem_cons_zero, List.getElem_cons_succ] at g1 w1
 obtain ⟨ua, a1, a2, a3, hu1, hx1, hy1, hz1, hq1⟩ := Zm ta
 rw [hq1] at w1
 have x0 : w.cell? ⟨r, off, none⟩ = some (.string ua) := by simpa using w1 0 _ rfl
 have x1 : w.cell? ⟨r, off + 1, none⟩ = some (.slice p1 n1 c1) := by simpa using w1 1 _ rfl
 have x2 : w.cell? ⟨r, off + 2, none⟩ = some (.int .i64 a1) := by simpa using w1 2 _ rfl
 have x3 : w.cell? ⟨r, off + 3, none⟩ = some (.int .i64 a2) := by simpa using w1 3 _ rfl
 have x4 : w.cell? ⟨r, off + 4, none⟩ = some (.int .i64 a3) := by simpa using w1 4 _ rfl
 obtain ⟨cs2, g2, w2⟩ := FVs.get Xz h5 h4 1 (by simp)
 obtain ⟨p2, n2, c2, rfl⟩ := g2.node
 simp only [List.getElem_cons_zero, List.getElem_cons_succ] at g2 w2
 obtain ⟨ub, b1, b2, b3, hu2, hx2, hy2, hz2, hq2⟩ := Zm tb
 rw [hq2] at w2
 have y0 : w.cell? ⟨r, off + 5, none⟩ = some (.string ub) := by simpa using w2 0 _ rfl
 have y1 : w.cell? ⟨r, off + 5 + 1, none⟩ = some (.slice p2 n2 c2) := by simpa using w2 1 _ rfl
 have y2 : w.cell? ⟨r, off + 5 + 2, none⟩ = some (.int .i64 b1) := by simpa using w2 2 _ rfl
 have y3 : w.cell? ⟨r, off + 5 + 3, none⟩ = some (.int .i64 b2) := by simpa using w2 3 _ rfl
 have y4 : w.cell? ⟨r, off + 5 + 4, none⟩ = some (.int .i64 b3) := by simpa using w2 4 _ rfl
 obtain ⟨cs3, g3, w3⟩ := FVs.get Xz h5 h4 2 (by simp)
 obtain ⟨p3, n3, c3, rfl⟩ := g3.node
 simp only [List.getElem_cons_zero, List.getElem_cons_succ] at g3 w3
 obtain ⟨uc, d1, d2, d3, hu3, hx3, hy3, hz3, hq3⟩ := Zm tc
 rw [hq3] at w3
 have z0 : w.cell? ⟨r, off + 10, none⟩ = some (.string uc) := by simpa using w3 0 _ rfl
 have z1 : w.cell? ⟨r, off + 10 + 1, none⟩ = some (.slice p3 n3 c3) := by simpa using w3 1 _ rfl
 have z2 : w.cell? ⟨r, off + 10 + 2, none⟩ = some (.int .i64 d1) := by simpa using w3 2 _ rfl
 have z3 : w.cell? ⟨r, off + 10 + 3, none⟩ = some (.int .i64 d2) := by simpa using w3 3 _ rfl
 have z4 : w.cell? ⟨r, off + 10 + 4, none⟩ = some (.int .i64 d3) := by simpa using w3 4 _ rfl
 have KS : Hid (∀ W, Below w.heap.size w W → W.cell? ⟨r, off, none⟩ = some (.string ua) ∧ W.cell? ⟨r, off + 1, none⟩ = some (.slice p1 n1 c1) ∧ W.cell? ⟨r, off + 2, none⟩ = some (.int .i64 a1) ∧ W.cell? ⟨r, off + 3, none⟩ = some (.int .i64 a2) ∧ W.cell? ⟨r, off + 4, none⟩ = some (.int .i64 a3) ∧ W.cell? ⟨r, off + 5, none⟩ = some (.string ub) ∧ W.cell? ⟨r, off + 5 + 1, none⟩ = some (.slice p2 n2 c2) ∧ W.cell? ⟨r, off + 5 + 2, none⟩ = some (.int .i64 b1) ∧ W.cell? ⟨r, off + 5 + 3, none⟩ = some (.int .i64 b2) ∧ W.cell? ⟨r, off + 5 + 4, none⟩ = some (.int .i64 b3) ∧ W.cell? ⟨r, off + 10, none⟩ = some (.string uc) ∧ W.cell? ⟨r, off + 10 + 1, none⟩ = some (.slice p3 n3 c3) ∧ W.cell? ⟨r, off + 10 + 2, none⟩ = some (.int .i64 d1) ∧ W.cell? ⟨r, off + 10 + 3, none⟩ = some (.int .i64 d2) ∧ W.cell? ⟨r, off + 10 + 4, none⟩ = some (.int .i64 d3)) := H_ (fun W hW => ⟨(hW.cell (p := ⟨r, off, none⟩) h3).trans (x0), (hW.cell (p := ⟨r, off + 1, none⟩) h3).trans (x1), (hW.cell (p := ⟨r, off + 2, none⟩) h3).trans (x2), (hW.cell (p := ⟨r, off + 3, none⟩) h3).trans (x3), (hW.cell (p := ⟨r, off + 4, none⟩) h3).trans (x4), (hW.cell (p := ⟨r, off + 5, none⟩) h3).trans (y0), (hW.cell (p := ⟨r, off + 5 + 1, none⟩) h3).trans (y1), (hW.cell (p := ⟨r, off + 5 + 2, none⟩) h3).trans (y2), (hW.cell (p := ⟨r, off + 5 + 3, none⟩) h3).trans (y3), (hW.cell (p := ⟨r, off + 5 + 4, none⟩) h3).trans (y4), (hW.cell (p := ⟨r, off + 10, none⟩) h3).trans (z0), (hW.cell (p := ⟨r, off + 10 + 1, none⟩) h3).trans (z1), (hW.cell (p := ⟨r, off + 10 + 2, none⟩) h3).trans (z2), (hW.cell (p := ⟨r, off + 10 + 3, none⟩) h3).trans (z3), (hW.cell (p := ⟨r, off + 10 + 4, none⟩) h3).trans (z4)⟩)
 have CA : Hid (∀ W, Calls prog 76 #[.agg #[.string ua, .slice p1 n1 c1, .int .i64 a1, .int .i64 a2, .int .i64 a3]] W fun e w' => e = .returned (.bool (Ya ta)) ∧ Below W.heap.size W w') := H_ (fun W => by rw [hu1, hx1, hy1, hz1]; exact Vz (Ze ha).1 g1 W)
 have CE : Hid (∀ W, Below w.heap.size w W → Calls prog 82 #[.agg #[.string ub, .slice p2 n2 c2, .int .i64 b1, .int .i64 b2, .int .i64 b3], .agg #[.string uc, .slice p3 n3 c3, .int .i64 d1, .int .i64 d2, .int .i64 d3]] W fun e w' => Z1b (tb.text = tc.text) e ∧ Below W.heap.size W w') := H_ (fun W hW => by rw [hu2, hx2, hy2, hz2, hu3, hx3, hy3, hz3]; exact Z4w (Ze hb).1 (Ze hc).1 (g2.below hW hok) (g3.below hW hok) (fun k hk => Nat.lt_of_lt_of_le (hok k hk) hW.size) (fun k hk => Nat.lt_of_lt_of_le (hok k hk) hW.size))
 have HS : Hid (∀ w', Below w.heap.size w w' → J0 w ok (some tb) (.returned (.tuple #[.agg #[.string ub, .slice p2 n2 c2, .int .i64 b1, .int .i64 b2, .int .i64 b3], .bool true])) w') := H_ (fun w' hB => by rw [hu2, hx2, hy2, hz2]; exact tp_some_of hok hB g2)
 obtain ⟨P, hP⟩ : ∃ P, P = (tb.text = tc.text) := ⟨_, rfl⟩
 rw [← hP] at CE
 have HJ : Hid (∀ z : Bool, (z = true ↔ P) → (if Ya ta = true ∧ tb.text = tc.text then some tb else none) = if Ya ta = true ∧ z = true then some tb else none) := H_ (fun z hz => by
  have h : (Ya ta = true ∧ tb.text = tc.text) ↔ (Ya ta = true ∧ z = true) := by rw [hz, hP]
  exact ite_congr (propext h) (fun _ => rfl) (fun _ => rfl))
 have HJ2 : Hid (Ya ta = false → (if Ya ta = true ∧ tb.text = tc.text then some tb else none) = none) := H_ (fun h => by rw [h]; simp)
 obtain ⟨R, hR⟩ : ∃ R, R = (if Ya ta = true ∧ tb.text = tc.text then some tb else none) := ⟨_, rfl⟩
 rw [← hR] at HJ HJ2 ⊢
 obtain ⟨wa, hwa⟩ : ∃ wa, wa = w.alloc (.cells #[.string ⟨#[]⟩, .slice none 0 0, .int .i64 0, .int .i64 0, .int .i64 0] 49) := ⟨_, rfl⟩
 have yw : wa.heap[w.heap.size]? = some (.cells #[.string ⟨#[]⟩, .slice none 0 0, .int .i64 0, .int .i64 0, .int .i64 0] 49 (0, 0)) := by rw [hwa]; exact heap_alloc_new _ _
 have hbw := H_ (show Below w.heap.size w wa by rw [hwa]; exact Z4 _ _)
 have KA : Hid (∀ W, Below wa.heap.size wa W → (W.cell? ⟨r, off, none⟩ = some (.string ua) ∧ W.cell? ⟨r, off + 1, none⟩ = some (.slice p1 n1 c1) ∧ W.cell? ⟨r, off + 2, none⟩ = some (.int .i64 a1) ∧ W.cell? ⟨r, off + 3, none⟩ = some (.int .i64 a2) ∧ W.cell? ⟨r, off + 4, none⟩ = some (.int .i64 a3) ∧ W.cell? ⟨r, off + 5, none⟩ = some (.string ub) ∧ W.cell? ⟨r, off + 5 + 1, none⟩ = some (.slice p2 n2 c2) ∧ W.cell? ⟨r, off + 5 + 2, none⟩ = some (.int .i64 b1) ∧ W.cell? ⟨r, off + 5 + 3, none⟩ = some (.int .i64 b2) ∧ W.cell? ⟨r, off + 5 + 4, none⟩ = some (.int .i64 b3) ∧ W.cell? ⟨r, off + 10, none⟩ = some (.string uc) ∧ W.cell? ⟨r, off + 10 + 1, none⟩ = some (.slice p3 n3 c3) ∧ W.cell? ⟨r, off + 10 + 2, none⟩ = some (.int .i64 d1) ∧ W.cell? ⟨r, off + 10 + 3, none⟩ = some (.int .i64 d2) ∧ W.cell? ⟨r, off + 10 + 4, none⟩ = some (.int .i64 d3)) ∧ W.heap[w.heap.size]? = some (.cells #[.string ⟨#[]⟩, .slice none 0 0, .int .i64 0, .int .i64 0, .int .i64 0] 49 (0, 0))) := H_ (fun W hW => ⟨KS.out W (hbw.out.trans (hW.mono hbw.out.size)), Z1 hW (lt_of_block yw) yw⟩)
 have hD : Below wa.heap.size wa wa.drew := (Below.refl _ _).drew
 have hD1 : Below wa.heap.size wa wa := Below.refl _ _
 obtain ⟨⟨ix0, ix1, ix2, ix3, ix4, iy0, iy1, iy2, iy3, iy4, iz0, iz1, iz2, iz3, iz4⟩, y0⟩ := KA.out _ hD1
 clear y0
 have K : Hid (∀ W, Below w.heap.size w W → (fun W => Below w.heap.size w W ∧ (W.cell? ⟨r, off, none⟩ = some (.string ua) ∧ W.cell? ⟨r, off + 1, none⟩ = some (.slice p1 n1 c1) ∧ W.cell? ⟨r, off + 2, none⟩ = some (.int .i64 a1) ∧ W.cell? ⟨r, off + 3, none⟩ = some (.int .i64 a2) ∧ W.cell? ⟨r, off + 4, none⟩ = some (.int .i64 a3) ∧ W.cell? ⟨r, off + 5, none⟩ = some (.string ub) ∧ W.cell? ⟨r, off + 5 + 1, none⟩ = some (.slice p2 n2 c2) ∧ W.cell? ⟨r, off + 5 + 2, none⟩ = some (.int .i64 b1) ∧ W.cell? ⟨r, off + 5 + 3, none⟩ = some (.int .i64 b2) ∧ W.cell? ⟨r, off + 5 + 4, none⟩ = some (.int .i64 b3) ∧ W.cell? ⟨r, off + 10, none⟩ = some (.string uc) ∧ W.cell? ⟨r, off + 10 + 1, none⟩ = some (.slice p3 n3 c3) ∧ W.cell? ⟨r, off + 10 + 2, none⟩ = some (.int .i64 d1) ∧ W.cell? ⟨r, off + 10 + 3, none⟩ = some (.int .i64 d2) ∧ W.cell? ⟨r, off + 10 + 4, none⟩ = some (.int .i64 d3))) W) := H_ (fun W hW => ⟨hW, KS.out W hW⟩)
 have S0 := H_ (K.out _ (hbw.out.drew))
 clear hP hR ha hb hc KS g1 w1 hu1 hx1 hy1 hz1 hq1 x0 x1 x2 x3 x4 g2 w2 hu2 hx2 hy2 hz2 hq2 y0 y1 y2 y3 y4 g3 w3 hu3 hx3 hy3 hz3 hq3 z0 z1 z2 z3 z4 h4 h5 hr h1
 cases hza : Ya ta with
 | false =>
   rw [hza] at CA
   have HF := H_ (HJ2.out hza)
   rw [HF.out]
   clear HJ HJ2 hza CE
   go_enter func44, ntmps44
   go_wp2_with fail
   rw [← hwa]
   clear hwa yw
   refine wp_region_held_drew (S := (fun W => Below w.heap.size w W ∧ (W.cell? ⟨r, off, none⟩ = some (.string ua) ∧ W.cell? ⟨r, off + 1, none⟩ = some (.slice p1 n1 c1) ∧ W.cell? ⟨r, off + 2, none⟩ = some (.int .i64 a1) ∧ W.cell? ⟨r, off + 3, none⟩ = some (.int .i64 a2) ∧ W.cell? ⟨r, off + 4, none⟩ = some (.int .i64 a3) ∧ W.cell? ⟨r, off + 5, none⟩ = some (.string ub) ∧ W.cell? ⟨r, off + 5 + 1, none⟩ = some (.slice p2 n2 c2) ∧ W.cell? ⟨r, off + 5 + 2, none⟩ = some (.int .i64 b1) ∧ W.cell? ⟨r, off + 5 + 3, none⟩ = some (.int .i64 b2) ∧ W.cell? ⟨r, off + 5 + 4, none⟩ = some (.int .i64 b3) ∧ W.cell? ⟨r, off + 10, none⟩ = some (.string uc) ∧ W.cell? ⟨r, off + 10 + 1, none⟩ = some (.slice p3 n3 c3) ∧ W.cell? ⟨r, off + 10 + 2, none⟩ = some (.int .i64 d1) ∧ W.cell? ⟨r, off + 10 + 3, none⟩ = some (.int .i64 d2) ∧ W.cell? ⟨r, off + 10 + 4, none⟩ = some (.int .i64 d3)))) (by kernel_rfl) S0.out (fun hHeld => ?_)
   refine wpAnyH_take (i := 0) (oi := _) (v := ?_) rfl (by kernel_rfl) (by kernel_rfl) (by kernel_rfl) (fun _ _ _ h => h) (Or.inl ⟨by rfl, ?_⟩) hHeld ?_
   rotate_left 1
   · intro w hSw; (try dsimp only at hSw); go_simp; try with_reducible rfl
   try simp only [Act.put, List.setIfInBounds_toArray, List.set_cons_zero, List.set_cons_succ]
   refine wpAnyH_take (i := 1) (oi := _) (v := ?_) rfl (by kernel_rfl) (by kernel_rfl) (by kernel_rfl) (fun _ _ _ h => h) (Or.inl ⟨by rfl, ?_⟩) hHeld ?_
   rotate_left 1
   · intro w hSw; (try dsimp only at hSw); go_simp; try with_reducible rfl
   try simp only [Act.put, List.setIfInBounds_toArray, List.set_cons_zero, List.set_cons_succ]
   refine wpAnyH_take (i := 2) (oi := _) (v := ?_) rfl (by kernel_rfl) (by kernel_rfl) (by kernel_rfl) (fun _ _ _ h => h) (Or.inl ⟨by rfl, ?_⟩) hHeld ?_
   rotate_left 1
   · intro w hSw; (try dsimp only at hSw); go_simp; try with_reducible rfl
   try simp only [Act.put, List.setIfInBounds_toArray, List.set_cons_zero, List.set_cons_succ]
   refine wpAnyH_take (i := 3) (oi := _) (v := ?_) rfl (by kernel_rfl) (by kernel_rfl) (by kernel_rfl) (fun _ _ _ h => h) (Or.inl ⟨by rfl, ?_⟩) hHeld ?_
   rotate_left 1
   · intro w hSw; (try dsimp only at hSw); go_simp; try with_reducible rfl
   try simp only [Act.put, List.setIfInBounds_toArray, List.set_cons_zero, List.set_cons_succ]
   refine wpAnyH_take (i := 4) (oi := _) (v := ?_) rfl (by kernel_rfl) (by kernel_rfl) (by kernel_rfl) (fun _ _ _ h => h) (Or.inl ⟨by rfl, ?_⟩) hHeld ?_
   rotate_left 1
   · intro w hSw; (try dsimp only at hSw); go_simp; try with_reducible rfl
   try simp only [Act.put, List.setIfInBounds_toArray, List.set_cons_zero, List.set_cons_succ]
   refine wpAnyH_take (i := 5) (oi := _) (v := ?_) rfl (by kernel_rfl) (by kernel_rfl) (by kernel_rfl) (fun _ _ _ h => h) (Or.inl ⟨by rfl, ?_⟩) hHeld ?_
   rotate_left 1
   · intro w hSw; (try dsimp only at hSw); go_simp; try with_reducible rfl
   try simp only [Act.put, List.setIfInBounds_toArray, List.set_cons_zero, List.set_cons_succ]
   refine wpAnyH_ready (rs := [6]) (by kernel_rfl) (by simp) ?_
   refine AllReadyH.cons (o := _) rfl (fun kk hkk => ?_) AllReadyH.nil
   go_simp
   go_at_call 76
   (with_reducible refine (CA.out _).mono ?_)
   rintro e w2 ⟨rfl, hbw2⟩
   have hBw2 := Below.trans (by assumption : Below wa.heap.size wa _) (hbw2.mono (Below.size (by assumption)))
   obtain ⟨⟨kx0, kx1, kx2, kx3, kx4, ky0, ky1, ky2, ky3, ky4, kz0, kz1, kz2, kz3, kz4⟩, yw2⟩ := KA.out _ hBw2
   obtain ⟨f0, f1, f2, f3, f4⟩ := Zf yw2
   obtain ⟨z0, z1, z2, z3, z4⟩ := Zb yw2
   have hS2 := K.out _ (hbw.out.trans (hBw2.mono hbw.out.size))
   refine hkk.out _ _ hS2 (fun hHeld2 => ?_)
   clear hkk kk
   try simp only [Act.put, List.setIfInBounds_toArray, List.set_cons_zero, List.set_cons_succ]
   refine wpAnyH_take (i := 7) (oi := _) (v := ?_) rfl (by kernel_rfl) (by kernel_rfl) (by kernel_rfl) (fun _ _ _ h => h) (Or.inl ⟨by rfl, ?_⟩) hHeld2 ?_
   rotate_left 1
   · intro w hSw; (try dsimp only at hSw); go_simp; try with_reducible rfl
   try simp only [Act.put, List.setIfInBounds_toArray, List.set_cons_zero, List.set_cons_succ]
   refine wpAnyH_take (i := 8) (oi := _) (v := undef) rfl (by kernel_rfl) (by kernel_rfl) (by kernel_rfl) (fun _ _ _ h => h) (Or.inr ⟨by rfl, rfl⟩) hHeld2 ?_
   try simp only [Act.put, List.setIfInBounds_toArray, List.set_cons_zero, List.set_cons_succ]
   refine wpAnyH_take (i := 9) (oi := _) (v := undef) rfl (by kernel_rfl) (by kernel_rfl) (by kernel_rfl) (fun _ _ _ h => h) (Or.inr ⟨by rfl, rfl⟩) hHeld2 ?_
   try simp only [Act.put, List.setIfInBounds_toArray, List.set_cons_zero, List.set_cons_succ]
   refine wpAnyH_take (i := 10) (oi := _) (v := undef) rfl (by kernel_rfl) (by kernel_rfl) (by kernel_rfl) (fun _ _ _ h => h) (Or.inr ⟨by rfl, rfl⟩) hHeld2 ?_
   try simp only [Act.put, List.setIfInBounds_toArray, List.set_cons_zero, List.set_cons_succ]
   refine wpAnyH_take (i := 11) (oi := _) (v := undef) rfl (by kernel_rfl) (by kernel_rfl) (by kernel_rfl) (fun _ _ _ h => h) (Or.inr ⟨by rfl, rfl⟩) hHeld2 ?_
   try simp only [Act.put, List.setIfInBounds_toArray, List.set_cons_zero, List.set_cons_succ]
   refine wpAnyH_take (i := 12) (oi := _) (v := undef) rfl (by kernel_rfl) (by kernel_rfl) (by kernel_rfl) (fun _ _ _ h => h) (Or.inr ⟨by rfl, rfl⟩) hHeld2 ?_
   try simp only [Act.put, List.setIfInBounds_toArray, List.set_cons_zero, List.set_cons_succ]
   refine wpAnyH_take (i := 13) (oi := _) (v := undef) rfl (by kernel_rfl) (by kernel_rfl) (by kernel_rfl) (fun _ _ _ h => h) (Or.inr ⟨by rfl, rfl⟩) hHeld2 ?_
   try simp only [Act.put, List.setIfInBounds_toArray, List.set_cons_zero, List.set_cons_succ]
   refine wpAnyH_take (i := 14) (oi := _) (v := undef) rfl (by kernel_rfl) (by kernel_rfl) (by kernel_rfl) (fun _ _ _ h => h) (Or.inr ⟨by rfl, rfl⟩) hHeld2 ?_
   try simp only [Act.put, List.setIfInBounds_toArray, List.set_cons_zero, List.set_cons_succ]
   refine wpAnyH_take (i := 15) (oi := _) (v := ?_) rfl (by kernel_rfl) (by kernel_rfl) (by kernel_rfl) (fun _ _ _ h => h) (Or.inl ⟨by rfl, ?_⟩) hHeld2 ?_
   rotate_left 1
   · intro w hSw; (try dsimp only at hSw); go_simp; try with_reducible rfl
   try simp only [Act.put, List.setIfInBounds_toArray, List.set_cons_zero, List.set_cons_succ]
   refine wpAnyH_ready (rs := [16]) (by kernel_rfl) (by simp) ?_
   refine AllReadyH.cons (o := _) rfl (fun kk hkk => ?_) AllReadyH.nil
   go_simp
   refine hkk.out _ _ (KS5 K.out hS2.1 (Nat.le_refl _)) (fun hHeld3 => ?_)
   clear hkk kk
   try simp only [Act.put, List.setIfInBounds_toArray, List.set_cons_zero, List.set_cons_succ]
   refine wpAnyH_ready (rs := [17]) (by kernel_rfl) (by simp) ?_
   refine AllReadyH.cons (o := _) rfl (fun kk hkk => ?_) AllReadyH.nil
   go_simp
   refine hkk.out _ _ hHeld3 (fun hHeld4 => ?_)
   clear hkk kk
   try simp only [Act.put, List.setIfInBounds_toArray, List.set_cons_zero, List.set_cons_succ]
   refine wpAnyH_done (by kernel_rfl) ?_ _
   all_goals
    go_wp2_with fail
    have O := Zg yw2 (.string ub) (.slice p2 n2 c2) (.int .i64 b1) (.int .i64 b2) (.int .i64 b3)
    obtain ⟨r0, r1, r2, r3, r4⟩ := Zb O
    refine bodyPost_ret (v := .tuple #[.agg #[.string ub, .slice p2 n2 c2, .int .i64 b1, .int .i64 b2, .int .i64 b3], .bool false]) (by simp [results, results44, go_sem, r0, r1, r2, r3, r4]) rfl ⟨⟨_, _, _, _, _, _, _, rfl⟩, ?_⟩
    first
     | exact Ym (hbw.out.trans (hBw2.mono hbw.out.size)) (Nat.le_refl _) _ _ _ _ _
     | exact (Ym (hbw.out.trans (hBw2.mono hbw.out.size)) (Nat.le_refl _) _ _ _ _ _).drew
 | true =>
   rw [hza] at CA HJ
   clear HJ2 hza
   go_enter func44, ntmps44
   go_wp2_with fail
   rw [← hwa]
   clear hwa yw
   first | (go_region_held3 (fun W => Below w.heap.size w W ∧ (W.cell? ⟨r, off, none⟩ = some (.string ua) ∧ W.cell? ⟨r, off + 1, none⟩ = some (.slice p1 n1 c1) ∧ W.cell? ⟨r, off + 2, none⟩ = some (.int .i64 a1) ∧ W.cell? ⟨r, off + 3, none⟩ = some (.int .i64 a2) ∧ W.cell? ⟨r, off + 4, none⟩ = some (.int .i64 a3) ∧ W.cell? ⟨r, off + 5, none⟩ = some (.string ub) ∧ W.cell? ⟨r, off + 5 + 1, none⟩ = some (.slice p2 n2 c2) ∧ W.cell? ⟨r, off + 5 + 2, none⟩ = some (.int .i64 b1) ∧ W.cell? ⟨r, off + 5 + 3, none⟩ = some (.int .i64 b2) ∧ W.cell? ⟨r, off + 5 + 4, none⟩ = some (.int .i64 b3) ∧ W.cell? ⟨r, off + 10, none⟩ = some (.string uc) ∧ W.cell? ⟨r, off + 10 + 1, none⟩ = some (.slice p3 n3 c3) ∧ W.cell? ⟨r, off + 10 + 2, none⟩ = some (.int .i64 d1) ∧ W.cell? ⟨r, off + 10 + 3, none⟩ = some (.int .i64 d2) ∧ W.cell? ⟨r, off + 10 + 4, none⟩ = some (.int .i64 d3))) (first | exact S0.out | assumption | exact KS5 K.out hS3.1 (Nat.le_refl _) | exact KS5 K.out hS2.1 (Nat.le_refl _) | fail) (first | (go_at_call 76; first | ((with_reducible refine (CA.out _).mono ?_); rintro e w2 ⟨rfl, hbw2⟩; have hBw2 := Below.trans (by assumption : Below wa.heap.size wa _) (hbw2.mono (Below.size (by assumption))); obtain ⟨⟨kx0, kx1, kx2, kx3, kx4, ky0, ky1, ky2, ky3, ky4, kz0, kz1, kz2, kz3, kz4⟩, yw2⟩ := KA.out _ hBw2; obtain ⟨f0, f1, f2, f3, f4⟩ := Zf yw2; obtain ⟨z0, z1, z2, z3, z4⟩ := Zb yw2; have hS2 := K.out _ (hbw.out.trans (hBw2.mono hbw.out.size)))) | (go_at_call 82; first | ((with_reducible refine (CE.out _ (hbw.out.trans ((by assumption : Below wa.heap.size wa _).mono hbw.out.size))).mono ?_); rintro e w3 ⟨⟨z, rfl, hz⟩, hbw3⟩; have hBw3 := Below.trans (by assumption : Below wa.heap.size wa _) (hbw3.mono (Below.size (by assumption))); obtain ⟨⟨lx0, lx1, lx2, lx3, lx4, ly0, ly1, ly2, ly3, ly4, lz0, lz1, lz2, lz3, lz4⟩, yw3⟩ := KA.out _ hBw3; obtain ⟨f0, f1, f2, f3, f4⟩ := Zf yw3; obtain ⟨z0, z1, z2, z3, z4⟩ := Zb yw3; have hS3 := K.out _ (hbw.out.trans (hBw3.mono hbw.out.size)))) | fail)) | fail
   all_goals
    go_wp2_with fail
    have O := Zg yw3 (.string ub) (.slice p2 n2 c2) (.int .i64 b1) (.int .i64 b2) (.int .i64 b3)
    obtain ⟨r0, r1, r2, r3, r4⟩ := Zb O
    refine bodyPost_ret (v := .tuple #[.agg #[.string ub, .slice p2 n2 c2, .int .i64 b1, .int .i64 b2, .int .i64 b3], .bool z]) (by simp [results, results44, go_sem, r0, r1, r2, r3, r4]) rfl ⟨?_, ?_⟩
    · rw [HJ.out z hz]
      cases z
      · exact ⟨_, _, _, _, _, _, _, rfl⟩
      · first
        | exact HS.out _ (Ym (hbw.out.trans (hBw3.mono hbw.out.size)) (Nat.le_refl _) _ _ _ _ _)
        | exact HS.out _ (Ym (hbw.out.trans (hBw3.mono hbw.out.size)) (Nat.le_refl _) _ _ _ _ _).drew
    first
     | exact Ym (hbw.out.trans (hBw3.mono hbw.out.size)) (Nat.le_refl _) _ _ _ _ _
     | exact (Ym (hbw.out.trans (hBw3.mono hbw.out.size)) (Nat.le_refl _) _ _ _ _ _).drew
theorem fv_two {ok : Nat → Prop} {w0 w1 wb W : World} {Z X Y : Obj} {t : Tr} {cs : List Value} (hok : ∀ k, ok k → k < w0.heap.size) (h01 : Below (w0.alloc Z).heap.size (w0.alloc Z) w1) (hwb : wb = (w1.alloc X).alloc Y) (hf : FV nI w1 ok t cs) (hW : Below wb.heap.size wb W) : FV nI W ok t cs := by
 refine FV.move (fun _ h => h) (fun k hk => ?_) _ _ hf
 have h1 := hok k hk
 have h2 := h01.size
 simp only [Yy] at h2
 rw [hW.block k (by rw [hwb]; simp; omega), hwb, heap_alloc_old _ _ (by simp; omega), heap_alloc_old _ _ (by omega)]
theorem tp_fin {w W : World} {ok : Nat → Prop} {t : Tr} {p : Option Addr} {m c : Nat} (hok : ∀ k, ok k → k < w.heap.size) (hf : FV nI W ok t (nI t (.slice p m c))) (v0 v1 v2 v3 v4 : Value) : FV nI (((((W.setCell ⟨w.heap.size, 0, none⟩ v0).setCell ⟨w.heap.size, 1, none⟩ v1).setCell ⟨w.heap.size, 2, none⟩ v2).setCell ⟨w.heap.size, 3, none⟩ v3).setCell ⟨w.heap.size, 4, none⟩ v4) ok t (nI t (.slice p m c)) :=
 FV.move (fun _ h => h) (fun k hk => Y2 (by have := hok k hk; omega) _ _ _ _ _) _ _ hf
theorem tp_call (ok : Nat → Prop) (ta tb : Tr) (u v : Value) (w : World) (hok : ∀ k, ok k → k < w.heap.size) (hty : Zn ta = true) (htb : Zn tb = true) (hr : Z0h w ok [ta, tb] v) :
 Calls prog 44 #[.iface 132 u, v] w fun e w' => J0 w ok (Yt .call ta tb) e w' ∧ Below w.heap.size w w' := by
 obtain ⟨r, off, cap, ys, rfl, h1, h2, h3, h4, h5⟩ : ∃ r off cap ys, v = .slice (some ⟨r, off, none⟩) 2 cap ∧ 2 ≤ cap ∧ cap ≤ maxLen ∧ r < w.heap.size ∧ Yc w r off ys ∧ FVs nI w ok [ta, tb] ys := by
  rcases hr with ⟨h, _⟩ | h
  · cases h
  · exact h
 have hm := Zx h2
 obtain ⟨cs1, g1, w1⟩ := FVs.get Xz h5 h4 0 (by simp)
 obtain ⟨p1, n1, c1, rfl⟩ := g1.node
 simp only [List.getElem_cons_zero, List.getElem_cons_succ] at g1 w1
 obtain ⟨ua, a1, a2, a3, hu1, hx1, hy1, hz1, hq1⟩ := Zm ta
 rw [hq1] at w1
 have x0 : w.cell? ⟨r, off, none⟩ = some (.string ua) := by simpa using w1 0 _ rfl
 have x1 : w.cell? ⟨r, off + 1, none⟩ = some (.slice p1 n1 c1) := by simpa using w1 1 _ rfl
 have x2 : w.cell? ⟨r, off + 2, none⟩ = some (.int .i64 a1) := by simpa using w1 2 _ rfl
 have x3 : w.cell? ⟨r, off + 3, none⟩ = some (.int .i64 a2) := by simpa using w1 3 _ rfl
 have x4 : w.cell? ⟨r, off + 4, none⟩ = some (.int .i64 a3) := by simpa using w1 4 _ rfl
 obtain ⟨cs2, g2, w2⟩ := FVs.get Xz h5 h4 1 (by simp)
 obtain ⟨p2, n2, c2, rfl⟩ := g2.node
 simp only [List.getElem_cons_zero, List.getElem_cons_succ] at g2 w2
 obtain ⟨ub, b1, b2, b3, hu2, hx2, hy2, hz2, hq2⟩ := Zm tb
 rw [hq2] at w2
 have y0 : w.cell? ⟨r, off + 5, none⟩ = some (.string ub) := by simpa using w2 0 _ rfl
 have y1 : w.cell? ⟨r, off + 5 + 1, none⟩ = some (.slice p2 n2 c2) := by simpa using w2 1 _ rfl
 have y2 : w.cell? ⟨r, off + 5 + 2, none⟩ = some (.int .i64 b1) := by simpa using w2 2 _ rfl
 have y3 : w.cell? ⟨r, off + 5 + 3, none⟩ = some (.int .i64 b2) := by simpa using w2 3 _ rfl
 have y4 : w.cell? ⟨r, off + 5 + 4, none⟩ = some (.int .i64 b3) := by simpa using w2 4 _ rfl
 have KS : Hid (∀ W, Below w.heap.size w W → W.cell? ⟨r, off, none⟩ = some (.string ua) ∧ W.cell? ⟨r, off + 1, none⟩ = some (.slice p1 n1 c1) ∧ W.cell? ⟨r, off + 2, none⟩ = some (.int .i64 a1) ∧ W.cell? ⟨r, off + 3, none⟩ = some (.int .i64 a2) ∧ W.cell? ⟨r, off + 4, none⟩ = some (.int .i64 a3) ∧ W.cell? ⟨r, off + 5, none⟩ = some (.string ub) ∧ W.cell? ⟨r, off + 5 + 1, none⟩ = some (.slice p2 n2 c2) ∧ W.cell? ⟨r, off + 5 + 2, none⟩ = some (.int .i64 b1) ∧ W.cell? ⟨r, off + 5 + 3, none⟩ = some (.int .i64 b2) ∧ W.cell? ⟨r, off + 5 + 4, none⟩ = some (.int .i64 b3)) := H_ (fun W hW => ⟨(hW.cell (p := ⟨r, off, none⟩) h3).trans (x0), (hW.cell (p := ⟨r, off + 1, none⟩) h3).trans (x1), (hW.cell (p := ⟨r, off + 2, none⟩) h3).trans (x2), (hW.cell (p := ⟨r, off + 3, none⟩) h3).trans (x3), (hW.cell (p := ⟨r, off + 4, none⟩) h3).trans (x4), (hW.cell (p := ⟨r, off + 5, none⟩) h3).trans (y0), (hW.cell (p := ⟨r, off + 5 + 1, none⟩) h3).trans (y1), (hW.cell (p := ⟨r, off + 5 + 2, none⟩) h3).trans (y2), (hW.cell (p := ⟨r, off + 5 + 3, none⟩) h3).trans (y3), (hW.cell (p := ⟨r, off + 5 + 4, none⟩) h3).trans (y4)⟩)
 have hwf := (Ze hty).1
 cases hs : Zy 62 ta with
 | none =>
   have CS : Hid (∀ W, Below w.heap.size w W → Calls prog 63 #[.agg #[.string ua, .slice p1 n1 c1, .int .i64 a1, .int .i64 a2, .int .i64 a3], .string ⟨#[62]⟩] W fun e w' => e = .returned (.tuple #[.agg #[.string ⟨#[]⟩, .slice none 0 0, .int .i64 0, .int .i64 0, .int .i64 0], .agg #[.string ⟨#[]⟩, .slice none 0 0, .int .i64 0, .int .i64 0, .int .i64 0], .bool false]) ∧ Below W.heap.size W w') := H_ (fun W hW => by
    have h := Z0i ok 62 ta p1 n1 c1 W (fun k hk => Nat.lt_of_lt_of_le (hok k hk) hW.size) (Zw hty).1 hwf (g1.below hW hok)
    rw [hs, ← hu1, ← hx1, ← hy1, ← hz1] at h
    exact h)
   rw [show Yt .call ta tb = none by simp [Yt, hs]]
   have kx := KS.out _ (Z4 w (.cells #[.string ⟨#[]⟩, .slice none 0 0, .int .i64 0, .int .i64 0, .int .i64 0] 49))
   obtain ⟨ix0, ix1, ix2, ix3, ix4, iy0, iy1, iy2, iy3, iy4⟩ := kx
   clear hty htb hwf hs KS g1 w1 hu1 hx1 hy1 hz1 hq1 x0 x1 x2 x3 x4 g2 w2 hu2 hx2 hy2 hz2 hq2 y0 y1 y2 y3 y4 h4 h5 hr h1
   go_enter func44, ntmps44
   go_wp2_with (go_at_call 63; go_must (refine (CS.out _ (Z4 w _)).mono ?_; rintro e w1 ⟨rfl, hb1⟩; have y9 := Z5 (o' := (.cells #[.string ⟨#[]⟩, .slice none 0 0, .int .i64 0, .int .i64 0, .int .i64 0] 49)) (Z5 (o' := (.cells #[.string ⟨#[]⟩, .slice none 0 0, .int .i64 0, .int .i64 0, .int .i64 0] 49)) (Z1 hb1 (lt_of_block (heap_alloc_new w (.cells #[.string ⟨#[]⟩, .slice none 0 0, .int .i64 0, .int .i64 0, .int .i64 0] 49))) (heap_alloc_new w (.cells #[.string ⟨#[]⟩, .slice none 0 0, .int .i64 0, .int .i64 0, .int .i64 0] 49)))); have hB9 := H_ ((Yb (Yb (Xp (Z4 w (.cells #[.string ⟨#[]⟩, .slice none 0 0, .int .i64 0, .int .i64 0, .int .i64 0] 49))) hb1) (Zi w1 (.cells #[.string ⟨#[]⟩, .slice none 0 0, .int .i64 0, .int .i64 0, .int .i64 0] 49) (.cells #[.string ⟨#[]⟩, .slice none 0 0, .int .i64 0, .int .i64 0, .int .i64 0] 49))).1); obtain ⟨f0, f1, f2, f3, f4⟩ := Zf y9; obtain ⟨z0, z1, z2, z3, z4⟩ := Zb y9))
   try go_region
   all_goals
    go_wp2_with fail
    have O := Zg y9 (.string ⟨#[]⟩) (.slice none 0 0) (.int .i64 0) (.int .i64 0) (.int .i64 0)
    obtain ⟨r0, r1, r2, r3, r4⟩ := Zb O
    refine bodyPost_ret (v := .tuple #[.agg #[.string ⟨#[]⟩, .slice none 0 0, .int .i64 0, .int .i64 0, .int .i64 0], .bool false]) (by simp [results, results44, go_sem, r0, r1, r2, r3, r4]) rfl ⟨⟨_, _, _, _, _, _, _, rfl⟩, ?_⟩
    first
     | exact Ym hB9.out (Nat.le_refl _) _ _ _ _ _
     | exact (Ym hB9.out (Nat.le_refl _) _ _ _ _ _).drew
 | some ab =>
   obtain ⟨a, b⟩ := ab
   obtain ⟨xa, g1', g2', g3', hxa, hg1, hg2, hg3, hqa⟩ := Zm a
   obtain ⟨xb, e1', e2', e3', hxb, he1, he2, he3, hqb⟩ := Zm b
   have hoka := Xk hty hs
   have CS : Hid (∀ W, Below w.heap.size w W → Calls prog 63 #[.agg #[.string ua, .slice p1 n1 c1, .int .i64 a1, .int .i64 a2, .int .i64 a3], .string ⟨#[62]⟩] W fun e w' => (∃ q1 m1 k1 q2 m2 k2, e = .returned (.tuple #[.agg #[.string xa, .slice q1 m1 k1, .int .i64 g1', .int .i64 g2', .int .i64 g3'], .agg #[.string xb, .slice q2 m2 k2, .int .i64 e1', .int .i64 e2', .int .i64 e3'], .bool true]) ∧ FV nI w' ok a (nI a (.slice q1 m1 k1)) ∧ FV nI w' ok b (nI b (.slice q2 m2 k2))) ∧ Below W.heap.size W w') := H_ (fun W hW => by
    have h := Z0i ok 62 ta p1 n1 c1 W (fun k hk => Nat.lt_of_lt_of_le (hok k hk) hW.size) (Zw hty).1 hwf (g1.below hW hok)
    rw [hs, ← hu1, ← hx1, ← hy1, ← hz1] at h
    rw [hxa, hg1, hg2, hg3, hxb, he1, he2, he3]
    exact h)
   have CE : Hid (∀ W q m k, FV nI W ok a (nI a (.slice q m k)) → Below w.heap.size w W → Calls prog 82 #[.agg #[.string xa, .slice q m k, .int .i64 g1', .int .i64 g2', .int .i64 g3'], .agg #[.string ub, .slice p2 n2 c2, .int .i64 b1, .int .i64 b2, .int .i64 b3]] W fun e w' => Z1b (a.text = tb.text) e ∧ Below W.heap.size W w') := H_ (fun W q m k hf hW => by rw [hxa, hg1, hg2, hg3, hu2, hx2, hy2, hz2]; exact Z4w (Ze hoka.1).1 (Ze htb).1 hf (g2.below hW hok) (fun k hk => Nat.lt_of_lt_of_le (hok k hk) hW.size) (fun k hk => Nat.lt_of_lt_of_le (hok k hk) hW.size))
   have HJ : Hid (∀ z : Bool, (z = true ↔ a.text = tb.text) → Yt .call ta tb = if z = true then some b else none) := H_ (fun z hz => by simp only [Yt, hs]; exact ite_congr (propext hz.symm) (fun _ => rfl) (fun _ => rfl))
   have HE := H_ (And.intro hxb (And.intro he1 (And.intro he2 he3)))
   have kx := KS.out _ (Z4 w (.cells #[.string ⟨#[]⟩, .slice none 0 0, .int .i64 0, .int .i64 0, .int .i64 0] 49))
   obtain ⟨ix0, ix1, ix2, ix3, ix4, iy0, iy1, iy2, iy3, iy4⟩ := kx
   obtain ⟨R, hR⟩ : ∃ R, R = Yt .call ta tb := ⟨_, rfl⟩
   rw [← hR] at HJ ⊢
   obtain ⟨P, hP⟩ : ∃ P, P = (a.text = tb.text) := ⟨_, rfl⟩
   rw [← hP] at HJ CE
   clear hR hP hoka hty htb hwf hs hxa hg1 hg2 hg3 hqa hxb he1 he2 he3 hqb g1 w1 hu1 hx1 hy1 hz1 hq1 x0 x1 x2 x3 x4 g2 w2 hu2 hx2 hy2 hz2 hq2 y0 y1 y2 y3 y4 h4 h5 hr h1
   go_enter func44, ntmps44
   go_wp2_with (go_at_call 63; go_must (refine (CS.out _ (Z4 w _)).mono ?_; rintro e w1 ⟨⟨q1, m1, k1, q2, m2, k2, rfl, hfa, hfb⟩, hb1⟩; obtain ⟨wb, hwb⟩ : ∃ wb, wb = ((w1.alloc (.cells #[.string xa, .slice q1 m1 k1, .int .i64 g1', .int .i64 g2', .int .i64 g3'] 49)).alloc (.cells #[.string xb, .slice q2 m2 k2, .int .i64 e1', .int .i64 e2', .int .i64 e3'] 49)) := ⟨_, rfl⟩; have hbw := H_ (show Below w.heap.size w wb by rw [hwb]; exact (Yb (Yb (Xp (Z4 w (.cells #[.string ⟨#[]⟩, .slice none 0 0, .int .i64 0, .int .i64 0, .int .i64 0] 49))) hb1) (Zi w1 (.cells #[.string xa, .slice q1 m1 k1, .int .i64 g1', .int .i64 g2', .int .i64 g3'] 49) (.cells #[.string xb, .slice q2 m2 k2, .int .i64 e1', .int .i64 e2', .int .i64 e3'] 49))).1); have y9 : wb.heap[w.heap.size]? = some (.cells #[.string ⟨#[]⟩, .slice none 0 0, .int .i64 0, .int .i64 0, .int .i64 0] 49 (0, 0)) := (by rw [hwb]; exact Z5 (Z5 (Z1 hb1 (lt_of_block (heap_alloc_new w (.cells #[.string ⟨#[]⟩, .slice none 0 0, .int .i64 0, .int .i64 0, .int .i64 0] 49))) (heap_alloc_new w (.cells #[.string ⟨#[]⟩, .slice none 0 0, .int .i64 0, .int .i64 0, .int .i64 0] 49))))); have yf : wb.heap[w1.heap.size]? = some (.cells #[.string xa, .slice q1 m1 k1, .int .i64 g1', .int .i64 g2', .int .i64 g3'] 49 (0, 0)) := (by rw [hwb]; exact Z5 (heap_alloc_new w1 (.cells #[.string xa, .slice q1 m1 k1, .int .i64 g1', .int .i64 g2', .int .i64 g3'] 49))); have yt : wb.heap[(w1.heap.size + 1)]? = some (.cells #[.string xb, .slice q2 m2 k2, .int .i64 e1', .int .i64 e2', .int .i64 e3'] 49 (0, 0)) := (by rw [hwb]; exact Z9 w1 (.cells #[.string xa, .slice q1 m1 k1, .int .i64 g1', .int .i64 g2', .int .i64 g3'] 49) (.cells #[.string xb, .slice q2 m2 k2, .int .i64 e1', .int .i64 e2', .int .i64 e3'] 49)); have KA : Hid (∀ W, Below wb.heap.size wb W → (W.cell? ⟨r, off, none⟩ = some (.string ua) ∧ W.cell? ⟨r, off + 1, none⟩ = some (.slice p1 n1 c1) ∧ W.cell? ⟨r, off + 2, none⟩ = some (.int .i64 a1) ∧ W.cell? ⟨r, off + 3, none⟩ = some (.int .i64 a2) ∧ W.cell? ⟨r, off + 4, none⟩ = some (.int .i64 a3) ∧ W.cell? ⟨r, off + 5, none⟩ = some (.string ub) ∧ W.cell? ⟨r, off + 5 + 1, none⟩ = some (.slice p2 n2 c2) ∧ W.cell? ⟨r, off + 5 + 2, none⟩ = some (.int .i64 b1) ∧ W.cell? ⟨r, off + 5 + 3, none⟩ = some (.int .i64 b2) ∧ W.cell? ⟨r, off + 5 + 4, none⟩ = some (.int .i64 b3)) ∧ W.heap[w.heap.size]? = some (.cells #[.string ⟨#[]⟩, .slice none 0 0, .int .i64 0, .int .i64 0, .int .i64 0] 49 (0, 0)) ∧ W.heap[w1.heap.size]? = some (.cells #[.string xa, .slice q1 m1 k1, .int .i64 g1', .int .i64 g2', .int .i64 g3'] 49 (0, 0)) ∧ W.heap[(w1.heap.size + 1)]? = some (.cells #[.string xb, .slice q2 m2 k2, .int .i64 e1', .int .i64 e2', .int .i64 e3'] 49 (0, 0))) := H_ (fun W hW => ⟨KS.out W (hbw.out.trans (hW.mono hbw.out.size)), Z1 hW (lt_of_block y9) y9, Z1 hW (lt_of_block yf) yf, Z1 hW (lt_of_block yt) yt⟩); have VA : Hid (∀ W, Below wb.heap.size wb W → FV nI W ok a (nI a (.slice q1 m1 k1))) := H_ (fun W hW => fv_two hok hb1 hwb hfa hW); have VB : Hid (∀ W, Below wb.heap.size wb W → FV nI W ok b (nI b (.slice q2 m2 k2))) := H_ (fun W hW => fv_two hok hb1 hwb hfb hW); have hd5 : Below wb.heap.size wb wb.drew := (Below.refl _ _).drew; have hd4 : Below wb.heap.size wb wb := Below.refl _ _))
   rw [← hwb]
   clear hwb
   obtain ⟨⟨kx0, kx1, kx2, kx3, kx4, ky0, ky1, ky2, ky3, ky4⟩, yk, yfk, ytk⟩ := KA.out _ hd4
   obtain ⟨f0, f1, f2, f3, f4⟩ := Zf y9
   obtain ⟨z0, z1, z2, z3, z4⟩ := Zb y9
   obtain ⟨uf0, uf1, uf2, uf3, uf4⟩ := Zb yf
   obtain ⟨ut0, ut1, ut2, ut3, ut4⟩ := Zb yt
   clear yf yt y9 yk yfk ytk hfa hfb ix0 ix1 ix2 ix3 ix4 iy0 iy1 iy2 iy3 iy4
   first | (go_region_with (first | (go_at_call 82; (with_reducible refine (CE.out _ _ _ _ (VA.out _ (by assumption)) (hbw.out.trans ((by assumption : Below wb.heap.size wb _).mono hbw.out.size))).mono ?_); rintro e w5 ⟨⟨z, rfl, hz⟩, hb5⟩; have hB5 := Below.trans (by assumption : Below wb.heap.size wb _) (hb5.mono (Below.size (by assumption))); obtain ⟨⟨lx0, lx1, lx2, lx3, lx4, ly0, ly1, ly2, ly3, ly4⟩, yl, yfl, ytl⟩ := KA.out _ hB5; obtain ⟨f0, f1, f2, f3, f4⟩ := Zf yl; obtain ⟨z0, z1, z2, z3, z4⟩ := Zb yl; obtain ⟨vt0, vt1, vt2, vt3, vt4⟩ := Zb ytl))) | fail
   all_goals
    go_wp2_with fail
    have O := Zg yl (.string xb) (.slice q2 m2 k2) (.int .i64 e1') (.int .i64 e2') (.int .i64 e3')
    obtain ⟨r0, r1, r2, r3, r4⟩ := Zb O
    refine bodyPost_ret (v := .tuple #[.agg #[.string xb, .slice q2 m2 k2, .int .i64 e1', .int .i64 e2', .int .i64 e3'], .bool z]) (by simp [results, results44, go_sem, r0, r1, r2, r3, r4]) rfl ⟨?_, ?_⟩
    · rw [HJ.out z hz]
      cases z
      · exact ⟨_, _, _, _, _, _, _, rfl⟩
      · obtain ⟨z1, z2, z3, z4⟩ := HE.out
        refine ⟨_, _, _, by rw [z1, z2, z3, z4], ?_⟩
        exact FV.move (fun k hk => .inl hk) (fun _ _ => rfl) _ _ (tp_fin hok (VB.out _ hB5) _ _ _ _ _)
    · first
      | exact Ym (hbw.out.trans (hB5.mono hbw.out.size)) (Nat.le_refl _) _ _ _ _ _
      | exact (Ym (hbw.out.trans (hB5.mono hbw.out.size)) (Nat.le_refl _) _ _ _ _ _).drew
end Go.Proofs.YtmgepnacjgbfhaaGreatDoor
