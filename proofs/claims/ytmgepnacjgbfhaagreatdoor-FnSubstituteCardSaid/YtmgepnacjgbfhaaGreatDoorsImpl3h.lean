/- The program: the type of an expression by the types of its parts: the other heads. -/
import Derived.Test.YtmgepnacjgbfhaaGreatDoorsImpl3g
import Derived.Test.YtmgepnacjgbfhaaGreatDoorsImpl1l
namespace Go.Proofs.YtmgepnacjgbfhaaGreatDoor
open Go.RowKit Go.Proofs.Tryz
set_option maxRecDepth 8000
set_option maxHeartbeats 20000000
set_option linter.unusedVariables false
set_option linter.unusedSimpArgs false
def SdPostO (ok : Nat → Prop) (r : Option (Tr × Tr)) (e : Ending) (w' : World) : Prop :=
 match r with
 | none => e = .returned (.tuple #[.agg #[.string ⟨#[]⟩, .slice none 0 0, .int .i64 0, .int .i64 0, .int .i64 0], .agg #[.string ⟨#[]⟩, .slice none 0 0, .int .i64 0, .int .i64 0, .int .i64 0], .bool false])
 | some (a, b) => ∃ p1 n1 c1 p2 n2 c2, e = .returned (.tuple #[.agg #[.string (bs (Z0 a)), .slice p1 n1 c1, .int .i64 a.bytes, .int .i64 a.size, .int .i64 a.depth], .agg #[.string (bs (Z0 b)), .slice p2 n2 c2, .int .i64 b.bytes, .int .i64 b.size, .int .i64 b.depth], .bool true]) ∧ FV nI w' ok a (nI a (.slice p1 n1 c1)) ∧ FV nI w' ok b (nI b (.slice p2 n2 c2))
theorem Z0i (ok : Nat → Prop) (c : UInt8) (t : Tr) (p : Option Addr) (n k : Nat) (w : World) (hok : ∀ k, ok k → k < w.heap.size) (hty : X5 t = true) (hwf : t.wf) (hv : FV nI w ok t (nI t (.slice p n k))) :
 Calls prog 63 #[.agg #[.string (bs (Z0 t)), .slice p n k, .int .i64 t.bytes, .int .i64 t.size, .int .i64 t.depth], .string (bs [c])] w fun e w' => SdPostO ok (Zy c t) e w' ∧ Below w.heap.size w w' := by
 match t, hty, hwf, hv with
 | .atom a, _, _, hv =>
   simp only [FV] at hv
   have hh := Ji _ _ _ hv
   simp only [Value.slice.injEq] at hh
   obtain ⟨rfl, rfl, rfl⟩ := hh
   rw [Z3r]
   exact Z0v c _ _ _ _ _ _ rfl w (fun W hW => Z1d _ _ _ _ _ _ _ _)
 | .list ts, hty, hwf, hv =>
   obtain ⟨x, a, b, rfl, hx, hta, htb⟩ := Q3 hty
   have HI : ∀ (W : World), Below w.heap.size w W → Calls prog 102 #[.agg #[.string (bs []), .slice p n k, .int .i64 (Tr.list [x, a, b]).bytes, .int .i64 (Tr.list [x, a, b]).size, .int .i64 (Tr.list [x, a, b]).depth], .string (bs [c])] W fun e w' => e = .returned (.bool (Z1w [c] (.list [x, a, b]))) ∧ Below W.heap.size W w' :=
    fun W hW => Z13 (Tr.list [x, a, b]).depth (Z12 _) [c] _ p n k _ W (by omega) hwf (hv.below hW hok) (fun j hj => Nat.lt_of_lt_of_le (hok j hj) hW.size)
   have hTW := V8 [c] x a b
   rw [hta, htb] at hTW
   by_cases hxh : Z0 x = [c]
   · rw [Q9 hxh]
     rw [hTW, show (Z0 x == [c] && true && true) = true by simp [hxh]] at HI
     obtain ⟨r, off, cap, xs, hh, h2, h3, h4, h5, h6⟩ := FV.list_cells hv
     have hh' := Ji _ _ _ hh
     simp only [Value.slice.injEq] at hh'
     obtain ⟨rfl, rfl, rfl⟩ := hh'
     obtain ⟨-, ⟨p1, n1, q1, v1, r1⟩, ⟨p2, n2, q2, v2, r2⟩⟩ := FVs.three Xz h6 h5
     exact (Z54 c _ _ _ _ _ _ r off _ p1 p2 n1 q1 n2 q2 _ _ _ _ _ _ w (hok r h2) h3 h4 HI (r1 0 _ rfl) (r1 1 _ rfl) (r1 2 _ rfl) (r1 3 _ rfl) (r1 4 _ rfl) (r2 0 _ rfl) (r2 1 _ rfl) (r2 2 _ rfl) (r2 3 _ rfl) (r2 4 _ rfl)).mono fun e w' ⟨k1, k2⟩ => ⟨⟨p1, n1, q1, p2, n2, q2, k1, v1.below k2 hok, v2.below k2 hok⟩, k2⟩
   · rw [Z0w hxh]
     rw [hTW, show (Z0 x == [c] && true && true) = false by simp [hxh]] at HI
     exact Z0v c _ _ _ _ _ _ rfl w HI
theorem tp_fst (ok : Nat → Prop) (ta : Tr) (u v : Value) (w : World) (hok : ∀ k, ok k → k < w.heap.size) (hty : Zn ta = true) (hr : Z0h w ok [ta] v) :
 Calls prog 44 #[.iface 136 u, v] w fun e w' => J0 w ok (Qy .fst ta) e w' ∧ Below w.heap.size w w' := by
 obtain ⟨r, off, cap, ys, rfl, h1, h2, h3, h4, h5⟩ : ∃ r off cap ys, v = .slice (some ⟨r, off, none⟩) 1 cap ∧ 1 ≤ cap ∧ cap ≤ maxLen ∧ r < w.heap.size ∧ Yc w r off ys ∧ FVs nI w ok [ta] ys := by
  rcases hr with ⟨h, _⟩ | h
  · cases h
  · exact h
 have hm := Zx h2
 obtain ⟨cs1, g1, w1⟩ := FVs.get Xz h5 h4 0 (by simp)
 obtain ⟨p1, n1, c1, rfl⟩ := g1.node
 simp only [List.getElem_cons_zero, List.getElem_cons_succ] at g1 w1
 obtain ⟨ua, a1, a2, a3, hu1, hx1, hy1, hz1, hq1⟩ := Zm ta
 rw [hq1] at w1
 have x0 : w.cell? ⟨r, off, none⟩ = some (.string ua) := by simpa using w1 0 _ rfl
 have x1 : w.cell? ⟨r, off + 1, none⟩ = some (.slice p1 n1 c1) := by simpa using w1 1 _ rfl
 have x2 : w.cell? ⟨r, off + 2, none⟩ = some (.int .i64 a1) := by simpa using w1 2 _ rfl
 have x3 : w.cell? ⟨r, off + 3, none⟩ = some (.int .i64 a2) := by simpa using w1 3 _ rfl
 have x4 : w.cell? ⟨r, off + 4, none⟩ = some (.int .i64 a3) := by simpa using w1 4 _ rfl
 have KS : Hid (∀ W, Below w.heap.size w W → W.cell? ⟨r, off, none⟩ = some (.string ua) ∧ W.cell? ⟨r, off + 1, none⟩ = some (.slice p1 n1 c1) ∧ W.cell? ⟨r, off + 2, none⟩ = some (.int .i64 a1) ∧ W.cell? ⟨r, off + 3, none⟩ = some (.int .i64 a2) ∧ W.cell? ⟨r, off + 4, none⟩ = some (.int .i64 a3)) := H_ (fun W hW => ⟨(hW.cell (p := ⟨r, off, none⟩) h3).trans (x0), (hW.cell (p := ⟨r, off + 1, none⟩) h3).trans (x1), (hW.cell (p := ⟨r, off + 2, none⟩) h3).trans (x2), (hW.cell (p := ⟨r, off + 3, none⟩) h3).trans (x3), (hW.cell (p := ⟨r, off + 4, none⟩) h3).trans (x4)⟩)
 have hwf := (Ze hty).1
 cases hs : Zy 42 ta with
 | none =>
   have CS : Hid (∀ W, Below w.heap.size w W → Calls prog 63 #[.agg #[.string ua, .slice p1 n1 c1, .int .i64 a1, .int .i64 a2, .int .i64 a3], .string ⟨#[42]⟩] W fun e w' => e = .returned (.tuple #[.agg #[.string ⟨#[]⟩, .slice none 0 0, .int .i64 0, .int .i64 0, .int .i64 0], .agg #[.string ⟨#[]⟩, .slice none 0 0, .int .i64 0, .int .i64 0, .int .i64 0], .bool false]) ∧ Below W.heap.size W w') := H_ (fun W hW => by
    have h := Z0i ok 42 ta p1 n1 c1 W (fun k hk => Nat.lt_of_lt_of_le (hok k hk) hW.size) (Zw hty).1 hwf (g1.below hW hok)
    rw [hs, ← hu1, ← hx1, ← hy1, ← hz1] at h
    exact h)
   rw [show Qy .fst ta = none by simp [Qy, hs]]
   have kx := KS.out _ (Z4 w (.cells #[.string ⟨#[]⟩, .slice none 0 0, .int .i64 0, .int .i64 0, .int .i64 0] 49))
   obtain ⟨ix0, ix1, ix2, ix3, ix4⟩ := kx
   clear hty hwf hs KS g1 w1 hu1 hx1 hy1 hz1 hq1 x0 x1 x2 x3 x4 h4 h5 hr h1
   go_enter func44, ntmps44
   go_wp2_with (go_at_call 63; go_must (refine (CS.out _ (Z4 w _)).mono ?_; rintro e w1 ⟨rfl, hb1⟩; have y9 := Z5 (o' := (.cells #[.string ⟨#[]⟩, .slice none 0 0, .int .i64 0, .int .i64 0, .int .i64 0] 49)) (Z5 (o' := (.cells #[.string ⟨#[]⟩, .slice none 0 0, .int .i64 0, .int .i64 0, .int .i64 0] 49)) (Z1 hb1 (lt_of_block (heap_alloc_new w (.cells #[.string ⟨#[]⟩, .slice none 0 0, .int .i64 0, .int .i64 0, .int .i64 0] 49))) (heap_alloc_new w (.cells #[.string ⟨#[]⟩, .slice none 0 0, .int .i64 0, .int .i64 0, .int .i64 0] 49)))); have hB9 := H_ ((Yb (Yb (Xp (Z4 w (.cells #[.string ⟨#[]⟩, .slice none 0 0, .int .i64 0, .int .i64 0, .int .i64 0] 49))) hb1) (Zi w1 (.cells #[.string ⟨#[]⟩, .slice none 0 0, .int .i64 0, .int .i64 0, .int .i64 0] 49) (.cells #[.string ⟨#[]⟩, .slice none 0 0, .int .i64 0, .int .i64 0, .int .i64 0] 49))).1); obtain ⟨f0, f1, f2, f3, f4⟩ := Zf y9; obtain ⟨z0, z1, z2, z3, z4⟩ := Zb y9))
   have O := Zg y9 (.string ⟨#[]⟩) (.slice none 0 0) (.int .i64 0) (.int .i64 0) (.int .i64 0)
   obtain ⟨r0, r1, r2, r3, r4⟩ := Zb O
   refine bodyPost_ret (v := .tuple #[.agg #[.string ⟨#[]⟩, .slice none 0 0, .int .i64 0, .int .i64 0, .int .i64 0], .bool false]) (by simp [results, results44, go_sem, r0, r1, r2, r3, r4]) rfl ⟨⟨_, _, _, _, _, _, _, rfl⟩, ?_⟩
   exact Ym hB9.out (Nat.le_refl _) _ _ _ _ _
 | some ab =>
   obtain ⟨a, b⟩ := ab
   obtain ⟨xa, g1', g2', g3', hxa, hg1, hg2, hg3, hqa⟩ := Zm a
   obtain ⟨xb, e1', e2', e3', hxb, he1, he2, he3, hqb⟩ := Zm b
   obtain ⟨g1i, hg1i⟩ : ∃ x : Int, x = g1' := ⟨_, rfl⟩
   have CS : Hid (∀ W, Below w.heap.size w W → Calls prog 63 #[.agg #[.string ua, .slice p1 n1 c1, .int .i64 a1, .int .i64 a2, .int .i64 a3], .string ⟨#[42]⟩] W fun e w' => (∃ q1 m1 k1 q2 m2 k2, e = .returned (.tuple #[.agg #[.string xa, .slice q1 m1 k1, .int .i64 g1', .int .i64 g2', .int .i64 g3'], .agg #[.string xb, .slice q2 m2 k2, .int .i64 e1', .int .i64 e2', .int .i64 e3'], .bool true]) ∧ FV nI w' ok a (nI a (.slice q1 m1 k1)) ∧ FV nI w' ok b (nI b (.slice q2 m2 k2))) ∧ Below W.heap.size W w') := H_ (fun W hW => by
    have h := Z0i ok 42 ta p1 n1 c1 W (fun k hk => Nat.lt_of_lt_of_le (hok k hk) hW.size) (Zw hty).1 hwf (g1.below hW hok)
    rw [hs, ← hu1, ← hx1, ← hy1, ← hz1] at h
    rw [hxa, hg1, hg2, hg3, hxb, he1, he2, he3]
    exact h)
   rw [show Qy .fst ta = some a by simp [Qy, hs]]
   have HE := H_ (And.intro hxa (And.intro hg1 (And.intro hg2 hg3)))
   have kx := KS.out _ (Z4 w (.cells #[.string ⟨#[]⟩, .slice none 0 0, .int .i64 0, .int .i64 0, .int .i64 0] 49))
   obtain ⟨ix0, ix1, ix2, ix3, ix4⟩ := kx
   clear hty hwf hs KS hxa hg1 hg2 hg3 hqa hxb he1 he2 he3 hqb hg1i g1 w1 hu1 hx1 hy1 hz1 hq1 x0 x1 x2 x3 x4 h4 h5 hr h1
   go_enter func44, ntmps44
   go_wp2_with (go_at_call 63; go_must (refine (CS.out _ (Z4 w _)).mono ?_; rintro e w1 ⟨⟨q1, m1, k1, q2, m2, k2, rfl, hfa, hfb⟩, hb1⟩; have y9 := Z5 (o' := (.cells #[.string xb, .slice q2 m2 k2, .int .i64 e1', .int .i64 e2', .int .i64 e3'] 49)) (Z5 (o' := (.cells #[.string xa, .slice q1 m1 k1, .int .i64 g1', .int .i64 g2', .int .i64 g3'] 49)) (Z1 hb1 (lt_of_block (heap_alloc_new w (.cells #[.string ⟨#[]⟩, .slice none 0 0, .int .i64 0, .int .i64 0, .int .i64 0] 49))) (heap_alloc_new w (.cells #[.string ⟨#[]⟩, .slice none 0 0, .int .i64 0, .int .i64 0, .int .i64 0] 49)))); have hB9 := H_ ((Yb (Yb (Xp (Z4 w (.cells #[.string ⟨#[]⟩, .slice none 0 0, .int .i64 0, .int .i64 0, .int .i64 0] 49))) hb1) (Zi w1 (.cells #[.string xa, .slice q1 m1 k1, .int .i64 g1', .int .i64 g2', .int .i64 g3'] 49) (.cells #[.string xb, .slice q2 m2 k2, .int .i64 e1', .int .i64 e2', .int .i64 e3'] 49))).1); obtain ⟨f0, f1, f2, f3, f4⟩ := Zf y9; obtain ⟨z0, z1, z2, z3, z4⟩ := Zb y9))
   have O := Zg y9 (.string xa) (.slice q1 m1 k1) (.int .i64 g1') (.int .i64 g2') (.int .i64 g3')
   obtain ⟨r0, r1, r2, r3, r4⟩ := Zb O
   refine bodyPost_ret (v := .tuple #[.agg #[.string xa, .slice q1 m1 k1, .int .i64 g1', .int .i64 g2', .int .i64 g3'], .bool true]) (by simp [results, results44, go_sem, r0, r1, r2, r3, r4]) rfl ⟨?_, ?_⟩
   · obtain ⟨z1, z2, z3, z4⟩ := HE.out
     refine ⟨_, _, _, by rw [z1, z2, z3, z4], FV.move (fun k hk => .inl hk) (fun k hk => ?_) _ _ hfa⟩
     have hk2 := hok k hk
     have hk3 := hb1.size
     simp only [Yy] at hk3
     refine (Y2 (by omega) _ _ _ _ _).trans ?_
     rw [heap_alloc_old _ _ (by simp; omega), heap_alloc_old _ _ (by omega)]
   · exact Ym hB9.out (Nat.le_refl _) _ _ _ _ _
theorem tp_snd (ok : Nat → Prop) (ta : Tr) (u v : Value) (w : World) (hok : ∀ k, ok k → k < w.heap.size) (hty : Zn ta = true) (hr : Z0h w ok [ta] v) :
 Calls prog 44 #[.iface 137 u, v] w fun e w' => J0 w ok (Qy .snd ta) e w' ∧ Below w.heap.size w w' := by
 obtain ⟨r, off, cap, ys, rfl, h1, h2, h3, h4, h5⟩ : ∃ r off cap ys, v = .slice (some ⟨r, off, none⟩) 1 cap ∧ 1 ≤ cap ∧ cap ≤ maxLen ∧ r < w.heap.size ∧ Yc w r off ys ∧ FVs nI w ok [ta] ys := by
  rcases hr with ⟨h, _⟩ | h
  · cases h
  · exact h
 have hm := Zx h2
 obtain ⟨cs1, g1, w1⟩ := FVs.get Xz h5 h4 0 (by simp)
 obtain ⟨p1, n1, c1, rfl⟩ := g1.node
 simp only [List.getElem_cons_zero, List.getElem_cons_succ] at g1 w1
 obtain ⟨ua, a1, a2, a3, hu1, hx1, hy1, hz1, hq1⟩ := Zm ta
 rw [hq1] at w1
 have x0 : w.cell? ⟨r, off, none⟩ = some (.string ua) := by simpa using w1 0 _ rfl
 have x1 : w.cell? ⟨r, off + 1, none⟩ = some (.slice p1 n1 c1) := by simpa using w1 1 _ rfl
 have x2 : w.cell? ⟨r, off + 2, none⟩ = some (.int .i64 a1) := by simpa using w1 2 _ rfl
 have x3 : w.cell? ⟨r, off + 3, none⟩ = some (.int .i64 a2) := by simpa using w1 3 _ rfl
 have x4 : w.cell? ⟨r, off + 4, none⟩ = some (.int .i64 a3) := by simpa using w1 4 _ rfl
 have KS : Hid (∀ W, Below w.heap.size w W → W.cell? ⟨r, off, none⟩ = some (.string ua) ∧ W.cell? ⟨r, off + 1, none⟩ = some (.slice p1 n1 c1) ∧ W.cell? ⟨r, off + 2, none⟩ = some (.int .i64 a1) ∧ W.cell? ⟨r, off + 3, none⟩ = some (.int .i64 a2) ∧ W.cell? ⟨r, off + 4, none⟩ = some (.int .i64 a3)) := H_ (fun W hW => ⟨(hW.cell (p := ⟨r, off, none⟩) h3).trans (x0), (hW.cell (p := ⟨r, off + 1, none⟩) h3).trans (x1), (hW.cell (p := ⟨r, off + 2, none⟩) h3).trans (x2), (hW.cell (p := ⟨r, off + 3, none⟩) h3).trans (x3), (hW.cell (p := ⟨r, off + 4, none⟩) h3).trans (x4)⟩)
 have hwf := (Ze hty).1
 cases hs : Zy 42 ta with
 | none =>
   have CS : Hid (∀ W, Below w.heap.size w W → Calls prog 63 #[.agg #[.string ua, .slice p1 n1 c1, .int .i64 a1, .int .i64 a2, .int .i64 a3], .string ⟨#[42]⟩] W fun e w' => e = .returned (.tuple #[.agg #[.string ⟨#[]⟩, .slice none 0 0, .int .i64 0, .int .i64 0, .int .i64 0], .agg #[.string ⟨#[]⟩, .slice none 0 0, .int .i64 0, .int .i64 0, .int .i64 0], .bool false]) ∧ Below W.heap.size W w') := H_ (fun W hW => by
    have h := Z0i ok 42 ta p1 n1 c1 W (fun k hk => Nat.lt_of_lt_of_le (hok k hk) hW.size) (Zw hty).1 hwf (g1.below hW hok)
    rw [hs, ← hu1, ← hx1, ← hy1, ← hz1] at h
    exact h)
   rw [show Qy .snd ta = none by simp [Qy, hs]]
   have kx := KS.out _ (Z4 w (.cells #[.string ⟨#[]⟩, .slice none 0 0, .int .i64 0, .int .i64 0, .int .i64 0] 49))
   obtain ⟨ix0, ix1, ix2, ix3, ix4⟩ := kx
   clear hty hwf hs KS g1 w1 hu1 hx1 hy1 hz1 hq1 x0 x1 x2 x3 x4 h4 h5 hr h1
   go_enter func44, ntmps44
   go_wp2_with (go_at_call 63; go_must (refine (CS.out _ (Z4 w _)).mono ?_; rintro e w1 ⟨rfl, hb1⟩; have y9 := Z5 (o' := (.cells #[.string ⟨#[]⟩, .slice none 0 0, .int .i64 0, .int .i64 0, .int .i64 0] 49)) (Z5 (o' := (.cells #[.string ⟨#[]⟩, .slice none 0 0, .int .i64 0, .int .i64 0, .int .i64 0] 49)) (Z1 hb1 (lt_of_block (heap_alloc_new w (.cells #[.string ⟨#[]⟩, .slice none 0 0, .int .i64 0, .int .i64 0, .int .i64 0] 49))) (heap_alloc_new w (.cells #[.string ⟨#[]⟩, .slice none 0 0, .int .i64 0, .int .i64 0, .int .i64 0] 49)))); have hB9 := H_ ((Yb (Yb (Xp (Z4 w (.cells #[.string ⟨#[]⟩, .slice none 0 0, .int .i64 0, .int .i64 0, .int .i64 0] 49))) hb1) (Zi w1 (.cells #[.string ⟨#[]⟩, .slice none 0 0, .int .i64 0, .int .i64 0, .int .i64 0] 49) (.cells #[.string ⟨#[]⟩, .slice none 0 0, .int .i64 0, .int .i64 0, .int .i64 0] 49))).1); obtain ⟨f0, f1, f2, f3, f4⟩ := Zf y9; obtain ⟨z0, z1, z2, z3, z4⟩ := Zb y9))
   have O := Zg y9 (.string ⟨#[]⟩) (.slice none 0 0) (.int .i64 0) (.int .i64 0) (.int .i64 0)
   obtain ⟨r0, r1, r2, r3, r4⟩ := Zb O
   refine bodyPost_ret (v := .tuple #[.agg #[.string ⟨#[]⟩, .slice none 0 0, .int .i64 0, .int .i64 0, .int .i64 0], .bool false]) (by simp [results, results44, go_sem, r0, r1, r2, r3, r4]) rfl ⟨⟨_, _, _, _, _, _, _, rfl⟩, ?_⟩
   exact Ym hB9.out (Nat.le_refl _) _ _ _ _ _
 | some ab =>
   obtain ⟨a, b⟩ := ab
   obtain ⟨xa, g1', g2', g3', hxa, hg1, hg2, hg3, hqa⟩ := Zm a
   obtain ⟨xb, e1', e2', e3', hxb, he1, he2, he3, hqb⟩ := Zm b
   obtain ⟨g1i, hg1i⟩ : ∃ x : Int, x = g1' := ⟨_, rfl⟩
   have CS : Hid (∀ W, Below w.heap.size w W → Calls prog 63 #[.agg #[.string ua, .slice p1 n1 c1, .int .i64 a1, .int .i64 a2, .int .i64 a3], .string ⟨#[42]⟩] W fun e w' => (∃ q1 m1 k1 q2 m2 k2, e = .returned (.tuple #[.agg #[.string xa, .slice q1 m1 k1, .int .i64 g1', .int .i64 g2', .int .i64 g3'], .agg #[.string xb, .slice q2 m2 k2, .int .i64 e1', .int .i64 e2', .int .i64 e3'], .bool true]) ∧ FV nI w' ok a (nI a (.slice q1 m1 k1)) ∧ FV nI w' ok b (nI b (.slice q2 m2 k2))) ∧ Below W.heap.size W w') := H_ (fun W hW => by
    have h := Z0i ok 42 ta p1 n1 c1 W (fun k hk => Nat.lt_of_lt_of_le (hok k hk) hW.size) (Zw hty).1 hwf (g1.below hW hok)
    rw [hs, ← hu1, ← hx1, ← hy1, ← hz1] at h
    rw [hxa, hg1, hg2, hg3, hxb, he1, he2, he3]
    exact h)
   rw [show Qy .snd ta = some b by simp [Qy, hs]]
   have HE := H_ (And.intro hxb (And.intro he1 (And.intro he2 he3)))
   have kx := KS.out _ (Z4 w (.cells #[.string ⟨#[]⟩, .slice none 0 0, .int .i64 0, .int .i64 0, .int .i64 0] 49))
   obtain ⟨ix0, ix1, ix2, ix3, ix4⟩ := kx
   clear hty hwf hs KS hxa hg1 hg2 hg3 hqa hxb he1 he2 he3 hqb hg1i g1 w1 hu1 hx1 hy1 hz1 hq1 x0 x1 x2 x3 x4 h4 h5 hr h1
   go_enter func44, ntmps44
   go_wp2_with (go_at_call 63; go_must (refine (CS.out _ (Z4 w _)).mono ?_; rintro e w1 ⟨⟨q1, m1, k1, q2, m2, k2, rfl, hfa, hfb⟩, hb1⟩; have y9 := Z5 (o' := (.cells #[.string xb, .slice q2 m2 k2, .int .i64 e1', .int .i64 e2', .int .i64 e3'] 49)) (Z5 (o' := (.cells #[.string xa, .slice q1 m1 k1, .int .i64 g1', .int .i64 g2', .int .i64 g3'] 49)) (Z1 hb1 (lt_of_block (heap_alloc_new w (.cells #[.string ⟨#[]⟩, .slice none 0 0, .int .i64 0, .int .i64 0, .int .i64 0] 49))) (heap_alloc_new w (.cells #[.string ⟨#[]⟩, .slice none 0 0, .int .i64 0, .int .i64 0, .int .i64 0] 49)))); have hB9 := H_ ((Yb (Yb (Xp (Z4 w (.cells #[.string ⟨#[]⟩, .slice none 0 0, .int .i64 0, .int .i64 0, .int .i64 0] 49))) hb1) (Zi w1 (.cells #[.string xa, .slice q1 m1 k1, .int .i64 g1', .int .i64 g2', .int .i64 g3'] 49) (.cells #[.string xb, .slice q2 m2 k2, .int .i64 e1', .int .i64 e2', .int .i64 e3'] 49))).1); obtain ⟨f0, f1, f2, f3, f4⟩ := Zf y9; obtain ⟨z0, z1, z2, z3, z4⟩ := Zb y9))
   have O := Zg y9 (.string xb) (.slice q2 m2 k2) (.int .i64 e1') (.int .i64 e2') (.int .i64 e3')
   obtain ⟨r0, r1, r2, r3, r4⟩ := Zb O
   refine bodyPost_ret (v := .tuple #[.agg #[.string xb, .slice q2 m2 k2, .int .i64 e1', .int .i64 e2', .int .i64 e3'], .bool true]) (by simp [results, results44, go_sem, r0, r1, r2, r3, r4]) rfl ⟨?_, ?_⟩
   · obtain ⟨z1, z2, z3, z4⟩ := HE.out
     refine ⟨_, _, _, by rw [z1, z2, z3, z4], FV.move (fun k hk => .inl hk) (fun k hk => ?_) _ _ hfb⟩
     have hk2 := hok k hk
     have hk3 := hb1.size
     simp only [Yy] at hk3
     refine (Y2 (by omega) _ _ _ _ _).trans ?_
     rw [heap_alloc_old _ _ (by simp; omega), heap_alloc_old _ _ (by omega)]
   · exact Ym hB9.out (Nat.le_refl _) _ _ _ _ _
end Go.Proofs.YtmgepnacjgbfhaaGreatDoor
