/- The program reads a type back from its target type: two types behind a head. -/
import Derived.Test.YtaoicbmepliklaaTgg
import Derived.Test.YtaoicbmepliklaaTgp
namespace Go.Proofs.Ytaoicbmepliklaa
open Go.RowKit
set_option maxRecDepth 8000
set_option linter.unusedSimpArgs false
set_option linter.unusedVariables false
/-- What sourceForm hands back. -/
def SfPost (B : Nat) (o : Option Tr) (e : Ending) (w' : World) : Prop :=
  match o with
  | none => ∃ u p n c x y z, e = .returned (.tuple #[.agg #[.string u, .slice p n c, .int .i64 x, .int .i64 y, .int .i64 z], .bool false])
  | some t => ∃ p n c, e = .returned (.tuple #[.agg #[.string (bs (atomOf t)), .slice p n c, .int .i64 t.bytes, .int .i64 t.size, .int .i64 t.depth], .bool true]) ∧ FV nI w' (newK B w') t (nI t (.slice p n c))
/-- The contract of sourceForm at forms of a depth below n. -/
def SFc (n : Nat) : Prop := ∀ (f : Tr) (p : Option Addr) (m c : Nat) (w : World), f.depth < n → f.wf → f.bytes ≤ 12000 → FV nI w (fun k => k < w.heap.size) f (nI f (.slice p m c)) →
    Calls Try.prog 39 #[.agg #[.string (bs (atomOf f)), .slice p m c, .int .i64 f.bytes, .int .i64 f.size, .int .i64 f.depth]] w fun e w' => SfPost w.heap.size (src n f) e w' ∧ Below w.heap.size w w'
/-- The same with names for the values. -/
def SfV (B : Nat) (o : Option Tr) (w' : World) (e : Ending) : Prop :=
  match o with
  | none => ∃ u p n c x y z, e = .returned (.tuple #[.agg #[.string u, .slice p n c, .int .i64 x, .int .i64 y, .int .i64 z], .bool false])
  | some t => ∃ p n c u x y z, e = .returned (.tuple #[.agg #[.string u, .slice p n c, .int .i64 x, .int .i64 y, .int .i64 z], .bool true]) ∧ FV nI w' (newK B w') t [.string u, .slice p n c, .int .i64 x, .int .i64 y, .int .i64 z] ∧ u = bs (atomOf t) ∧ x = t.bytes ∧ y = t.size ∧ z = t.depth
theorem sfV_of {B : Nat} {o : Option Tr} {e : Ending} {w' : World} (h : SfPost B o e w') : SfV B o w' e := by
  cases o with
  | none => exact h
  | some t => obtain ⟨p, n, c, h1, h2⟩ := h; exact ⟨p, n, c, _, _, _, _, h1, h2, rfl, rfl, rfl, rfl⟩
set_option maxHeartbeats 8000000 in
theorem sot_none (n : Nat) (hd : ByteArray) (ua ub : ByteArray) (pa pb : Option Addr) (ma ca mb cb : Nat) (a1 a2 a3 b1 b2 b3 : Int) (w : World)
    (CA : ∀ W, Below w.heap.size w W → Calls Try.prog 39 #[.agg #[.string ua, .slice pa ma ca, .int .i64 a1, .int .i64 a2, .int .i64 a3]] W fun e w' => (∃ u p n c x y z, e = .returned (.tuple #[.agg #[.string u, .slice p n c, .int .i64 x, .int .i64 y, .int .i64 z], .bool false])) ∧ Below W.heap.size W w') :
    Calls Try.prog 71 #[.string hd, .agg #[.string ua, .slice pa ma ca, .int .i64 a1, .int .i64 a2, .int .i64 a3], .agg #[.string ub, .slice pb mb cb, .int .i64 b1, .int .i64 b2, .int .i64 b3]] w fun e w' => SfPost w.heap.size none e w' ∧ Below w.heap.size w w' := by
  have C := Lib.hid CA
  clear CA
  have x3 := (three_blocks w (.cells #[.string ua, .slice pa ma ca, .int .i64 a1, .int .i64 a2, .int .i64 a3] 41) (.cells #[.string ub, .slice pb mb cb, .int .i64 b1, .int .i64 b2, .int .i64 b3] 41) (.cells #[.string ⟨#[]⟩, .slice none 0 0, .int .i64 0, .int .i64 0, .int .i64 0] 41)).2.2
  go_enter Try.func71, Try.ntmps71
  go_wp2_with (go_at_call 39; go_must (refine (C.out _ (below3 w _ _ _)).mono ?_; rintro e w1 ⟨⟨u, p, m, c, x, y, z, rfl⟩, hb1⟩; have y1 := below_blk hb1 (lt_of_block x3) x3; have hB1 := (below3 w _ _ _).trans (hb1.mono (by simp; omega)); have z0 := fun o => cell_of (j := 0) (blk_alloc (o' := o) y1); have z1 := fun o => cell_of (j := 1) (blk_alloc (o' := o) y1); have z2 := fun o => cell_of (j := 2) (blk_alloc (o' := o) y1); have z3 := fun o => cell_of (j := 3) (blk_alloc (o' := o) y1); have z4 := fun o => cell_of (j := 4) (blk_alloc (o' := o) y1); have f0 := fun o => free_of (j := 0) (blk_alloc (o' := o) y1); have f1 := fun o => free_of (j := 1) (blk_alloc (o' := o) y1); have f2 := fun o => free_of (j := 2) (blk_alloc (o' := o) y1); have f3 := fun o => free_of (j := 3) (blk_alloc (o' := o) y1); have f4 := fun o => free_of (j := 4) (blk_alloc (o' := o) y1); have hlt := lt_of_block y1; have g0 := free_of (j := 0) y1; have g1 := free_of (j := 1) y1; have g2 := free_of (j := 2) y1; have g3 := free_of (j := 3) y1; have g4 := free_of (j := 4) y1; have i0 := cell_of (j := 0) y1; have i1 := cell_of (j := 1) y1; have i2 := cell_of (j := 2) y1; have i3 := cell_of (j := 3) y1; have i4 := cell_of (j := 4) y1))
  have O := set5_same y1 (.string ⟨#[]⟩) (.slice none 0 0) (.int .i64 0) (.int .i64 0) (.int .i64 0)
  have r0 := fun a => cell_of (j := 0) (blk_alloc (o' := a) O)
  have r1 := fun a => cell_of (j := 1) (blk_alloc (o' := a) O)
  have r2 := fun a => cell_of (j := 2) (blk_alloc (o' := a) O)
  have r3 := fun a => cell_of (j := 3) (blk_alloc (o' := a) O)
  have r4 := fun a => cell_of (j := 4) (blk_alloc (o' := a) O)
  refine bodyPost_ret (v := .tuple #[.agg #[.string ⟨#[]⟩, .slice none 0 0, .int .i64 0, .int .i64 0, .int .i64 0], .bool false]) (by simp [results, Try.results71, go_sem, r0, r1, r2, r3, r4, hlt]) rfl ⟨⟨_, _, _, _, _, _, _, rfl⟩, ?_⟩
  exact (set5 hB1 (by omega) _ _ _ _ _).alloc (by simpa using hB1.size) _
set_option maxHeartbeats 20000000 in
theorem sot_sn (hd : List UInt8) (hh : okAt hd) (ox : Tr) (hwx : ox.wf) (hbx : ox.bytes ≤ 12000) (ua ub : ByteArray) (pa pb : Option Addr) (ma ca mb cb : Nat) (a1 a2 a3 b1 b2 b3 : Int) (w : World)
    (CA : ∀ W, Below w.heap.size w W → Calls Try.prog 39 #[.agg #[.string ua, .slice pa ma ca, .int .i64 a1, .int .i64 a2, .int .i64 a3]] W fun e w' => SfPost W.heap.size (some ox) e w' ∧ Below W.heap.size W w')
    (CB : ∀ W, Below w.heap.size w W → Calls Try.prog 39 #[.agg #[.string ub, .slice pb mb cb, .int .i64 b1, .int .i64 b2, .int .i64 b3]] W fun e w' => SfPost W.heap.size (none) e w' ∧ Below W.heap.size W w') :
    Calls Try.prog 71 #[.string (bs hd), .agg #[.string ua, .slice pa ma ca, .int .i64 a1, .int .i64 a2, .int .i64 a3], .agg #[.string ub, .slice pb mb cb, .int .i64 b1, .int .i64 b2, .int .i64 b3]] w fun e w' => SfPost w.heap.size (two hd (some ox) (none)) e w' ∧ Below w.heap.size w w' := by
  have CA' : Hid (∀ W, Below w.heap.size w W → Calls Try.prog 39 #[.agg #[.string ua, .slice pa ma ca, .int .i64 a1, .int .i64 a2, .int .i64 a3]] W fun e w' => (∃ p n c u x y z, e = .returned (.tuple #[.agg #[.string u, .slice p n c, .int .i64 x, .int .i64 y, .int .i64 z], .bool true]) ∧ FV nI w' (newK W.heap.size w') ox [.string u, .slice p n c, .int .i64 x, .int .i64 y, .int .i64 z] ∧ u = bs (atomOf ox) ∧ x = ox.bytes ∧ y = ox.size ∧ z = ox.depth) ∧ Below W.heap.size W w') := Lib.hid (fun W hW => (CA W hW).mono fun e w' ⟨h1, h2⟩ => ⟨sfV_of h1, h2⟩)
  have CB' : Hid (∀ W, Below w.heap.size w W → Calls Try.prog 39 #[.agg #[.string ub, .slice pb mb cb, .int .i64 b1, .int .i64 b2, .int .i64 b3]] W fun e w' => (∃ u p n c x y z, e = .returned (.tuple #[.agg #[.string u, .slice p n c, .int .i64 x, .int .i64 y, .int .i64 z], .bool false])) ∧ Below W.heap.size W w') := Lib.hid (fun W hW => (CB W hW).mono fun e w' ⟨h1, h2⟩ => ⟨sfV_of h1, h2⟩)
  have xx3 := (three_blocks w (.cells #[.string ua, .slice pa ma ca, .int .i64 a1, .int .i64 a2, .int .i64 a3] 41) (.cells #[.string ub, .slice pb mb cb, .int .i64 b1, .int .i64 b2, .int .i64 b3] 41) (.cells #[.string ⟨#[]⟩, .slice none 0 0, .int .i64 0, .int .i64 0, .int .i64 0] 41)).2.2
  have xx2 := (three_blocks w (.cells #[.string ua, .slice pa ma ca, .int .i64 a1, .int .i64 a2, .int .i64 a3] 41) (.cells #[.string ub, .slice pb mb cb, .int .i64 b1, .int .i64 b2, .int .i64 b3] 41) (.cells #[.string ⟨#[]⟩, .slice none 0 0, .int .i64 0, .int .i64 0, .int .i64 0] 41)).2.1
  have HW : Hid (∀ (r cap : Nat) (u1 u2 : ByteArray) (p1 p2 : Option Addr) (n1 c1 n2 c2 : Nat) (x1 y1 z1 x2 y2 z2 : Int) (W : World), W.heap[r]? = some (.cells #[.string u1, .slice p1 n1 c1, .int .i64 x1, .int .i64 y1, .int .i64 z1, .string u2, .slice p2 n2 c2, .int .i64 x2, .int .i64 y2, .int .i64 z2] 41 (0, 0)) → Calls Try.prog 63 #[.string (bs hd), .slice (some ⟨r, 0, none⟩) 2 cap] W fun e w' => AnyForm e ∧ Below W.heap.size W w') := Lib.hid (fun r cap u1 u2 p1 p2 n1 c1 n2 c2 x1 y1 z1 x2 y2 z2 W h => newHeaded_weak hd hh r cap u1 u2 p1 p2 n1 c1 n2 c2 x1 y1 z1 x2 y2 z2 W h)
  clear CA CB
  generalize hH : bs hd = H at *
  go_enter Try.func71, Try.ntmps71
  go_wp2_with (first | (go_at_call 39; first | ((with_reducible refine (CA'.out _ (below3 w _ _ _)).mono ?_); rintro e w1 ⟨⟨p1, m1, k1, u1, x1, y1, z1, rfl, hfx, -, -, -, -⟩, hb1⟩; have r1' := below_blk hb1 (lt_of_block xx3) xx3; have s1' := below_blk hb1 (lt_of_block xx2) xx2; have hB1 := (below3 w _ _ _).trans (hb1.mono (by simp; omega)); have hs1 := hb1.size; have sb0 := fun o => cell_of (j := 0) (blk_alloc (o' := o) s1'); have sb1 := fun o => cell_of (j := 1) (blk_alloc (o' := o) s1'); have sb2 := fun o => cell_of (j := 2) (blk_alloc (o' := o) s1'); have sb3 := fun o => cell_of (j := 3) (blk_alloc (o' := o) s1'); have sb4 := fun o => cell_of (j := 4) (blk_alloc (o' := o) s1')) | ((with_reducible refine (CB'.out _ (hB1.alloc hB1.size _)).mono ?_); rintro e w2 ⟨⟨u2, p2, m2, k2, x2, y2, z2, rfl⟩, hb2⟩; have r2' := below_blk hb2 (by have := lt_of_block r1'; simp; omega) (blk_alloc r1'); have t2' := below_blk hb2 (by simp) (heap_alloc_new w1 _); have hB2 := (hB1.alloc hB1.size _).trans (hb2.mono (Nat.le_trans hB1.size (by simp))); have hs2 := hb2.size; have tb0 := fun o => cell_of (j := 0) (blk_alloc (o' := o) t2'); have tb1 := fun o => cell_of (j := 1) (blk_alloc (o' := o) t2'); have tb2 := fun o => cell_of (j := 2) (blk_alloc (o' := o) t2'); have tb3 := fun o => cell_of (j := 3) (blk_alloc (o' := o) t2'); have tb4 := fun o => cell_of (j := 4) (blk_alloc (o' := o) t2'); have hlt1 : w1.heap.size < w2.heap.size := (by simp at hs2; omega))) | (go_at_call 63; go_must (refine (HW.out _ _ _ _ _ _ _ _ _ _ _ _ _ _ _ _ _ (heap_alloc_new2 w2 _ _)).mono ?_; rintro e w3 ⟨⟨u4, p4, m4, k4, x4, y4, z4, rfl⟩, hb3⟩; have hs3 := hb3.size; have r3' := below_blk hb3 (by have := lt_of_block r2'; simp; omega) (blk_alloc (blk_alloc r2')); have hB3 := (Below.alloc (hB2.alloc hB2.size _) (Nat.le_trans hB2.size (by simp)) _).trans (hb3.mono (Nat.le_trans hB2.size (by simp; omega))); have zc0 := cell_of (j := 0) r3'; have zc1 := cell_of (j := 1) r3'; have zc2 := cell_of (j := 2) r3'; have zc3 := cell_of (j := 3) r3'; have zc4 := cell_of (j := 4) r3'; have zf0 := free_of (j := 0) r3'; have zf1 := free_of (j := 1) r3'; have zf2 := free_of (j := 2) r3'; have zf3 := free_of (j := 3) r3'; have zf4 := free_of (j := 4) r3')))
  have O := set5_same r3' (.string u4) (.slice p4 m4 k4) (.int .i64 x4) (.int .i64 y4) (.int .i64 z4)
  have q0 := cell_of (j := 0) O
  have q1 := cell_of (j := 1) O
  have q2 := cell_of (j := 2) O
  have q3 := cell_of (j := 3) O
  have q4 := cell_of (j := 4) O
  have hlt3 := lt_of_block r3'
  refine bodyPost_ret (v := .tuple #[.agg #[.string u4, .slice p4 m4 k4, .int .i64 x4, .int .i64 y4, .int .i64 z4], .bool false]) (by simp [results, Try.results71, go_sem, q0, q1, q2, q3, q4, hlt3]) rfl ⟨⟨_, _, _, _, _, _, _, rfl⟩, ?_⟩
  exact set5 hB3 (by omega) _ _ _ _ _
set_option maxHeartbeats 20000000 in
theorem sot_ss (hd : List UInt8) (hh : okAt hd) (ox : Tr) (oy : Tr) (hwy : oy.wf) (hby : oy.bytes ≤ 12000) (hwx : ox.wf) (hbx : ox.bytes ≤ 12000) (ua ub : ByteArray) (pa pb : Option Addr) (ma ca mb cb : Nat) (a1 a2 a3 b1 b2 b3 : Int) (w : World)
    (CA : ∀ W, Below w.heap.size w W → Calls Try.prog 39 #[.agg #[.string ua, .slice pa ma ca, .int .i64 a1, .int .i64 a2, .int .i64 a3]] W fun e w' => SfPost W.heap.size (some ox) e w' ∧ Below W.heap.size W w')
    (CB : ∀ W, Below w.heap.size w W → Calls Try.prog 39 #[.agg #[.string ub, .slice pb mb cb, .int .i64 b1, .int .i64 b2, .int .i64 b3]] W fun e w' => SfPost W.heap.size (some oy) e w' ∧ Below W.heap.size W w') :
    Calls Try.prog 71 #[.string (bs hd), .agg #[.string ua, .slice pa ma ca, .int .i64 a1, .int .i64 a2, .int .i64 a3], .agg #[.string ub, .slice pb mb cb, .int .i64 b1, .int .i64 b2, .int .i64 b3]] w fun e w' => SfPost w.heap.size (two hd (some ox) (some oy)) e w' ∧ Below w.heap.size w w' := by
  have CA' : Hid (∀ W, Below w.heap.size w W → Calls Try.prog 39 #[.agg #[.string ua, .slice pa ma ca, .int .i64 a1, .int .i64 a2, .int .i64 a3]] W fun e w' => (∃ p n c u x y z, e = .returned (.tuple #[.agg #[.string u, .slice p n c, .int .i64 x, .int .i64 y, .int .i64 z], .bool true]) ∧ FV nI w' (newK W.heap.size w') ox [.string u, .slice p n c, .int .i64 x, .int .i64 y, .int .i64 z] ∧ u = bs (atomOf ox) ∧ x = ox.bytes ∧ y = ox.size ∧ z = ox.depth) ∧ Below W.heap.size W w') := Lib.hid (fun W hW => (CA W hW).mono fun e w' ⟨h1, h2⟩ => ⟨sfV_of h1, h2⟩)
  have CB' : Hid (∀ W, Below w.heap.size w W → Calls Try.prog 39 #[.agg #[.string ub, .slice pb mb cb, .int .i64 b1, .int .i64 b2, .int .i64 b3]] W fun e w' => (∃ p n c u x y z, e = .returned (.tuple #[.agg #[.string u, .slice p n c, .int .i64 x, .int .i64 y, .int .i64 z], .bool true]) ∧ FV nI w' (newK W.heap.size w') oy [.string u, .slice p n c, .int .i64 x, .int .i64 y, .int .i64 z] ∧ u = bs (atomOf oy) ∧ x = oy.bytes ∧ y = oy.size ∧ z = oy.depth) ∧ Below W.heap.size W w') := Lib.hid (fun W hW => (CB W hW).mono fun e w' ⟨h1, h2⟩ => ⟨sfV_of h1, h2⟩)
  have xx3 := (three_blocks w (.cells #[.string ua, .slice pa ma ca, .int .i64 a1, .int .i64 a2, .int .i64 a3] 41) (.cells #[.string ub, .slice pb mb cb, .int .i64 b1, .int .i64 b2, .int .i64 b3] 41) (.cells #[.string ⟨#[]⟩, .slice none 0 0, .int .i64 0, .int .i64 0, .int .i64 0] 41)).2.2
  have xx2 := (three_blocks w (.cells #[.string ua, .slice pa ma ca, .int .i64 a1, .int .i64 a2, .int .i64 a3] 41) (.cells #[.string ub, .slice pb mb cb, .int .i64 b1, .int .i64 b2, .int .i64 b3] 41) (.cells #[.string ⟨#[]⟩, .slice none 0 0, .int .i64 0, .int .i64 0, .int .i64 0] 41)).2.1
  obtain ⟨e1, he1⟩ : ∃ x : Int, x = (tyT hd ox oy).bytes := ⟨_, rfl⟩
  obtain ⟨e2, he2⟩ : ∃ x : Int, x = (tyT hd ox oy).size := ⟨_, rfl⟩
  obtain ⟨e3, he3⟩ : ∃ x : Int, x = (tyT hd ox oy).depth := ⟨_, rfl⟩
  have HE1 := Lib.hid (And.intro he1 (And.intro he2 he3))
  have HW : Hid (∀ (r cap : Nat) (u1 u2 : ByteArray) (p1 p2 : Option Addr) (n1 c1 n2 c2 : Nat) (x1 y1 z1 x2 y2 z2 : Int) (W : World), w.heap.size + 3 ≤ W.heap.size → FV nI W (newK (w.heap.size + 3) W) ox [.string u1, .slice p1 n1 c1, .int .i64 x1, .int .i64 y1, .int .i64 z1] → FV nI W (newK (w.heap.size + 3) W) oy [.string u2, .slice p2 n2 c2, .int .i64 x2, .int .i64 y2, .int .i64 z2] → W.heap[r]? = some (.cells #[.string u1, .slice p1 n1 c1, .int .i64 x1, .int .i64 y1, .int .i64 z1, .string u2, .slice p2 n2 c2, .int .i64 x2, .int .i64 y2, .int .i64 z2] 41 (0, 0)) → Calls Try.prog 63 #[.string (bs hd), .slice (some ⟨r, 0, none⟩) 2 cap] W fun e w' => MadeV (newK (w.heap.size + 3) w') (tyT hd ox oy) e1 e2 e3 e w' ∧ Below W.heap.size W w') :=
    Lib.hid (fun r cap u1 u2 p1 p2 n1 c1 n2 c2 x1 y1 z1 x2 y2 z2 W k0 k1 k2 k3 => (newHeaded_n hd hh 2 [ox, oy] rfl _ (newK (w.heap.size + 3) W) r cap W (two_forms k1 k2) (row_of k3) (fun k hk => hk.2) (lt_of_block k3) ⟨hwx, hwy, trivial⟩ (by simp only [bytess]; omega)).mono fun e w' ⟨h1, h2⟩ => ⟨madeV_of h1 he1 he2 he3 (fun k hk => hk.elim (fun h => ⟨h.1, Nat.lt_of_lt_of_le h.2 h2.size⟩) (fun h => ⟨by omega, h.2⟩)), h2⟩)
  clear he1 he2 he3
  clear CA CB
  generalize hH : bs hd = H at *
  go_enter Try.func71, Try.ntmps71
  go_wp2_with (first | (go_at_call 39; first | ((with_reducible refine (CA'.out _ (below3 w _ _ _)).mono ?_); rintro e w1 ⟨⟨p1, m1, k1, u1, x1, y1, z1, rfl, hfx, -, -, -, -⟩, hb1⟩; have r1' := below_blk hb1 (lt_of_block xx3) xx3; have s1' := below_blk hb1 (lt_of_block xx2) xx2; have hB1 := (below3 w _ _ _).trans (hb1.mono (by simp; omega)); have hs1 := hb1.size; have sb0 := fun o => cell_of (j := 0) (blk_alloc (o' := o) s1'); have sb1 := fun o => cell_of (j := 1) (blk_alloc (o' := o) s1'); have sb2 := fun o => cell_of (j := 2) (blk_alloc (o' := o) s1'); have sb3 := fun o => cell_of (j := 3) (blk_alloc (o' := o) s1'); have sb4 := fun o => cell_of (j := 4) (blk_alloc (o' := o) s1')) | ((with_reducible refine (CB'.out _ (hB1.alloc hB1.size _)).mono ?_); rintro e w2 ⟨⟨p2, m2, k2, u2, x2, y2, z2, rfl, hfy, -, -, -, -⟩, hb2⟩; have r2' := below_blk hb2 (by have := lt_of_block r1'; simp; omega) (blk_alloc r1'); have t2' := below_blk hb2 (by simp) (heap_alloc_new w1 _); have hB2 := (hB1.alloc hB1.size _).trans (hb2.mono (Nat.le_trans hB1.size (by simp))); have hs2 := hb2.size; have tb0 := fun o => cell_of (j := 0) (blk_alloc (o' := o) t2'); have tb1 := fun o => cell_of (j := 1) (blk_alloc (o' := o) t2'); have tb2 := fun o => cell_of (j := 2) (blk_alloc (o' := o) t2'); have tb3 := fun o => cell_of (j := 3) (blk_alloc (o' := o) t2'); have tb4 := fun o => cell_of (j := 4) (blk_alloc (o' := o) t2'); have hlt1 : w1.heap.size < w2.heap.size := (by simp at hs2; omega))) | (go_at_call 63; go_must (refine (HW.out _ _ _ _ _ _ _ _ _ _ _ _ _ _ _ _ _ (by simp at hs1 hs2; simp; omega) (FV.over (FV.over hfx (fun k hk => (hb2.block k (by simp; omega)).trans (heap_alloc_old _ _ hk)) (by simp at hs2; omega) (by simp)) (fun k hk => (heap_alloc_old _ _ (by simp; omega)).trans (heap_alloc_old _ _ hk)) (by simp; omega) (Nat.le_refl _)) (FV.over hfy (fun k hk => (heap_alloc_old _ _ (by simp; omega)).trans (heap_alloc_old _ _ hk)) (by simp; omega) (by simp at hs1; simp; omega)) (heap_alloc_new2 w2 _ _)).mono ?_; rintro e w3 ⟨⟨p4, m4, k4, rfl, hf4⟩, hb3⟩; have hs3 := hb3.size; have r3' := below_blk hb3 (by have := lt_of_block r2'; simp; omega) (blk_alloc (blk_alloc r2')); have hB3 := (Below.alloc (hB2.alloc hB2.size _) (Nat.le_trans hB2.size (by simp)) _).trans (hb3.mono (Nat.le_trans hB2.size (by simp; omega))); have zc0 := cell_of (j := 0) r3'; have zc1 := cell_of (j := 1) r3'; have zc2 := cell_of (j := 2) r3'; have zc3 := cell_of (j := 3) r3'; have zc4 := cell_of (j := 4) r3'; have zf0 := free_of (j := 0) r3'; have zf1 := free_of (j := 1) r3'; have zf2 := free_of (j := 2) r3'; have zf3 := free_of (j := 3) r3'; have zf4 := free_of (j := 4) r3')))
  have O := set5_same r3' (.string ⟨#[]⟩) (.slice p4 m4 k4) (.int .i64 e1) (.int .i64 e2) (.int .i64 e3)
  have q0 := cell_of (j := 0) O
  have q1 := cell_of (j := 1) O
  have q2 := cell_of (j := 2) O
  have q3 := cell_of (j := 3) O
  have q4 := cell_of (j := 4) O
  have hlt3 := lt_of_block r3'
  refine bodyPost_ret (v := .tuple #[.agg #[.string ⟨#[]⟩, .slice p4 m4 k4, .int .i64 e1, .int .i64 e2, .int .i64 e3], .bool true]) (by simp [results, Try.results71, go_sem, q0, q1, q2, q3, q4, hlt3]) rfl ⟨⟨p4, m4, k4, by rw [HE1.out.1, HE1.out.2.1, HE1.out.2.2]; rfl, ?_⟩, ?_⟩
  · exact FV.move (fun k hk => ⟨by have := hk.1; omega, by have := hk.2; simp; omega⟩) (fun k hk => by have : k ≠ w.heap.size + 1 + 1 := (by have := hk.1; omega); rw [set5_other this]) _ _ hf4
  exact set5 hB3 (by omega) _ _ _ _ _
end Go.Proofs.Ytaoicbmepliklaa
