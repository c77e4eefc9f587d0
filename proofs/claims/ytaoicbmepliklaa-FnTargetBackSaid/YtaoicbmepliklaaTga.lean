/- The program makes the target type of a type of pairs, and of every type. -/
import Derived.Test.YtaoicbmepliklaaTg9
namespace Go.Proofs.Ytaoicbmepliklaa
open Go.RowKit
set_option maxRecDepth 8000
set_option linter.unusedSimpArgs false
set_option linter.unusedVariables false
/-- Two target types in a tuple. -/
def tup2 (a b : Tr) : Tr := .list [.atom [116], a, b]
set_option maxHeartbeats 20000000 in
theorem tf_pair (n : Nat) (ih : TFc n) (a b : Tr) (p : Option Addr) (m c : Nat) (w : World) (hd : (tyT [42] a b).depth < n + 1) (hty : isTy (tyT [42] a b) = true) (hwf : (tyT [42] a b).wf) (hsz : (tyT [42] a b).size ≤ 16) (hv : FV nI w (fun q => q < w.heap.size) (tyT [42] a b) (nI (tyT [42] a b) (.slice p m c))) (u : ByteArray) (x1 x2 x3 : Int) (hn : ∀ v, nI (tyT [42] a b) v = [.string u, v, .int .i64 x1, .int .i64 x2, .int .i64 x3]) :
    Calls Try.prog 33 #[.agg #[.string u, .slice p m c, .int .i64 x1, .int .i64 x2, .int .i64 x3]] w fun e w' => MadeF (newK w.heap.size w') (tup2 (tOf a) (tOf b)) e w' ∧ Below w.heap.size w w' := by
  have hty2 := hty
  rw [isTy_tyT (.inr rfl), Bool.and_eq_true] at hty2
  obtain ⟨hta, htb⟩ := hty2
  have hwa : a.wf := hwf.2.2.1
  have hwb : b.wf := hwf.2.2.2.1
  have hss := tyT_size [42] a b
  have hda : a.depth < n := by simp only [tyT, Tr.depth, depths] at hd; omega
  have hdb : b.depth < n := by simp only [tyT, Tr.depth, depths] at hd; omega
  obtain ⟨fwa, fba⟩ := tOf_fits a hta
  obtain ⟨fwb, fbb⟩ := tOf_fits b htb
  obtain ⟨ua, a1, a2, a3, -, -, -, -, hna⟩ := nI_named a
  obtain ⟨ub, b1, b2, b3, -, -, -, -, hnb⟩ := nI_named b
  obtain ⟨v1, hv1⟩ : ∃ u, u = bs (atomOf (tOf a)) := ⟨_, rfl⟩
  obtain ⟨v2, hv2⟩ : ∃ u, u = bs (atomOf (tOf b)) := ⟨_, rfl⟩
  obtain ⟨f1, hf1⟩ : ∃ x : Int, x = (tOf a).bytes := ⟨_, rfl⟩
  obtain ⟨f2, hf2⟩ : ∃ x : Int, x = (tOf a).size := ⟨_, rfl⟩
  obtain ⟨f3, hf3⟩ : ∃ x : Int, x = (tOf a).depth := ⟨_, rfl⟩
  obtain ⟨g1, hg1⟩ : ∃ x : Int, x = (tOf b).bytes := ⟨_, rfl⟩
  obtain ⟨g2, hg2⟩ : ∃ x : Int, x = (tOf b).size := ⟨_, rfl⟩
  obtain ⟨g3, hg3⟩ : ∃ x : Int, x = (tOf b).depth := ⟨_, rfl⟩
  obtain ⟨e1, he1⟩ : ∃ x : Int, x = (tup2 (tOf a) (tOf b)).bytes := ⟨_, rfl⟩
  obtain ⟨e2, he2⟩ : ∃ x : Int, x = (tup2 (tOf a) (tOf b)).size := ⟨_, rfl⟩
  obtain ⟨e3, he3⟩ : ∃ x : Int, x = (tup2 (tOf a) (tOf b)).depth := ⟨_, rfl⟩
  have eqa := hna (.slice none 0 0)
  have eqb := hnb (.slice none 0 0)
  simp only [nI, List.cons.injEq, Value.string.injEq, Value.int.injEq, true_and, and_true] at eqa eqb
  have CS : Hid (∀ W, Below w.heap.size w W → Calls Try.prog 61 #[.agg #[.string u, .slice p m c, .int .i64 x1, .int .i64 x2, .int .i64 x3], .string ⟨#[42]⟩] W fun e w' => (∃ p1 n1 c1 p2 n2 c2, e = .returned (.tuple #[.agg #[.string ua, .slice p1 n1 c1, .int .i64 a1, .int .i64 a2, .int .i64 a3], .agg #[.string ub, .slice p2 n2 c2, .int .i64 b1, .int .i64 b2, .int .i64 b3], .bool true]) ∧ FV nI w' (fun k => k < W.heap.size) a [.string ua, .slice p1 n1 c1, .int .i64 a1, .int .i64 a2, .int .i64 a3] ∧ FV nI w' (fun k => k < W.heap.size) b [.string ub, .slice p2 n2 c2, .int .i64 b1, .int .i64 b2, .int .i64 b3]) ∧ Below W.heap.size W w') :=
    Lib.hid (fun W hW => sides_yes_v W p m c u ua ub x1 x2 x3 a1 a2 a3 b1 b2 b3 hty hwf ((hv.below hW (fun k hk => hk)).wide (fun k hk => Nat.lt_of_lt_of_le hk hW.size)) hn hna hnb)
  have CN : Hid (∀ W, Below w.heap.size w W → Calls Try.prog 61 #[.agg #[.string u, .slice p m c, .int .i64 x1, .int .i64 x2, .int .i64 x3], .string ⟨#[62]⟩] W fun e w' => e = .returned (.tuple #[.agg #[.string ⟨#[]⟩, .slice none 0 0, .int .i64 0, .int .i64 0, .int .i64 0], .agg #[.string ⟨#[]⟩, .slice none 0 0, .int .i64 0, .int .i64 0, .int .i64 0], .bool false]) ∧ Below W.heap.size W w') :=
    Lib.hid (fun W hW => sides_no_v W p m c u x1 x2 x3 hty hwf ((hv.below hW (fun k hk => hk)).wide (fun k hk => Nat.lt_of_lt_of_le hk hW.size)) (by rw [tyT]; exact sidesTr_no (by simp [atomOf])) hn)
  have C1 : Hid (∀ (W : World) (q : Option Addr) (m1 c1 : Nat), FV nI W (fun k => k < W.heap.size) a [.string ua, .slice q m1 c1, .int .i64 a1, .int .i64 a2, .int .i64 a3] → Calls Try.prog 33 #[.agg #[.string ua, .slice q m1 c1, .int .i64 a1, .int .i64 a2, .int .i64 a3]] W fun e w' => MadeU (newK W.heap.size w') (tOf a) v1 f1 f2 f3 e w' ∧ Below W.heap.size W w') :=
    Lib.hid (fun W q m1 c1 k1 => by
      have := ih a q m1 c1 W hda hta hwa (by omega) (by rw [hna]; exact k1)
      rw [eqa.1, eqa.2.1, eqa.2.2.1, eqa.2.2.2] at this
      exact this.mono fun e w' ⟨h1, h2⟩ => ⟨madeU_of h1 hv1 hf1 hf2 hf3 (fun k hk => hk), h2⟩)
  have C2 : Hid (∀ (W : World) (q : Option Addr) (m1 c1 : Nat), FV nI W (fun k => k < W.heap.size) b [.string ub, .slice q m1 c1, .int .i64 b1, .int .i64 b2, .int .i64 b3] → Calls Try.prog 33 #[.agg #[.string ub, .slice q m1 c1, .int .i64 b1, .int .i64 b2, .int .i64 b3]] W fun e w' => MadeU (newK W.heap.size w') (tOf b) v2 g1 g2 g3 e w' ∧ Below W.heap.size W w') :=
    Lib.hid (fun W q m1 c1 k1 => by
      have := ih b q m1 c1 W hdb htb hwb (by omega) (by rw [hnb]; exact k1)
      rw [eqb.1, eqb.2.1, eqb.2.2.1, eqb.2.2.2] at this
      exact this.mono fun e w' ⟨h1, h2⟩ => ⟨madeU_of h1 hv2 hg1 hg2 hg3 (fun k hk => hk), h2⟩)
  have C3 : Hid (∀ (X : World) (g B : Nat) (q r : Option Addr) (m1 c1 m2 c2 : Nat), FV nI X (newK B X) (tOf a) [.string v1, .slice q m1 c1, .int .i64 f1, .int .i64 f2, .int .i64 f3] → FV nI X (newK B X) (tOf b) [.string v2, .slice r m2 c2, .int .i64 g1, .int .i64 g2, .int .i64 g3] → X.heap[g]? = some (.cells #[.string v1, .slice q m1 c1, .int .i64 f1, .int .i64 f2, .int .i64 f3, .string v2, .slice r m2 c2, .int .i64 g1, .int .i64 g2, .int .i64 g3] 41 (0, 0)) → B ≤ X.heap.size → Calls Try.prog 63 #[.string ⟨#[116]⟩, .slice (some ⟨g, 0, none⟩) 2 2] X fun e w' => MadeV (newK B w') (tup2 (tOf a) (tOf b)) e1 e2 e3 e w' ∧ Below X.heap.size X w') :=
    Lib.hid (fun X g B q r m1 c1 m2 c2 k1 k2 k3 k4 => (newHeaded_n [116] (okAt_one (by decide)) 2 [tOf a, tOf b] rfl _ (newK B X) g 2 X (two_forms k1 k2) (row_of k3) (fun k hk => hk.2) (lt_of_block k3) ⟨fwa, fwb, trivial⟩ (by simp only [bytess]; omega)).mono fun e w' ⟨h1, h2⟩ => ⟨madeV_of h1 he1 he2 he3 (fun k hk => hk.elim (fun h => ⟨h.1, Nat.lt_of_lt_of_le h.2 h2.size⟩) (fun h => ⟨by omega, h.2⟩)), h2⟩)
  have HE1 := Lib.hid (And.intro he1 (And.intro he2 he3))
  clear ih hv hn hna hnb eqa eqb hv1 hv2 hf1 hf2 hf3 hg1 hg2 hg3 he1 he2 he3 fwa fba fwb fbb hta htb hwa hwb hda hdb hss hty hwf hsz hd
  go_enter Try.func33, Try.ntmps33
  go_wp2_with (go_at_call 61; first | ((with_reducible refine (CN.out _ (below2 w _ _)).mono ?_); rintro e w0 ⟨rfl, hb0⟩; have hs0 := hb0.size; have y0 := below_blk hb0 (by simp) (heap_alloc_new2 w _ _); have x0 := below_blk hb0 (by simp; omega) (blk_alloc (heap_alloc_new w _)); have xc0 := fun o o2 => cell_of (j := 0) (blk_alloc (o' := o2) (blk_alloc (o' := o) x0)); have xc1 := fun o o2 => cell_of (j := 1) (blk_alloc (o' := o2) (blk_alloc (o' := o) x0)); have xc2 := fun o o2 => cell_of (j := 2) (blk_alloc (o' := o2) (blk_alloc (o' := o) x0)); have xc3 := fun o o2 => cell_of (j := 3) (blk_alloc (o' := o2) (blk_alloc (o' := o) x0)); have xc4 := fun o o2 => cell_of (j := 4) (blk_alloc (o' := o2) (blk_alloc (o' := o) x0)); have hlt0 : w.heap.size < w0.heap.size := (by simp at hs0; omega); have hB0 := (below2 w _ _).trans (hb0.mono (by simp; omega)); have hB0a := (hB0.alloc hB0.size (.cells #[.string ⟨#[]⟩, .slice none 0 0, .int .i64 0, .int .i64 0, .int .i64 0] 41)).alloc (Nat.le_trans hB0.size (by simp)) (.cells #[.string ⟨#[]⟩, .slice none 0 0, .int .i64 0, .int .i64 0, .int .i64 0] 41)) | ((with_reducible refine (CS.out _ hB0a).mono ?_); rintro e w1 ⟨⟨p1, n1, c1, p2, n2, c2, rfl, hfa, hfb⟩, hb1⟩; have hs1 := hb1.size; have y1 := below_blk hb1 (by simp at hs0; simp; omega) (blk_alloc (blk_alloc y0)); have hB1 := hB0a.trans (hb1.mono hB0a.size)))
  have hlim : ((w0.alloc (.cells #[.string ⟨#[]⟩, .slice none 0 0, .int .i64 0, .int .i64 0, .int .i64 0] 41)).alloc (.cells #[.string ⟨#[]⟩, .slice none 0 0, .int .i64 0, .int .i64 0, .int .i64 0] 41)).heap.size ≤ w1.heap.size := hs1
  have ca := blk_alloc (o' := .cells #[.string ub, .slice p2 n2 c2, .int .i64 b1, .int .i64 b2, .int .i64 b3] 41) (heap_alloc_new w1 (.cells #[.string ua, .slice p1 n1 c1, .int .i64 a1, .int .i64 a2, .int .i64 a3] 41))
  have cb := heap_alloc_new2 w1 (.cells #[.string ua, .slice p1 n1 c1, .int .i64 a1, .int .i64 a2, .int .i64 a3] 41) (.cells #[.string ub, .slice p2 n2 c2, .int .i64 b1, .int .i64 b2, .int .i64 b3] 41)
  have cy := blk_alloc (o' := .cells #[.string ub, .slice p2 n2 c2, .int .i64 b1, .int .i64 b2, .int .i64 b3] 41) (blk_alloc (o' := .cells #[.string ua, .slice p1 n1 c1, .int .i64 a1, .int .i64 a2, .int .i64 a3] 41) y1)
  have hsa : ((w1.alloc (.cells #[.string ua, .slice p1 n1 c1, .int .i64 a1, .int .i64 a2, .int .i64 a3] 41)).alloc (.cells #[.string ub, .slice p2 n2 c2, .int .i64 b1, .int .i64 b2, .int .i64 b3] 41)).heap.size = w1.heap.size + 2 := by simp
  have hBa := (hB1.alloc hB1.size (.cells #[.string ua, .slice p1 n1 c1, .int .i64 a1, .int .i64 a2, .int .i64 a3] 41)).alloc (Nat.le_trans hB1.size (by simp)) (.cells #[.string ub, .slice p2 n2 c2, .int .i64 b1, .int .i64 b2, .int .i64 b3] 41)
  have hfa2 := FV.move (w' := ((w1.alloc (.cells #[.string ua, .slice p1 n1 c1, .int .i64 a1, .int .i64 a2, .int .i64 a3] 41)).alloc (.cells #[.string ub, .slice p2 n2 c2, .int .i64 b1, .int .i64 b2, .int .i64 b3] 41))) (ok' := fun k => k < w1.heap.size) (fun k hk => Nat.lt_of_lt_of_le hk hlim) (fun k hk => by have := Nat.lt_of_lt_of_le hk hlim; rw [heap_alloc_old (h := by simp; omega), heap_alloc_old (h := this)]) _ _ hfa
  have hfb2 := FV.move (w' := ((w1.alloc (.cells #[.string ua, .slice p1 n1 c1, .int .i64 a1, .int .i64 a2, .int .i64 a3] 41)).alloc (.cells #[.string ub, .slice p2 n2 c2, .int .i64 b1, .int .i64 b2, .int .i64 b3] 41))) (ok' := fun k => k < w1.heap.size) (fun k hk => Nat.lt_of_lt_of_le hk hlim) (fun k hk => by have := Nat.lt_of_lt_of_le hk hlim; rw [heap_alloc_old (h := by simp; omega), heap_alloc_old (h := this)]) _ _ hfb
  generalize hwx : (w1.alloc (.cells #[.string ua, .slice p1 n1 c1, .int .i64 a1, .int .i64 a2, .int .i64 a3] 41)).alloc (.cells #[.string ub, .slice p2 n2 c2, .int .i64 b1, .int .i64 b2, .int .i64 b3] 41) = wa at *
  have KA : Hid (∀ W, Below wa.heap.size wa W → (W.cell? ⟨w1.heap.size, 0, none⟩ = some (.string ua) ∧ W.cell? ⟨w1.heap.size, 1, none⟩ = some (.slice p1 n1 c1) ∧ W.cell? ⟨w1.heap.size, 2, none⟩ = some (.int .i64 a1) ∧ W.cell? ⟨w1.heap.size, 3, none⟩ = some (.int .i64 a2) ∧ W.cell? ⟨w1.heap.size, 4, none⟩ = some (.int .i64 a3) ∧ W.cell? ⟨w1.heap.size + 1, 0, none⟩ = some (.string ub) ∧ W.cell? ⟨w1.heap.size + 1, 1, none⟩ = some (.slice p2 n2 c2) ∧ W.cell? ⟨w1.heap.size + 1, 2, none⟩ = some (.int .i64 b1) ∧ W.cell? ⟨w1.heap.size + 1, 3, none⟩ = some (.int .i64 b2) ∧ W.cell? ⟨w1.heap.size + 1, 4, none⟩ = some (.int .i64 b3)) ∧ W.heap[w.heap.size + 1]? = some (.cells #[.string ⟨#[]⟩, .slice none 0 0, .int .i64 0, .int .i64 0, .int .i64 0] 41 (0, 0))) := Lib.hid (fun W hW => by
    have h1 := below_blk hW (lt_of_block ca) ca
    have h2 := below_blk hW (lt_of_block cb) cb
    have h3 := below_blk hW (lt_of_block cy) cy
    exact ⟨⟨cell_of (j := 0) h1, cell_of (j := 1) h1, cell_of (j := 2) h1, cell_of (j := 3) h1, cell_of (j := 4) h1, cell_of (j := 0) h2, cell_of (j := 1) h2, cell_of (j := 2) h2, cell_of (j := 3) h2, cell_of (j := 4) h2⟩, h3⟩)
  have KFa : Hid (∀ W, Below wa.heap.size wa W → FV nI W (fun k => k < W.heap.size) a [.string ua, .slice p1 n1 c1, .int .i64 a1, .int .i64 a2, .int .i64 a3]) := Lib.hid (fun W hW => FV.move (fun k hk => by have := hW.size; omega) (fun k hk => hW.block k (by omega)) _ _ hfa2)
  have KFb : Hid (∀ W, Below wa.heap.size wa W → FV nI W (fun k => k < W.heap.size) b [.string ub, .slice p2 n2 c2, .int .i64 b1, .int .i64 b2, .int .i64 b3]) := Lib.hid (fun W hW => FV.move (fun k hk => by have := hW.size; omega) (fun k hk => hW.block k (by omega)) _ _ hfb2)
  have HBA := Lib.hid hBa
  have HSA := Lib.hid hsa
  have HSB := Lib.hid hlim
  have hR0 := Below.refl wa.heap.size wa
  have hR1 := hR0.drew
  obtain ⟨⟨ix0, ix1, ix2, ix3, ix4, iy0, iy1, iy2, iy3, iy4⟩, yw⟩ := KA.out _ hR0
  have hlt1 : w.heap.size + 1 < wa.heap.size := lt_of_block cy
  clear hfa2 hfb2 hfa hfb ca cb cy hsa hBa hwx hlim
  first | (go_region_with (first | (go_at_call 33; ((with_reducible refine (C1.out _ _ _ _ ?_).mono ?_); (· exact KFa.out _ (by assumption)); rintro e w2 ⟨⟨q2, m2, k2, rfl, hf2⟩, hb2⟩; have hBw2 := Below.trans (by assumption : Below wa.heap.size wa _) (hb2.mono (Below.size (by assumption))); have hf2' : FV nI w2 (newK wa.heap.size w2) (tOf a) [.string v1, .slice q2 m2 k2, .int .i64 f1, .int .i64 f2, .int .i64 f3] := hf2; obtain ⟨⟨jx0, jx1, jx2, jx3, jx4, jy0, jy1, jy2, jy3, jy4⟩, yw2⟩ := KA.out _ hBw2; have hR2 := hBw2.drew; have tk2 : True := trivial)) | (go_at_call 33; ((with_reducible refine (C2.out _ _ _ _ ?_).mono ?_); (· exact KFb.out _ (by assumption)); rintro e w3 ⟨⟨q3, m3, k3, rfl, hf3⟩, hb3⟩; have hBw3 := Below.trans (by assumption : Below wa.heap.size wa _) (hb3.mono (Below.size (by assumption))); have hb3' : Below w2.heap.size w2 w3 := ⟨hb3.os, hb3.tape, hb3.output, hb3.size, hb3.block⟩; have hf3' : FV nI w3 (newK w2.heap.size w3) (tOf b) [.string v2, .slice q3 m3 k3, .int .i64 g1, .int .i64 g2, .int .i64 g3] := hf3; obtain ⟨⟨kx0, kx1, kx2, kx3, kx4, ky0, ky1, ky2, ky3, ky4⟩, yw3⟩ := KA.out _ hBw3; have hR3 := hBw3.drew; clear tk2)) | (go_at_call 63; ((with_reducible refine (C3.out _ _ wa.heap.size q2 q3 m2 k2 m3 k3 ?_ ?_ ?_ ?_).mono ?_); (· exact FV.over (FV.over hf2' (fun k hk => hb3'.block k hk) hb3'.size (Nat.le_refl _)) (fun k hk => heap_alloc_old _ _ hk) (by simp) (Nat.le_refl _)); (· exact FV.over hf3' (fun k hk => heap_alloc_old _ _ hk) (by simp) hBw2.size); (· exact heap_alloc_new w3 _); (· have h1 := hBw3.size; have h3 : wa.heap.size ≤ w3.heap.size + 1 := (by omega); simpa using h3); rintro e w4 ⟨⟨q4, m4, k4, rfl, hf4⟩, hb4⟩; have hb4' : Below w3.heap.size w3 w4 := (by first | exact (Below.alloc (Below.refl w3.heap.size w3) (Nat.le_refl _) _).trans (hb4.mono (by simp)) | exact (Below.alloc (Below.refl w3.heap.size w3) (Nat.le_refl _) _).drew.trans (hb4.mono (by simp))); have hBw4 := hBw3.trans (hb4'.mono hBw3.size); obtain ⟨⟨lx0, lx1, lx2, lx3, lx4, ly0, ly1, ly2, ly3, ly4⟩, yw4⟩ := KA.out _ hBw4; have z0 := cell_of (j := 0) yw4; have z1 := cell_of (j := 1) yw4; have z2 := cell_of (j := 2) yw4; have z3 := cell_of (j := 3) yw4; have z4 := cell_of (j := 4) yw4; have r0 := free_of (j := 0) yw4; have r1 := free_of (j := 1) yw4; have r2 := free_of (j := 2) yw4; have r3 := free_of (j := 3) yw4; have r4 := free_of (j := 4) yw4)) | fail)) | fail
  all_goals
    go_wp2_with fail
    have O := set5_same yw4 (.string ⟨#[]⟩) (.slice q4 m4 k4) (.int .i64 e1) (.int .i64 e2) (.int .i64 e3)
    have u0 := cell_of (j := 0) O
    have u1 := cell_of (j := 1) O
    have u2 := cell_of (j := 2) O
    have u3 := cell_of (j := 3) O
    have u4 := cell_of (j := 4) O
    refine bodyPost_ret (v := .agg #[.string ⟨#[]⟩, .slice q4 m4 k4, .int .i64 e1, .int .i64 e2, .int .i64 e3]) (by simp [results, Try.results33, go_sem, u0, u1, u2, u3, u4]) rfl ⟨⟨q4, m4, k4, by rw [HE1.out.1, HE1.out.2.1, HE1.out.2.2]; rfl, ?_⟩, ?_⟩
    · exact FV.move (fun k hk => ⟨by have := hk.1; omega, by have := hk.2; simp; omega⟩) (fun k hk => by have : k ≠ w.heap.size + 1 := (by have := hk.1; omega); rw [set5_other this]) _ _ hf4
    · exact set5 (B := w.heap.size) (HBA.out.trans (hBw4.mono HBA.out.size)) (by omega) _ _ _ _ _
end Go.Proofs.Ytaoicbmepliklaa
