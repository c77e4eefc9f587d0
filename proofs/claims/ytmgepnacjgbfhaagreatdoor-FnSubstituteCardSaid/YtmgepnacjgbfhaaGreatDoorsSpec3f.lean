/- The reference: the type of an expression that binds names: let. The reference: the type of a function. -/
import Derived.Test.YtmgepnacjgbfhaaGreatDoorsSpec3d
import Derived.Deep.RegionHeld3
namespace Go.Proofs.YtmgepnacjgbfhaaGreatDoor
open Go.RowKit Go.Proofs.Tryz
set_option maxRecDepth 8000
set_option maxHeartbeats 20000000
set_option linter.unusedVariables false
set_option linter.unusedSimpArgs false
theorem KAS {wx : World} {S : World → Prop} (K : ∀ W, Below wx.heap.size wx W → S W) {W : World} {o : Obj} (h : Below wx.heap.size wx W) : S (W.alloc o) := K _ (h.alloc h.size o)
theorem str_of {w : World} {b : Nat} {l : List (List UInt8)} {t : TypeId} (h : w.heap[b]? = some (.cells (l.map Ye).toArray t (0, 0))) (hl : l.length ≤ 1000000) : Zo w (.slice (some ⟨b, 0, none⟩) l.length l.length) l := strS_made h _ hl
theorem l3Type_let (n : Nat) (ih : TyS n) (h xn te tb : Tr) (env : List (Nm × Tr)) (v1 v2 : Value) (r off c : Nat) (xs : List Value) (ok : Nat → Prop) (w : World) (hd : (Tr.list [h, xn, te, tb]).depth < n + 1) (hwf : wfs [h, xn, te, tb]) (hby : Zq [h, xn, te, tb] ≤ 12000)
 (henv : Qu env) (hlen : env.length + 2 * (Tr.list [h, xn, te, tb]).depth ≤ 100000) (h1 : Zo w v1 (Z06 env)) (h2s : Zo w v2 (Z05 env))
 (h2 : ok r) (h3 : 4 ≤ c) (h4 : c ≤ maxLen) (h5 : Yc w r off xs) (h6 : FVs nS w ok [h, xn, te, tb] xs) (hok : ∀ k, ok k → k < w.heap.size)
 (hk : Z0 h = Qr) (e' b' : Ex) (he : Yg te = some e') (hb' : Yg tb = some b') (hty : Kf e') :
 Calls prog 23 #[.agg #[.string (bs []), .slice (some ⟨r, off, none⟩) 4 c], v1, v2] w fun e w' => e = .returned (.string (bs (tyS (tyR env (.lete (Z0 xn) e' b'))))) ∧ Below w.heap.size w w' := by
 have hrlt := hok r h2
 have hm := Zx h4
 have hemp := Ju
 have E0 : w.cell? ⟨r, off, none⟩ = some (.string (bs (Z0 h))) := by
  obtain ⟨p, m, c, _, q, _⟩ := Z32 h6 h5 0 (by simp)
  simpa using q
 have hb1 : 1 < [h, xn, te, tb].length := by simp
 obtain ⟨cs1, g1, z1⟩ := FVs.get Qp h6 h5 1 (by simp)
 obtain ⟨p1, n1, q1, rfl⟩ := g1.node
 have d1 := Xa hb1
 have b1 := Xb hb1
 have f1 := Xu hwf hb1
 simp only [List.getElem_cons_zero, List.getElem_cons_succ] at g1 z1 d1 b1 f1
 simp only [Tr.bytes] at b1
 have E1 : w.cell? ⟨r, off + 2, none⟩ = some (.string (bs (Z0 xn))) := z1 0 _ rfl
 have F1 : w.cell? ⟨r, off + 2 + 1, none⟩ = some (.slice p1 n1 q1) := z1 1 _ rfl
 have hb2 : 2 < [h, xn, te, tb].length := by simp
 obtain ⟨cs2, g2, z2⟩ := FVs.get Qp h6 h5 2 (by simp)
 obtain ⟨p2, n2, q2, rfl⟩ := g2.node
 have d2 := Xa hb2
 have b2 := Xb hb2
 have f2 := Xu hwf hb2
 simp only [List.getElem_cons_zero, List.getElem_cons_succ] at g2 z2 d2 b2 f2
 simp only [Tr.bytes] at b2
 have E2 : w.cell? ⟨r, off + 4, none⟩ = some (.string (bs (Z0 te))) := z2 0 _ rfl
 have F2 : w.cell? ⟨r, off + 4 + 1, none⟩ = some (.slice p2 n2 q2) := z2 1 _ rfl
 have hb3 : 3 < [h, xn, te, tb].length := by simp
 obtain ⟨cs3, g3, z3⟩ := FVs.get Qp h6 h5 3 (by simp)
 obtain ⟨p3, n3, q3, rfl⟩ := g3.node
 have d3 := Xa hb3
 have b3 := Xb hb3
 have f3 := Xu hwf hb3
 simp only [List.getElem_cons_zero, List.getElem_cons_succ] at g3 z3 d3 b3 f3
 simp only [Tr.bytes] at b3
 have E3 : w.cell? ⟨r, off + 6, none⟩ = some (.string (bs (Z0 tb))) := z3 0 _ rfl
 have F3 : w.cell? ⟨r, off + 6 + 1, none⟩ = some (.slice p3 n3 q3) := z3 1 _ rfl
 have hsl : Below w.heap.size w (w.alloc (.cells #[.string (bs []), .slice (some ⟨r, off, none⟩) 4 c] 55)) := Z4 _ _
 have X0 := heap_alloc_new w (.cells #[.string (bs []), .slice (some ⟨r, off, none⟩) 4 c] 55)
 have CA : Hid (Calls prog 23 #[.agg #[.string (bs (Z0 te)), .slice p2 n2 q2], v1, v2] (w.alloc (.cells #[.string (bs []), .slice (some ⟨r, off, none⟩) 4 c] 55)) fun e w' => e = .returned (.string (bs (tyS (tyR env e')))) ∧ Below (w.alloc (.cells #[.string (bs []), .slice (some ⟨r, off, none⟩) 4 c] 55)).heap.size (w.alloc (.cells #[.string (bs []), .slice (some ⟨r, off, none⟩) 4 c] 55)) w') := H_ (ih te e' env (nS te (.slice p2 n2 q2)) v1 v2 ok _ (by omega) f2 (by omega) he henv (by omega) (h1.below hsl) (h2s.below hsl) (g2.below hsl hok) (Xw hok hsl))
 have hy2 : ((bs (Z0 h)).toList == [108, 101, 116]) = true := by rw [Z8]; simpa [Qr] using hk
 have hy3 : (bs (Z0 h)).toList = [108, 101, 116] := by rw [Z8]; exact hk
 cases hr : tyR env e' with
 | error g =>
   have HR := H_ (show bs (tyS (tyR env (.lete (Z0 xn) e' b'))) = ⟨#[]⟩ by simp only [tyR, hr]; rfl)
   rw [HR.out]
   rw [hr] at CA
   rw [show bs (tyS (.error g)) = ⟨#[]⟩ from rfl] at CA
   obtain ⟨p1', c1, rfl, -, -⟩ := h1
   obtain ⟨p2', c2, rfl, -, -⟩ := h2s
   generalize bs (Z0 te) = se at *
   generalize bs (Z0 h) = sx at *
   clear HR hk he hb' hty henv hlen ih hwf hby hd h5 h6 hr
   go_enter func23, ntmps23
   go_wp2_with (go_at_call 23; go_must (refine (CA.out).mono ?_; rintro e w5 ⟨rfl, hb5⟩))
   go_ret
   exact ⟨rfl, hsl.trans (hb5.mono hsl.size)⟩
 | ok t =>
   have htL := Q8 e' env t henv hty hr
   have hne := Qb (Ze htL).1
   have HR := H_ (show bs (tyS (tyR env (.lete (Z0 xn) e' b'))) = bs (tyS (tyR ((Z0 xn, t) :: env) b')) by simp only [tyR, hr])
   rw [HR.out]
   rw [hr] at CA
   rw [show bs (tyS (.ok t)) = bs t.text from rfl] at CA
   have hx2 : ((bs t.text).toList == []) = false := by rw [Z8]; simpa using hne
   have hx3 : ¬ (bs t.text).toList = [] := by rw [Z8]; exact hne
   have CW1 : Hid (∀ W v, Below w.heap.size w W → Zo W v [Z0 xn] → Calls prog 33 #[v1, v] W fun e w' => (∃ u, e = .returned u ∧ Zo w' u (Z06 ((Z0 xn, t) :: env))) ∧ Below W.heap.size W w') := H_ (fun W v hW hv => by
    rw [Z0t]
    exact Z41 v1 v _ _ W (h1.below hW) hv (by rw [Z00]; simp; omega))
   have CW2 : Hid (∀ W v, Below w.heap.size w W → Zo W v [t.text] → Calls prog 33 #[v2, v] W fun e w' => (∃ u, e = .returned u ∧ Zo w' u (Z05 ((Z0 xn, t) :: env))) ∧ Below W.heap.size W w') := H_ (fun W v hW hv => by
    rw [Z0s]
    exact Z41 v2 v _ _ W (h2s.below hW) hv (by rw [Z46]; simp; omega))
   have CB : Hid (∀ W a b, Below w.heap.size w W → Zo W a (Z06 ((Z0 xn, t) :: env)) → Zo W b (Z05 ((Z0 xn, t) :: env)) → Calls prog 23 #[.agg #[.string (bs (Z0 tb)), .slice p3 n3 q3], a, b] W fun e w' => e = .returned (.string (bs (tyS (tyR ((Z0 xn, t) :: env) b')))) ∧ Below W.heap.size W w') := H_ (fun W a b hW ha hb =>
    ih tb b' _ (nS tb (.slice p3 n3 q3)) a b ok W (by omega) f3 (by omega) hb' (henv.cons htL) (by simp only [List.length_cons]; omega) ha hb (g3.below hW hok) (Xw hok hW))
   obtain ⟨p1', c1, rfl, -, -⟩ := h1
   obtain ⟨p2', c2, rfl, -, -⟩ := h2s
   generalize hRR : bs (tyS (tyR ((Z0 xn, t) :: env) b')) = RR at *
   obtain ⟨an, han⟩ : ∃ q, q = Z0 xn := ⟨_, rfl⟩
   obtain ⟨tt, htt⟩ : ∃ q, q = t.text := ⟨_, rfl⟩
   rw [← han] at E1 CW1 CW2 CB
   rw [← htt] at CA hx2 hx3 CW2
   generalize Z06 ((an, t) :: env) = NN at *
   generalize Z05 ((an, t) :: env) = TT at *
   generalize bs (Z0 te) = se at *
   generalize bs (Z0 tb) = sb at *
   generalize bs (Z0 h) = sx at *
   clear HR hk he hb' hty henv hlen ih hwf hby hd h5 h6 hr hRR han htt htL hne g1 g2 g3 z1 z2 z3 d1 d2 d3 b1 b2 b3 f1 f2 f3 hb1 hb2 hb3
   have KC : Hid (∀ W, Below w.heap.size w W → W.cell? ⟨r, off + 2, none⟩ = some (.string (bs an)) ∧ W.cell? ⟨r, off + 6, none⟩ = some (.string sb) ∧ W.cell? ⟨r, off + 6 + 1, none⟩ = some (.slice p3 n3 q3)) := H_ (fun W hW => ⟨(hW.cell (p := ⟨r, off + 2, none⟩) hrlt).trans E1, (hW.cell (p := ⟨r, off + 6, none⟩) hrlt).trans E3, (hW.cell (p := ⟨r, off + 6 + 1, none⟩) hrlt).trans F3⟩)
   have HSL := H_ hsl
   go_enter func23, ntmps23
   go_wp2_with (go_at_call 23; go_must (refine (CA.out).mono ?_; rintro e w5 ⟨rfl, hb5⟩; have HB := H_ (HSL.out.trans (hb5.mono HSL.out.size)); have yb := Z1 hb5 (lt_of_block X0) X0; have lb := lt_of_block yb; have k0 := Z2 (j := 1) yb))
   have K : Hid (∀ W, Below w5.heap.size w5 W → (fun W => Below w5.heap.size w5 W ∧ W.cell? ⟨w.heap.size, 1, none⟩ = some (.slice (some ⟨r, off, none⟩) 4 c) ∧ W.cell? ⟨r, off + 2, none⟩ = some (.string (bs an)) ∧ W.cell? ⟨r, off + 6, none⟩ = some (.string sb) ∧ W.cell? ⟨r, off + 6 + 1, none⟩ = some (.slice p3 n3 q3)) W) := H_ (fun W hW => ⟨hW, (hW.cell (p := ⟨w.heap.size, 1, none⟩) lb).trans k0, KC.out _ (HB.out.trans (hW.mono HB.out.size))⟩)
   have S0 := H_ (K.out _ ((Below.refl _ w5).drew))
   clear yb hb5 hsl X0 E0 E1 E2 E3 F1 F2 F3 CA
   first | (go_region_held3 (fun W => Below w5.heap.size w5 W ∧ W.cell? ⟨w.heap.size, 1, none⟩ = some (.slice (some ⟨r, off, none⟩) 4 c) ∧ W.cell? ⟨r, off + 2, none⟩ = some (.string (bs an)) ∧ W.cell? ⟨r, off + 6, none⟩ = some (.string sb) ∧ W.cell? ⟨r, off + 6 + 1, none⟩ = some (.slice p3 n3 q3)) (first | exact S0.out | assumption | exact KAS K.out (And.left (by assumption)) | fail) (first | (go_at_call 33; have hh := And.left (by assumption : Below w5.heap.size w5 _ ∧ _); first | ((with_reducible refine (CW1.out _ _ ?_ ?_).mono ?_); (· exact HB.out.trans (hh.mono HB.out.size)); (· exact str_of (l := [an]) (by first | exact heap_alloc_new _ _ | exact Z9 _ _ _ | exact Z5 (heap_alloc_new _ _) | assumption) (by simp)); rintro e w6 ⟨⟨u6, rfl, hu6⟩, hb6⟩; have hB6 := hh.trans (hb6.mono hh.size); have hS6 := K.out _ hB6; try (have ysa := Z1 hb6 (lt_of_block (Z5 (heap_alloc_new _ _))) (Z5 (heap_alloc_new _ _))); try (have ysb := Z1 hb6 (lt_of_block (Z9 _ _ _)) (Z9 _ _ _)); try (have ysc := Z1 hb6 (lt_of_block (heap_alloc_new _ _)) (heap_alloc_new _ _))) | ((with_reducible refine (CW2.out _ _ ?_ ?_).mono ?_); (· exact HB.out.trans (hh.mono HB.out.size)); (· exact str_of (l := [tt]) (by first | exact heap_alloc_new _ _ | exact Z9 _ _ _ | exact Z5 (heap_alloc_new _ _) | assumption) (by simp)); rintro e w7 ⟨⟨u7, rfl, hu7⟩, hb7⟩; have hB7 := hh.trans (hb7.mono hh.size); have hS7 := K.out _ hB7; have hu8 : Zo w7 u6 _ := (by first | exact hu6.below hb7 | exact (hu6.below (Z4 _ _)).below hb7))) | (go_at_call 23; have hh := And.left (by assumption : Below w5.heap.size w5 _ ∧ _); ((with_reducible refine (CB.out _ _ _ ?_ hu8 hu7).mono ?_); (· exact HB.out.trans (hh.mono HB.out.size)); rintro e w9 ⟨rfl, hb9⟩; have hB9 := hh.trans (hb9.mono hh.size); have hS9 := K.out _ hB9)) | fail)) | fail
   all_goals
    go_wp2_with fail
    go_ret
    exact ⟨rfl, HB.out.trans (hB9.mono HB.out.size)⟩
theorem tyS_fun {env : List (Nm × Tr)} {f x : Nm} {A B T : Tr} {e : Ex} (h : mkT 62 A B = some T) (hB : B.text ≠ []) : tyS (tyR env (.func f x A B e)) = if tyS (tyR ((x, A) :: (f, T) :: env) e) = B.text then T.text else [] := by
 simp only [tyR, h]
 cases hr : tyR ((x, A) :: (f, T) :: env) e with
 | error g => rw [if_neg (fun q => hB q.symm)]; rfl
 | ok t =>
   show tyS (Ka (.func f x A B e) (if t.text = B.text then some T else none)) = if t.text = B.text then T.text else []
   by_cases hq : t.text = B.text
   · rw [if_pos hq, if_pos hq]; rfl
   · rw [if_neg hq, if_neg hq]; rfl
theorem l3Type_fun (n : Nat) (ih : TyS n) (h fn xn tA tB te : Tr) (env : List (Nm × Tr)) (v1 v2 : Value) (r off c : Nat) (xs : List Value) (ok : Nat → Prop) (w : World) (hd : (Tr.list [h, fn, xn, tA, tB, te]).depth < n + 1) (hwf : wfs [h, fn, xn, tA, tB, te]) (hby : Zq [h, fn, xn, tA, tB, te] ≤ 12000)
 (henv : Qu env) (hlen : env.length + 2 * (Tr.list [h, fn, xn, tA, tB, te]).depth ≤ 100000) (h1 : Zo w v1 (Z06 env)) (h2s : Zo w v2 (Z05 env))
 (h2 : ok r) (h3 : 6 ≤ c) (h4 : c ≤ maxLen) (h5 : Yc w r off xs) (h6 : FVs nS w ok [h, fn, xn, tA, tB, te] xs) (hok : ∀ k, ok k → k < w.heap.size)
 (hk : Z0 h = Qh) (e' : Ex) (he : Yg te = some e') (hA : Zn tA = true) (hB : Zn tB = true) :
 Calls prog 23 #[.agg #[.string (bs []), .slice (some ⟨r, off, none⟩) 6 c], v1, v2] w fun e w' => e = .returned (.string (bs (tyS (tyR env (.func (Z0 fn) (Z0 xn) tA tB e'))))) ∧ Below w.heap.size w w' := by
 have hrlt := hok r h2
 have hm := Zx h4
 have hemp := Ju
 have E0 : w.cell? ⟨r, off, none⟩ = some (.string (bs (Z0 h))) := by
  obtain ⟨p, m, c, _, q, _⟩ := Z32 h6 h5 0 (by simp)
  simpa using q
 have hb1 : 1 < [h, fn, xn, tA, tB, te].length := by simp
 obtain ⟨cs1, g1, z1⟩ := FVs.get Qp h6 h5 1 (by simp)
 obtain ⟨p1, n1, q1, rfl⟩ := g1.node
 have d1 := Xa hb1
 have b1 := Xb hb1
 have f1 := Xu hwf hb1
 simp only [List.getElem_cons_zero, List.getElem_cons_succ] at g1 z1 d1 b1 f1
 simp only [Tr.bytes] at b1
 have E1 : w.cell? ⟨r, off + 2, none⟩ = some (.string (bs (Z0 fn))) := z1 0 _ rfl
 have F1 : w.cell? ⟨r, off + 2 + 1, none⟩ = some (.slice p1 n1 q1) := z1 1 _ rfl
 have hb2 : 2 < [h, fn, xn, tA, tB, te].length := by simp
 obtain ⟨cs2, g2, z2⟩ := FVs.get Qp h6 h5 2 (by simp)
 obtain ⟨p2, n2, q2, rfl⟩ := g2.node
 have d2 := Xa hb2
 have b2 := Xb hb2
 have f2 := Xu hwf hb2
 simp only [List.getElem_cons_zero, List.getElem_cons_succ] at g2 z2 d2 b2 f2
 simp only [Tr.bytes] at b2
 have E2 : w.cell? ⟨r, off + 4, none⟩ = some (.string (bs (Z0 xn))) := z2 0 _ rfl
 have F2 : w.cell? ⟨r, off + 4 + 1, none⟩ = some (.slice p2 n2 q2) := z2 1 _ rfl
 have hb3 : 3 < [h, fn, xn, tA, tB, te].length := by simp
 obtain ⟨cs3, g3, z3⟩ := FVs.get Qp h6 h5 3 (by simp)
 obtain ⟨p3, n3, q3, rfl⟩ := g3.node
 have d3 := Xa hb3
 have b3 := Xb hb3
 have f3 := Xu hwf hb3
 simp only [List.getElem_cons_zero, List.getElem_cons_succ] at g3 z3 d3 b3 f3
 simp only [Tr.bytes] at b3
 have E3 : w.cell? ⟨r, off + 6, none⟩ = some (.string (bs (Z0 tA))) := z3 0 _ rfl
 have F3 : w.cell? ⟨r, off + 6 + 1, none⟩ = some (.slice p3 n3 q3) := z3 1 _ rfl
 have hb4 : 4 < [h, fn, xn, tA, tB, te].length := by simp
 obtain ⟨cs4, g4, z4⟩ := FVs.get Qp h6 h5 4 (by simp)
 obtain ⟨p4, n4, q4, rfl⟩ := g4.node
 have d4 := Xa hb4
 have b4 := Xb hb4
 have f4 := Xu hwf hb4
 simp only [List.getElem_cons_zero, List.getElem_cons_succ] at g4 z4 d4 b4 f4
 simp only [Tr.bytes] at b4
 have E4 : w.cell? ⟨r, off + 8, none⟩ = some (.string (bs (Z0 tB))) := z4 0 _ rfl
 have F4 : w.cell? ⟨r, off + 8 + 1, none⟩ = some (.slice p4 n4 q4) := z4 1 _ rfl
 have hb5 : 5 < [h, fn, xn, tA, tB, te].length := by simp
 obtain ⟨cs5, g5, z5⟩ := FVs.get Qp h6 h5 5 (by simp)
 obtain ⟨p5, n5, q5, rfl⟩ := g5.node
 have d5 := Xa hb5
 have b5 := Xb hb5
 have f5 := Xu hwf hb5
 simp only [List.getElem_cons_zero, List.getElem_cons_succ] at g5 z5 d5 b5 f5
 simp only [Tr.bytes] at b5
 have E5 : w.cell? ⟨r, off + 10, none⟩ = some (.string (bs (Z0 te))) := z5 0 _ rfl
 have F5 : w.cell? ⟨r, off + 10 + 1, none⟩ = some (.slice p5 n5 q5) := z5 1 _ rfl
 have hsl : Below w.heap.size w (w.alloc (.cells #[.string (bs []), .slice (some ⟨r, off, none⟩) 6 c] 55)) := Z4 _ _
 have X0 := heap_alloc_new w (.cells #[.string (bs []), .slice (some ⟨r, off, none⟩) 6 c] 55)
 have ka := Ze hA
 have kb := Ze hB
 have hBne := Qb kb.1
 have TA : Hid (∀ W, Below w.heap.size w W → Calls prog 54 #[.agg #[.string (bs (Z0 tA)), .slice p3 n3 q3]] W fun e w' => e = .returned (.string (bs tA.text)) ∧ Below W.heap.size W w') := H_ (fun W hW => Vx (tA.depth + 1) tA (nS tA (.slice p3 n3 q3)) ok W (by omega) ka.1 (by omega) (g3.below hW hok) (Xw hok hW))
 have TB : Hid (∀ W, Below w.heap.size w W → Calls prog 54 #[.agg #[.string (bs (Z0 tB)), .slice p4 n4 q4]] W fun e w' => e = .returned (.string (bs tB.text)) ∧ Below W.heap.size W w') := H_ (fun W hW => Vx (tB.depth + 1) tB (nS tB (.slice p4 n4 q4)) ok W (by omega) kb.1 (by omega) (g4.below hW hok) (Xw hok hW))
 have hy2 : ((bs (Z0 h)).toList == [102, 117, 110]) = true := by rw [Z8]; simpa [Qh] using hk
 have hy3 : (bs (Z0 h)).toList = [102, 117, 110] := by rw [Z8]; exact hk
 have hy4 : ((bs (Z0 h)).toList == [108, 101, 116]) = false := by rw [Z8, hk]; rfl
 have hy5 : ¬ (bs (Z0 h)).toList = [108, 101, 116] := by rw [Z8, hk]; simp [Qh]
 obtain ⟨k1, k2, hkk⟩ := Z1r (Z0m 62 tA.text tB.text)
 have e1 : Z0m 62 tA.text tB.text = mkT 62 tA tB := by rw [Z0y (Jg hA) (Jg hB)]; rfl
 have CM : Hid (∀ W, Calls prog 55 #[.bool true, .string (bs tA.text), .string (bs tB.text)] W fun e w' => e = .returned (.tuple #[.string k1, .bool k2]) ∧ Below W.heap.size W w') := H_ (fun W => by
  have h := Z1h true (bs tA.text) (bs tB.text) (Vl hA) (Vl hB) W
  rw [Q4, Q4] at h
  exact h.mono fun e w' ⟨h1, h2⟩ => ⟨hkk e h1, h2⟩)
 obtain ⟨ta, hta⟩ : ∃ q, q = bs tA.text := ⟨_, rfl⟩
 obtain ⟨tb, htb⟩ : ∃ q, q = bs tB.text := ⟨_, rfl⟩
 have KC0 : Hid (∀ W, Below w.heap.size w W → W.cell? ⟨r, off + 6, none⟩ = some (.string (bs (Z0 tA))) ∧ W.cell? ⟨r, off + 6 + 1, none⟩ = some (.slice p3 n3 q3) ∧ W.cell? ⟨r, off + 8, none⟩ = some (.string (bs (Z0 tB))) ∧ W.cell? ⟨r, off + 8 + 1, none⟩ = some (.slice p4 n4 q4)) := H_ (fun W hW => ⟨(hW.cell (p := ⟨r, off + 6, none⟩) hrlt).trans E3, (hW.cell (p := ⟨r, off + 6 + 1, none⟩) hrlt).trans F3, (hW.cell (p := ⟨r, off + 8, none⟩) hrlt).trans E4, (hW.cell (p := ⟨r, off + 8 + 1, none⟩) hrlt).trans F4⟩)
 cases hT : mkT 62 tA tB with
 | none =>
   have HR := H_ (show bs (tyS (tyR env (.func (Z0 fn) (Z0 xn) tA tB e'))) = ⟨#[]⟩ by simp only [tyR, hT]; rfl)
   rw [HR.out]
   have hk2 : k2 = false := by rw [e1, hT] at hkk; have h := hkk _ rfl; simp at h; exact h.2
   subst hk2
   rw [← hta] at TA CM
   rw [← htb] at TB CM
   obtain ⟨p1', c1, rfl, -, -⟩ := h1
   obtain ⟨p2', c2, rfl, -, -⟩ := h2s
   generalize bs (Z0 h) = sx at *
   generalize bs (Z0 tA) = sA at *
   generalize bs (Z0 tB) = sB at *
   have HSL := H_ hsl
   clear HR hk he hA hB henv hlen ih hwf hby hd h5 h6 hT hta htb e1 hkk ka kb hBne g1 g2 g3 g4 g5 z1 z2 z3 z4 z5 d1 d2 d3 d4 d5 b1 b2 b3 b4 b5 f1 f2 f3 f4 f5 hb1 hb2 hb3 hb4 hb5 E1 E2 E3 E4 E5 F1 F2 F3 F4 F5
   obtain ⟨E3, F3, E4, F4⟩ := KC0.out _ hsl
   go_enter func23, ntmps23
   go_wp2_with (first | (go_at_call 54; first | ((with_reducible refine (TA.out _ HSL.out).mono ?_); rintro e w3 ⟨rfl, hb3⟩; have HB3 := H_ (HSL.out.trans (hb3.mono HSL.out.size)); obtain ⟨E3b, F3b, E4b, F4b⟩ := KC0.out _ HB3.out; have yb := Z1 hb3 (lt_of_block X0) X0; have k0 := Z2 (j := 1) yb) | ((with_reducible refine (TB.out _ HB3.out).mono ?_); rintro e w4 ⟨rfl, hb4⟩; have HB4 := H_ (HB3.out.trans (hb4.mono HB3.out.size)))) | (go_at_call 55; go_must (refine (CM.out _).mono ?_; rintro e w5 ⟨rfl, hb5⟩; have HB5 := H_ (HB4.out.trans (hb5.mono HB4.out.size)))))
   try go_region
   all_goals
    go_wp2_with fail
    go_ret
    exact ⟨rfl, by first | exact HB5.out | exact HB5.out.drew⟩
 | some T =>
   have hTL := mkT_ok (.inl rfl) hA hB hT
   have hk12 : k1 = bs T.text ∧ k2 = true := by rw [e1, hT] at hkk; have h := hkk _ rfl; simp at h; exact ⟨h.1.symm, h.2⟩
   obtain ⟨hk1, rfl⟩ := hk12
   have HRF := tyS_fun (env := env) (f := Z0 fn) (x := Z0 xn) (e := e') hT hBne
   obtain ⟨env2, henv2⟩ : ∃ q, q = (Z0 xn, tA) :: (Z0 fn, T) :: env := ⟨_, rfl⟩
   have hok2 : Qu env2 := by rw [henv2]; exact (henv.cons hTL).cons hA
   have hl2 : env2.length = env.length + 2 := by rw [henv2]; simp
   have CW1 : Hid (∀ W v, Below w.heap.size w W → Zo W v [Z0 fn, Z0 xn] → Calls prog 33 #[v1, v] W fun e w' => (∃ u, e = .returned u ∧ Zo w' u (Z06 env2)) ∧ Below W.heap.size W w') := H_ (fun W v hW hv => by
    rw [henv2, Z0t, Z0t, List.append_assoc]
    exact Z41 v1 v _ _ W (h1.below hW) hv (by rw [Z00]; simp; omega))
   have CW2 : Hid (∀ W v, Below w.heap.size w W → Zo W v [T.text, tA.text] → Calls prog 33 #[v2, v] W fun e w' => (∃ u, e = .returned u ∧ Zo w' u (Z05 env2)) ∧ Below W.heap.size W w') := H_ (fun W v hW hv => by
    rw [henv2, Z0s, Z0s, List.append_assoc]
    exact Z41 v2 v _ _ W (h2s.below hW) hv (by rw [Z46]; simp; omega))
   obtain ⟨rr, hrr⟩ : ∃ q, q = tyS (tyR env2 e') := ⟨_, rfl⟩
   have CB : Hid (∀ W a b, Below w.heap.size w W → Zo W a (Z06 env2) → Zo W b (Z05 env2) → Calls prog 23 #[.agg #[.string (bs (Z0 te)), .slice p5 n5 q5], a, b] W fun e w' => e = .returned (.string (bs rr)) ∧ Below W.heap.size W w') := H_ (fun W a b hW ha hb => by
    rw [hrr]
    exact ih te e' env2 (nS te (.slice p5 n5 q5)) a b ok W (by omega) f5 (by omega) he hok2 (by omega) ha hb (g5.below hW hok) (Xw hok hW))
   rw [← henv2, ← hrr] at HRF
   obtain ⟨af, haf⟩ : ∃ q, q = Z0 fn := ⟨_, rfl⟩
   obtain ⟨an, han⟩ : ∃ q, q = Z0 xn := ⟨_, rfl⟩
   obtain ⟨tT, htT⟩ : ∃ q, q = T.text := ⟨_, rfl⟩
   obtain ⟨ttA, httA⟩ : ∃ q, q = tA.text := ⟨_, rfl⟩
   rw [← httA] at TA CM
   rw [← htb] at TB CM
   rw [← htT] at hk1 HRF
   rw [hk1] at CM
   rw [← haf] at E1
   rw [← han] at E2
   rw [← haf, ← han] at CW1 HRF ⊢
   rw [← htT, ← httA] at CW2
   rw [HRF]
   obtain ⟨p1', c1, rfl, -, -⟩ := h1
   obtain ⟨p2', c2, rfl, -, -⟩ := h2s
   have KC : Hid (∀ W, Below w.heap.size w W → W.cell? ⟨r, off + 2, none⟩ = some (.string (bs af)) ∧ W.cell? ⟨r, off + 4, none⟩ = some (.string (bs an)) ∧ W.cell? ⟨r, off + 10, none⟩ = some (.string (bs (Z0 te))) ∧ W.cell? ⟨r, off + 10 + 1, none⟩ = some (.slice p5 n5 q5)) := H_ (fun W hW => ⟨(hW.cell (p := ⟨r, off + 2, none⟩) hrlt).trans E1, (hW.cell (p := ⟨r, off + 4, none⟩) hrlt).trans E2, (hW.cell (p := ⟨r, off + 10, none⟩) hrlt).trans E5, (hW.cell (p := ⟨r, off + 10 + 1, none⟩) hrlt).trans F5⟩)
   generalize Z06 env2 = NN at *
   generalize Z05 env2 = TT at *
   generalize bs (Z0 h) = sx at *
   generalize bs (Z0 tA) = sA at *
   generalize bs (Z0 tB) = sB at *
   generalize bs (Z0 te) = sb at *
   have HSL := H_ hsl
   obtain ⟨E3, F3, E4, F4⟩ := KC0.out _ hsl
   have hcase : (rr = tB.text) ∨ ¬ (rr = tB.text) := by by_cases q : rr = tB.text; exact .inl q; exact .inr q
   obtain ⟨G, hG⟩ : ∃ q, q = (if rr = tB.text then tT else []) := ⟨_, rfl⟩
   rw [← hG]
   obtain ⟨BR, hBR⟩ : ∃ q, q = bs rr := ⟨_, rfl⟩
   rw [← hBR] at CB
   have hfin : (((BR.toList == tb.toList) = true) ∧ bs G = bs tT) ∨ (((BR.toList == tb.toList) = false) ∧ bs G = ⟨#[]⟩) := by
    rcases hcase with q | q
    · left; refine ⟨by rw [hBR, htb, q]; simp, ?_⟩; rw [hG, if_pos q]
    · right; refine ⟨?_, ?_⟩
      · rw [hBR, htb, Z8, Z8]; simpa using q
      · rw [hG, if_neg q]; rfl
   have HFIN := H_ hfin
   clear hfin hcase hG hBR hta htb hk1 hrr henv2 hok2 hl2 HRF hk he hA hB henv hlen ih hwf hby hd h5 h6 hT httA htT haf han e1 hkk ka kb hBne g1 g2 g3 g4 g5 z1 z2 z3 z4 z5 d1 d2 d3 d4 d5 b1 b2 b3 b4 b5 f1 f2 f3 f4 f5 hb1 hb2 hb3 hb4 hb5
   clear E1 E2 E5 F1 F2 F5
   go_enter func23, ntmps23
   go_wp2_with (first | (go_at_call 54; first | ((with_reducible refine (TA.out _ HSL.out).mono ?_); rintro e w3 ⟨rfl, hb3⟩; have HB3 := H_ (HSL.out.trans (hb3.mono HSL.out.size)); obtain ⟨E3b, F3b, E4b, F4b⟩ := KC0.out _ HB3.out; have yb := Z1 hb3 (lt_of_block X0) X0; have k0 := Z2 (j := 1) yb) | ((with_reducible refine (TB.out _ HB3.out).mono ?_); rintro e w4 ⟨rfl, hb4⟩; have HB4 := H_ (HB3.out.trans (hb4.mono HB3.out.size)); have yc := Z1 hb4 (lt_of_block yb) yb)) | (go_at_call 55; go_must (refine (CM.out _).mono ?_; rintro e w5 ⟨rfl, hb5⟩; have HB := H_ (HB4.out.trans (hb5.mono HB4.out.size)); have yd := Z1 hb5 (lt_of_block yc) yc; have lb := lt_of_block yd; have k5 := Z2 (j := 1) yd)))
   have K : Hid (∀ W, Below w5.heap.size w5 W → (fun W => Below w5.heap.size w5 W ∧ W.cell? ⟨w.heap.size, 1, none⟩ = some (.slice (some ⟨r, off, none⟩) 6 c) ∧ W.cell? ⟨r, off + 2, none⟩ = some (.string (bs af)) ∧ W.cell? ⟨r, off + 4, none⟩ = some (.string (bs an)) ∧ W.cell? ⟨r, off + 10, none⟩ = some (.string sb) ∧ W.cell? ⟨r, off + 10 + 1, none⟩ = some (.slice p5 n5 q5)) W) := H_ (fun W hW => ⟨hW, (hW.cell (p := ⟨w.heap.size, 1, none⟩) lb).trans k5, KC.out _ (HB.out.trans (hW.mono HB.out.size))⟩)
   have S0 := H_ (K.out _ ((Below.refl _ w5).drew))
   clear yb yc yd hb3 hb4 hb5 hsl X0 E0 E3 E4 F3 F4 E3b F3b E4b F4b k0 k5
   first | (go_region_held3 (fun W => Below w5.heap.size w5 W ∧ W.cell? ⟨w.heap.size, 1, none⟩ = some (.slice (some ⟨r, off, none⟩) 6 c) ∧ W.cell? ⟨r, off + 2, none⟩ = some (.string (bs af)) ∧ W.cell? ⟨r, off + 4, none⟩ = some (.string (bs an)) ∧ W.cell? ⟨r, off + 10, none⟩ = some (.string sb) ∧ W.cell? ⟨r, off + 10 + 1, none⟩ = some (.slice p5 n5 q5)) (first | exact S0.out | assumption | exact KAS K.out (And.left (by assumption)) | fail) (first | (go_at_call 33; have hh := And.left (by assumption : Below w5.heap.size w5 _ ∧ _); first | ((with_reducible refine (CW1.out _ _ ?_ ?_).mono ?_); (· exact HB.out.trans (hh.mono HB.out.size)); (· exact str_of (l := [af, an]) (by first | exact heap_alloc_new _ _ | exact Z9 _ _ _ | exact Z5 (heap_alloc_new _ _) | assumption) (by simp)); rintro e w6 ⟨⟨u6, rfl, hu6⟩, hb6⟩; have hB6 := hh.trans (hb6.mono hh.size); have hS6 := K.out _ hB6; try (have ysa := Z1 hb6 (lt_of_block (Z5 (heap_alloc_new _ _))) (Z5 (heap_alloc_new _ _))); try (have ysb := Z1 hb6 (lt_of_block (Z9 _ _ _)) (Z9 _ _ _)); try (have ysc := Z1 hb6 (lt_of_block (heap_alloc_new _ _)) (heap_alloc_new _ _))) | ((with_reducible refine (CW2.out _ _ ?_ ?_).mono ?_); (· exact HB.out.trans (hh.mono HB.out.size)); (· exact str_of (l := [tT, ttA]) (by first | exact heap_alloc_new _ _ | exact Z9 _ _ _ | exact Z5 (heap_alloc_new _ _) | assumption) (by simp)); rintro e w7 ⟨⟨u7, rfl, hu7⟩, hb7⟩; have hB7 := hh.trans (hb7.mono hh.size); have hS7 := K.out _ hB7; have hu8 : Zo w7 u6 _ := (by first | exact hu6.below hb7 | exact (hu6.below (Z4 _ _)).below hb7))) | (go_at_call 23; have hh := And.left (by assumption : Below w5.heap.size w5 _ ∧ _); ((with_reducible refine (CB.out _ _ _ ?_ hu8 hu7).mono ?_); (· exact HB.out.trans (hh.mono HB.out.size)); rintro e w9 ⟨rfl, hb9⟩; have hB9 := hh.trans (hb9.mono hh.size); have hS9 := K.out _ hB9)) | fail)) | fail
   all_goals
    go_wp2_with fail
    all_goals
     go_ret
     rcases HFIN.out with ⟨hq, hq2⟩ | ⟨hq, hq2⟩
     all_goals
      first
       | (have hz : (!BR.toList == tb.toList) = true := (by assumption); rw [hq] at hz; exact absurd hz (by decide))
       | (have hz : (!BR.toList == tb.toList) = false := (by assumption); rw [hq] at hz; exact absurd hz (by decide))
       | (have hz : ¬ (!BR.toList == tb.toList) = true := (by assumption); rw [hq] at hz; exact absurd hz (by decide))
       | exact ⟨by rw [hq2]; rfl, HB.out.trans (hB9.mono HB.out.size)⟩
theorem Z10 : ∀ n, TyS n
 | 0 => fun t _ _ _ _ _ _ _ h => by omega
 | n + 1 => fun t x env cs v1 v2 ok w hd hwf hby hx henv hlen h1 h2s hv hok => by
   match t, hd, hwf, hby, hx, hlen, hv with
   | .atom a, hd, hwf, hby, hx, hlen, hv =>
     simp only [FV] at hv
     subst hv
     simp only [Tr.bytes] at hby
     exact l3Type_atom a x env v1 v2 w hwf.1 (by omega) hx henv (by omega) h1 h2s
   | .list [], hd, hwf, hby, hx, hlen, hv => simp [Tr.wf] at hwf
   | .list (h :: ps), hd, hwf, hby, hx, hlen, hv =>
     have hte := Vr _ _ hx
     simp only [FV] at hv
     obtain ⟨r, off, cap, xs, rfl, h2, h3, h4, h5, h6⟩ := hv
     simp only [Tr.wf] at hwf
     simp only [Tr.bytes] at hby
     simp only [Yg, Qf] at hx
     split at hx
     · rename_i hk
       match ps, hx with
       | [xn, te, tb], hx =>
         simp only [Q1] at hx
         split at hx
         · split at hx
           · cases hx
           · rename_i e' he
             split at hx
             · cases hx
             · rename_i b' hb
               simp only [Option.some.injEq] at hx; subst hx
               exact l3Type_let n (Z10 n) h xn te tb env v1 v2 r off cap xs ok w hd hwf.2 (by omega) henv hlen h1 h2s h2 h3 h4 h5 h6 hok hk e' b' he hb hte.1
         · cases hx
     · rename_i hkl
       split at hx
       · rename_i hk
         match ps, hx with
         | [fn, xn, tA, tB, te], hx =>
           simp only [X3] at hx
           split at hx
           · split at hx
             · cases hx
             · rename_i e' he
               simp only [Option.some.injEq] at hx; subst hx
               exact l3Type_fun n (Z10 n) h fn xn tA tB te env v1 v2 r off cap xs ok w hd hwf.2 (by omega) henv hlen h1 h2s h2 h3 h4 h5 h6 hok hk e' he hte.1 hte.2.1
           · cases hx
       · rename_i hkf
         simp only [Option.bind_eq_some_iff] at hx
         obtain ⟨es, hes, hmk⟩ := hx
         exact l3Type_ord n (Z10 n) h ps es x env v1 v2 r off cap _ xs ok w hd hwf.2 (by omega) hkl hkf hes hmk hte henv hlen h1 h2s h2 h4 rfl h3 h5 h6 hok
end Go.Proofs.YtmgepnacjgbfhaaGreatDoor
