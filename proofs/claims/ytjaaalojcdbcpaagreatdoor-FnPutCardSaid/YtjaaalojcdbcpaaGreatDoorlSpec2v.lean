/- The reference makes expressions plain: a function. -/
import Derived.Test.YtjaaalojcdbcpaaGreatDoorlPureDbM
import Derived.Test.YtjaaalojcdbcpaaGreatDoorlLetEnd
import Derived.Deep.DrawnRows
import Derived.Deep.RegionHeldLaw
import Derived.Deep.RegionHeld3
set_option maxHeartbeats 20000000
set_option linter.unusedVariables false
set_option linter.unusedSimpArgs false
namespace Go.Proofs.YtjaaalojcdbcpaaGreatDoor
open Go.RowKit Go.Proofs.Tryz
set_option maxRecDepth 8000
attribute [local go_sem ↓] Go.wp_at_zero Go.wp_at_succ
theorem far2 {W : World} {g O : Nat} (h : g ≠ O) (i j : Nat) (u v : Value) : ((W.setCell ⟨g, i, none⟩ u).setCell ⟨g, j, none⟩ v).cell? ⟨O, 1, none⟩ = W.cell? ⟨O, 1, none⟩ := by
 rw [World.cell?_setCell_far _ _ _ _ h, World.cell?_setCell_far _ _ _ _ h]
theorem l2Plain_fun (free : List Nm) (n : Nat) (ih : PlS free n) (f z : Nm) (A Bt : Tr) (e : Ex) (m : List (Nm × Nm)) (k : Nat) (v1 v2 vf : Value) (b B : Nat) (r off cap L : Nat) (xs : List Value) (w : World) (hL : L = 6) (hd : (Tr.list [.atom Yt, .atom f, .atom z, A, Bt, Z0 e]).depth < n + 1) (hwf : wfs [.atom Yt, .atom f, .atom z, A, Bt, Z0 e]) (hby : Zi [.atom Yt, .atom f, .atom z, A, Bt, Z0 e] ≤ 12000) (hx : Zy (.list [.atom Yt, .atom f, .atom z, A, Bt, Z0 e]) = some (.func f z A Bt e))
 (h2 : r < B) (h4 : cap ≤ maxLen) (h3 : L ≤ cap) (h5 : Yv w r off xs) (h6 : FVs nS w (fun k => k < B) [.atom Yt, .atom f, .atom z, A, Bt, Z0 e] xs) (hBb : B ≤ b) (hr : RN w b vf k) (hf : LsT w b vf free) (hv1 : LsT w b v1 (J1 m)) (hv2 : LsT w b v2 (V0 m)) (hm : m.length + 2 * (Tr.list [.atom Yt, .atom f, .atom z, A, Bt, Z0 e]).depth ≤ 1000) (hfl : free.length ≤ 1000) (hk2 : (plE free m k (.func f z A Bt e)).2 ≤ 1000) :
 Calls prog 68 #[.agg #[.string (bs []), .slice (some ⟨r, off, none⟩) L cap], v1, v2, .pointer (some ⟨b, 0, none⟩)] w fun e' w' => PlR b B vf (plE free m k (.func f z A Bt e)) w e' w' := by
 obtain ⟨i1, hi1⟩ : ∃ i, i = Zk free k := ⟨_, rfl⟩
 obtain ⟨i2, hi2⟩ : ∃ i, i = Zk free (i1 + 1) := ⟨_, rfl⟩
 obtain ⟨x, hxe⟩ : ∃ x, x = Ex.func f z A Bt e := ⟨_, rfl⟩
 have hkE : Zb x = [e] := by rw [hxe]; rfl
 have hpl1 : (plE free m k x).2 = plI free ((z, Zd i2) :: (f, Zd i1) :: m) (i2 + 1) (Zb x) (Zb x).length := by rw [hxe, hi2, hi1]; rfl
 have hpl2 : Z0 (plE free m k x).1 = .list (Xg (fun j => Z0 (plQ free ((z, Zd i2) :: (f, Zd i1) :: m) (i2 + 1) (Zb x) j)) ((([.atom Yt, .atom f, .atom z, A, Bt, Z0 e]).set 1 (.atom (Zd i1))).set 2 (.atom (Zd i2))) 5 (Zb x).length) := by rw [hxe, hi2, hi1]; rfl
 rw [← hxe] at hx hk2 ⊢
 obtain ⟨a, V⟩ := Z07 hx
 have ha5 : a = 5 := by have := V.len; rw [hkE] at this; simp at this; omega
 rw [← ha5] at hpl2
 have hup := plI_le free ((z, Zd i2) :: (f, Zd i1) :: m) (i2 + 1) (Zb x) (Nat.zero_le (Zb x).length)
 have hi2' : i2 + 1 ≤ 1000 := by rw [hpl1] at hk2; exact Nat.le_trans hup hk2
 have hi1' : i1 + 1 ≤ 1000 := by have h := (Qe free (i1 + 1)).1; rw [← hi2] at h; omega
 have hk0 : k ≤ 1000 := by have h := (Qe free k).1; rw [← hi1] at h; omega
 have hbw : b < w.heap.size := lt_of_block hr
 have hrlt : r < w.heap.size := by omega
 have hemp := Jl
 have e0 : w.cell? ⟨r, off, none⟩ = some (.string (bs Yt)) := by
  obtain ⟨p, m, c, _, q, _⟩ := Kb h6 h5 0 (by simp)
  simpa [Z1] using q
 have e2 : w.cell? ⟨r, off + 2, none⟩ = some (.string (bs f)) := by
  obtain ⟨p, m, c, _, q, _⟩ := Kb h6 h5 1 (by simp)
  simpa [Z1] using q
 have e4 : w.cell? ⟨r, off + 4, none⟩ = some (.string (bs z)) := by
  obtain ⟨p, m, c, _, q, _⟩ := Kb h6 h5 2 (by simp)
  simpa [Z1] using q
 have s1 : ((bs Yt).toList == [108, 101, 116]) = false := by rw [Z9]; rfl
 have s2 : ((bs Yt).toList == [102, 117, 110]) = true := by rw [Z9]; rfl
 obtain ⟨K, hK⟩ : ∃ K, K = (Zb x).length := ⟨_, rfl⟩
 have hLm : L ≤ 9223372036854775807 := by omega
 have haK : a + K = L := by rw [hK, hkE, ha5, hL]; rfl
 have hKlt : K < L := by rw [hK, hkE, hL]; simp
 have hL2 : L ≤ 12000 := by omega
 have hl2 : (2 : Int) < (L : Int) := by omega
 have hl1 : (1 : Int) < (L : Int) := by omega
 have hl0 : (0 : Int) < (L : Int) := by omega
 have hL6 : 2 < L := by omega
 have hxl : xs.length = L * 2 := by rw [FVs.length Jn h6, hL]; rfl
 have CK : Hid (∀ W, Calls prog 98 #[.string (bs Yt)] W fun e w' => e = .returned (.tuple #[.int .i64 (a : Int), .int .i64 (L : Int)]) ∧ w' = W) := H_ (fun W => Jw _ _ _ (by rw [ha5, hL]; rfl) W)
 obtain ⟨i0, hi0, hz0, hz1, hz2⟩ := info_parts Tryz.infoT1
 obtain ⟨j0, hj0, hy0, hy1, hy2⟩ := info_parts Tryz.infoStr
 have H1 : Hid (∀ u ∈ xs, u.oneCell' = true) := H_ (FVs.one h6)
 have HP1 := H_ hpl1
 have HP2 := H_ hpl2
 have HV := H_ V
 have HI := H_ ih
 have HKe := H_ hK
 have HaK := H_ haK
 have haL : a ≤ L := by omega
 have hL0 : 0 < L := by omega
 have hK1 : Hid (∀ j : Nat, j < K → j = 0) := H_ (fun j hj => by rw [hK, hkE] at hj; simp at hj; exact hj)
 have ROW : Hid (∀ W, Below w.heap.size w W → ∀ j u, xs[j]? = some u → W.cell? ((⟨r, off, none⟩ : Addr).add j) = some u) := H_ (fun W hW j u hj => by
  have e : (⟨r, off, none⟩ : Addr).add j = ⟨r, off + j, none⟩ := by unfold Addr.add; split <;> simp_all
  rw [e]
  exact (hW.cell (p := ⟨r, off + j, none⟩) hrlt).trans (h5 j u hj))
 have HH5 := H_ h5
 have HW := H_ hwf
 have HD := H_ hd
 have HBy := H_ hby
 have H6 := H_ h6
 have HLe : Hid (L = ([.atom Yt, .atom f, .atom z, A, Bt, Z0 e]).length) := H_ hL
 have HRN := H_ hr
 have HF := H_ hf
 have HV1 := H_ hv1
 have HV2 := H_ hv2
 have HM := H_ hm
 have HK2 := H_ hk2
 have HE := H_ (And.intro e2 e4)
 obtain ⟨X, hX⟩ : ∃ X, X = bs (Zd i1) := ⟨_, rfl⟩
 obtain ⟨Y, hY⟩ : ∃ Y, Y = bs (Zd i2) := ⟨_, rfl⟩
 have HX := H_ hX
 have HY := H_ hY
 have CF1 : Hid (∀ W, Only b w W → RN W b vf k → Calls prog 112 #[.pointer (some ⟨b, 0, none⟩)] W fun e w' => e = .returned (.string X) ∧ RN w' b vf (i1 + 1) ∧ Only b W w') := H_ (fun W hW hk => by
  have h := Z5f b vf free k W hk (hf.only hW).1 (hf.only hW).2 hfl hk0
  rw [← hi1, ← hX] at h
  exact h)
 have CF2 : Hid (∀ W, Only b w W → RN W b vf (i1 + 1) → Calls prog 112 #[.pointer (some ⟨b, 0, none⟩)] W fun e w' => e = .returned (.string Y) ∧ RN w' b vf (i2 + 1) ∧ Only b W w') := H_ (fun W hW hk => by
  have h := Z5f b vf free (i1 + 1) W hk (hf.only hW).1 (hf.only hW).2 hfl hi1'
  rw [← hi2, ← hY] at h
  exact h)
 obtain ⟨p1, c1', ee1, -, -⟩ := id hv1.1
 obtain ⟨p2, c2', ee2, -, -⟩ := id hv2.1
 obtain ⟨l1, hl1'⟩ : ∃ l1, l1 = (J1 m).length := ⟨_, rfl⟩
 obtain ⟨l2, hl2'⟩ : ∃ l2, l2 = (V0 m).length := ⟨_, rfl⟩
 rw [← hl1'] at ee1
 rw [← hl2'] at ee2
 subst ee1 ee2
 have tok1 : True := trivial
 clear V hK ih hwf hx haK hL h6 hd hby hpl1 hpl2 hr hf hv1 hv2 hm hk2 hl1' hl2' hX hY hi1 hi2 hxe hkE ha5 hup hi2' hi1' hk0 e2 e4
 go_enter func68, ntmps68
 go_wp2_with (first | (go_at_call 98; go_must (refine (CK.out _).mono ?_; rintro e w5 ⟨rfl, rfl⟩)) | (at_builtin; go_must (refine Jb _ rfl _ _ 45 rfl (w.heap.size + 2) 47 i0 (.agg #[.string ⟨#[]⟩, .slice none 0 0]) 2 40 underlying45 hi0 hz0 hz1 hz2 rfl (by decide) (.slice (some ⟨w.heap.size + 2, 0, none⟩) 0 0) 0 L L (by omega) hL0 [] rfl (Z0u (Z39 _ _ _ _) (Nat.le_refl _)) ⟨r, off, none⟩ cap xs rfl hxl (ROW.out _ (by (repeat (first | exact Below.refl _ _ | (refine Below.alloc ?_ (by first | (simp; done) | (simp; omega)) _) | (refine Below.setCell ?_ (by first | (simp; done) | (simp; omega)) _))))) H1.out (Nat.le_trans hL2 (by decide)) (by omega) (by simp) ?_; intro g c1 w1 ho1 hg1 hgg; have x0 : w1.heap[w.heap.size]? = some (.cells #[.string (bs []), .slice (some ⟨r, off, none⟩) L cap] 47 (0, 0)) := Yc hg1 (Z8 (Z8 (heap_alloc_new _ _))) (by simp [Value.ownBlock]); have x2 : w1.heap[w.heap.size + 1]? = some (.cells #[.string ⟨#[]⟩, .slice none 0 0] 47 (0, 0)) := Yc hg1 (Z8 (Za _ _ _)) (by simp [Value.ownBlock]); have B1 : Below w.heap.size w w1 := Below.grown (by (repeat (first | exact Below.refl _ _ | (refine Below.alloc ?_ (by first | (simp; done) | (simp; omega)) _) | (refine Below.setCell ?_ (by first | (simp; done) | (simp; omega)) _)))) hg1 (by simp; omega) (fun k hk => by simp [Value.ownBlock] at hk; omega); have x3 := heap_alloc_new w1 (.cells #[.string ⟨#[]⟩, .slice (some ⟨g, 0, none⟩) L c1] 47); have B2 := B1.alloc B1.size (.cells #[.string ⟨#[]⟩, .slice (some ⟨g, 0, none⟩) L c1] 47); have y0 := Z4 (j := 1) (Z8 (o' := (.cells #[.string ⟨#[]⟩, .slice (some ⟨g, 0, none⟩) L c1] 47)) x0); have y1 : (w1.alloc (.cells #[.string ⟨#[]⟩, .slice (some ⟨g, 0, none⟩) L c1] 47)).cell? ⟨r, off, none⟩ = some (.string (bs Yt)) := (B2.cell (p := ⟨r, off, none⟩) hrlt).trans e0; have hw1 : w.heap.size + 1 < w1.heap.size := lt_of_block x2)) | (go_at_call 112; clear tok1; go_must (refine (CF1.out _ (Only.of B2) (HRN.out.below B2)).mono ?_; rintro e w6 ⟨rfl, hn6, ho6⟩)) | (go_at_call 112; go_must (refine (CF2.out _ ((Only.of B2).trans ho6) hn6).mono ?_; rintro e w7 ⟨rfl, hn7, ho7⟩)))
 have hgO : g ≠ w1.heap.size := Nat.ne_of_lt (ho1.lt g rfl).2
 have O7 : OutS b B vf w r off cap L g c1 w1.heap.size (i2 + 1) ([.atom Yt, .atom f, .atom z, A, Bt, Z0 e]) w7 := (OutS.go (k := k) (W := w1.alloc (.cells #[.string ⟨#[]⟩, .slice (some ⟨g, 0, none⟩) L c1] 47)) ⟨Z8 x0, Z8 x2, x3, HRN.out.below B2, ⟨xs, ho1.alloc _, FVs.move (fun k hk => .inl hk) (fun _ _ => rfl) _ _ (FVs.below H6.out B2 (fun k hk => by omega))⟩, Only.of B2, (ho1.lt g rfl).2, hw1, hBb, hbw, HLe.out.symm⟩ ho6 hn6).go ho7 hn7
 obtain ⟨d0, d1, hK⟩ := O7.keepS (j := 1) (by omega)
 have K9 : Hid (∀ W, Only b w7 W → W.cell? ⟨w1.heap.size, 1, none⟩ = some (.slice (some ⟨g, 0, none⟩) L c1) ∧ W.cell? ⟨g, 2, none⟩ = some d0 ∧ W.cell? ⟨g, 3, none⟩ = some d1 ∧ W.frozen? ⟨g, 2, none⟩ = false ∧ W.frozen? ⟨g, 3, none⟩ = false) := H_ (fun W hW => by obtain ⟨q1, q2, q3, q4, q5, q6⟩ := hK W hW; exact ⟨q1, q3, q4, q5, q6⟩)
 have HO7 := H_ O7
 clear hK O7
 have hD : Only b w7 w7.drew := (Only.refl b w7).drew
 obtain ⟨t1, t2, t3, t4, t5⟩ := K9.out _ hD
 go_wp2_with fail
 first | (go_region_held3 (fun W => W.cell? ⟨w1.heap.size, 1, none⟩ = some (.slice (some ⟨g, 0, none⟩) L c1)) (first | exact t1 | assumption | exact (far2 hgO _ _ _ _).trans (by assumption) | fail) (first | (go_at_call 110; (with_reducible refine (Z4u _ _).mono ?_); rintro e wx ⟨rfl, hbx⟩; have hox := hD.next hbx; obtain ⟨m1, m2, m3, m4, m5⟩ := K9.out _ hox))) | fail
 all_goals
  obtain ⟨w16, hw9⟩ : ∃ W, W = (wx.setCell ⟨g, 2, none⟩ (.string X)).setCell ⟨g, 3, none⟩ (.slice none 0 0) := ⟨_, rfl⟩
  have O16 := HO7.out.set (j := 1) (t := .atom (Zd i1)) (p := none) (m := 0) (c := 0) hox (k' := i2 + 1) ((show RN w7.drew b vf (i2 + 1) from HO7.out.rn).below hbx) (by omega) (by simp only [FV])
  have O16 : OutS b B vf w r off cap L g c1 w1.heap.size (i2 + 1) ((([.atom Yt, .atom f, .atom z, A, Bt, Z0 e]).set 1 (.atom (Zd i1)))) w16 := (by rw [hw9, HX.out]; exact O16)
  rw [← hw9]
  clear hw9 K9 t1 t2 t3 t4 t5 m1 m2 m3 m4 m5 hox hbx
  obtain ⟨d0, d1, hK⟩ := O16.keepS (j := 2) (by omega)
  have K9 : Hid (∀ W, Only b w16 W → W.cell? ⟨w1.heap.size, 1, none⟩ = some (.slice (some ⟨g, 0, none⟩) L c1) ∧ W.cell? ⟨g, 4, none⟩ = some d0 ∧ W.cell? ⟨g, 5, none⟩ = some d1 ∧ W.frozen? ⟨g, 4, none⟩ = false ∧ W.frozen? ⟨g, 5, none⟩ = false) := H_ (fun W hW => by obtain ⟨q1, q2, q3, q4, q5, q6⟩ := hK W hW; exact ⟨q1, q3, q4, q5, q6⟩)
  have HO16 := H_ O16
  clear hK O16
  have hD : Only b w16 w16.drew := (Only.refl b w16).drew
  obtain ⟨t1, t2, t3, t4, t5⟩ := K9.out _ hD
  go_wp2_with fail
  first | (go_region_held3 (fun W => W.cell? ⟨w1.heap.size, 1, none⟩ = some (.slice (some ⟨g, 0, none⟩) L c1)) (first | exact t1 | assumption | exact (far2 hgO _ _ _ _).trans (by assumption) | fail) (first | (go_at_call 110; (with_reducible refine (Z4u _ _).mono ?_); rintro e wx ⟨rfl, hbx⟩; have hox := hD.next hbx; obtain ⟨m1, m2, m3, m4, m5⟩ := K9.out _ hox))) | fail
  all_goals
   obtain ⟨w17, hw9⟩ : ∃ W, W = (wx.setCell ⟨g, 4, none⟩ (.string Y)).setCell ⟨g, 5, none⟩ (.slice none 0 0) := ⟨_, rfl⟩
   have O17 := HO16.out.set (j := 2) (t := .atom (Zd i2)) (p := none) (m := 0) (c := 0) hox (k' := i2 + 1) ((show RN w16.drew b vf (i2 + 1) from HO16.out.rn).below hbx) (by omega) (by simp only [FV])
   have O17 : OutS b B vf w r off cap L g c1 w1.heap.size (i2 + 1) (((([.atom Yt, .atom f, .atom z, A, Bt, Z0 e]).set 1 (.atom (Zd i1))).set 2 (.atom (Zd i2)))) w17 := (by rw [hw9, HY.out]; exact O17)
   rw [← hw9]
   clear hw9 K9 t1 t2 t3 t4 t5 m1 m2 m3 m4 m5 hox hbx
   have hon17 := O17.on
   have hb17 : b < w17.heap.size := Nat.lt_of_lt_of_le hbw hon17.size
   have hs17 := hon17.size
   have hgb17 := O17.gl
   have KS : Hid (∀ W, Below w17.heap.size w17 W → (fun W => W.cell? ⟨w.heap.size, 1, none⟩ = some (.slice (some ⟨r, off, none⟩) L cap) ∧ W.cell? ⟨r, off + 2, none⟩ = some (.string (bs f)) ∧ W.cell? ⟨r, off + 4, none⟩ = some (.string (bs z))) W) := H_ (fun W hW => by
    have hw := hon17.trans (Only.of hW)
    exact ⟨Z4 ((Only.of (b := b) hW).blk O17.b0 (by omega)), (hw.cell (p := ⟨r, off + 2, none⟩) hrlt (by show r ≠ b; omega)).trans HE.out.1, (hw.cell (p := ⟨r, off + 4, none⟩) hrlt (by show r ≠ b; omega)).trans HE.out.2⟩)
   have HST1 : Hid (∀ W, Below w17.heap.size w17 W → Zw W (.slice p1 l1 c1') (J1 m)) := H_ (fun W hW => (HV1.out.only (hon17.trans (Only.of hW))).1)
   have HST2 : Hid (∀ W, Below w17.heap.size w17 W → Zw W (.slice p2 l2 c2') (V0 m)) := H_ (fun W hW => (HV2.out.only (hon17.trans (Only.of hW))).1)
   have hml : (J1 m).length ≤ 1000 := by rw [Z18]; have := HM.out; omega
   have hml2 : (V0 m).length ≤ 1000 := by rw [Z4s]; have := HM.out; omega
   have hD0 : Below w17.heap.size w17 w17.drew := (Below.refl _ _).drew
   have hDa : Below w17.heap.size w17 ((w17.alloc (.cells #[] 9)).drew) := (Z5 _ _).drew
   have hDf : Below w17.heap.size w17 ((w17.alloc (.cells #[.string (bs f), .string (bs z)] 9)).drew) := (Z5 _ _).drew
   have hDb : Below w17.heap.size w17 (((w17.alloc (.cells #[] 9)).alloc (.cells #[.string (bs f), .string (bs z)] 9)).drew) := ((Z5 _ _).alloc (by simp) _).drew
   have hDc : Below w17.heap.size w17 (((w17.alloc (.cells #[.string (bs f), .string (bs z)] 9)).alloc (.cells #[] 9)).drew) := ((Z5 _ _).alloc (by simp) _).drew
   have HOa : Hid (((w17.alloc (.cells #[] 9)).drew).ownsRow w17.heap.size 9 1 (.slice (some ⟨w17.heap.size, 0, none⟩) 0 0) ([] : List Nm).length (([] : List Nm).map Y3)) := H_ (Q5 (heap_alloc_new w17 _) (Nat.le_refl _))
   have HOb : Hid ((((w17.alloc (.cells #[] 9)).alloc (.cells #[.string (bs f), .string (bs z)] 9)).drew).ownsRow w17.heap.size 9 1 (.slice (some ⟨w17.heap.size, 0, none⟩) 0 0) ([] : List Nm).length (([] : List Nm).map Y3)) := H_ (Q5 (W := (((w17.alloc (.cells #[] 9)).alloc (.cells #[.string (bs f), .string (bs z)] 9)).drew)) (Z8 (heap_alloc_new w17 (.cells #[] 9))) (Nat.le_refl _))
   have HOc : Hid ((((w17.alloc (.cells #[.string (bs f), .string (bs z)] 9)).alloc (.cells #[] 9)).drew).ownsRow w17.heap.size 9 1 (.slice (some ⟨w17.heap.size + 1, 0, none⟩) 0 0) ([] : List Nm).length (([] : List Nm).map Y3)) := H_ (Q5 (W := (((w17.alloc (.cells #[.string (bs f), .string (bs z)] 9)).alloc (.cells #[] 9)).drew)) (Za w17 (.cells #[.string (bs f), .string (bs z)] 9) (.cells #[] 9)) (by omega))
   have HFb : Hid (Zw (((w17.alloc (.cells #[] 9)).alloc (.cells #[.string (bs f), .string (bs z)] 9)).drew) (.slice (some ⟨w17.heap.size + 1, 0, none⟩) 2 2) [f, z]) := H_ (Kk (w := (((w17.alloc (.cells #[] 9)).alloc (.cells #[.string (bs f), .string (bs z)] 9)).drew)) (l := [f, z]) (Za w17 (.cells #[] 9) (.cells #[.string (bs f), .string (bs z)] 9)) 2 (by simp))
   have HFc : Hid (Zw (((w17.alloc (.cells #[.string (bs f), .string (bs z)] 9)).alloc (.cells #[] 9)).drew) (.slice (some ⟨w17.heap.size, 0, none⟩) 2 2) [f, z]) := H_ (Kk (w := (((w17.alloc (.cells #[.string (bs f), .string (bs z)] 9)).alloc (.cells #[] 9)).drew)) (l := [f, z]) (Z8 (heap_alloc_new w17 (.cells #[.string (bs f), .string (bs z)] 9))) 2 (by simp))
   have S0 := H_ (KS.out _ hD0)
   have HO17 := H_ O17
   clear O17 HV1 HV2
   go_wp2_with fail
   go_region_held_law (fun W => W.cell? ⟨w.heap.size, 1, none⟩ = some (.slice (some ⟨r, off, none⟩) L cap) ∧ W.cell? ⟨r, off + 2, none⟩ = some (.string (bs f)) ∧ W.cell? ⟨r, off + 4, none⟩ = some (.string (bs z))) (first | exact S0.out | assumption | exact KS.out _ hDa | exact KS.out _ hDf | exact KS.out _ hDb | exact KS.out _ hDc | fail) (first | ((refine Yq ((w17.alloc (.cells #[] 9)).drew) (by rfl) _ _ 28 (by rfl) w17.heap.size 9 j0 underlying28 hj0 hy0 hy1 hy2 _ [] (by rfl) HOa.out _ (J1 m) (by rfl) (HST1.out _ hDa) (by simp; omega) hDa.size ?_); intro v57 w5 o57 hg57 hv57; have o57 : w5.ownsRow w17.heap.size 9 1 v57 (J1 m).length ((J1 m).map Y3) := o57; have h5 := Ya hDa (Below.refl _ _) hg57 (fun k hk => (Yb HOa.out hk).1); have hS5 := KS.out _ h5; have h5F := h5.alloc h5.size (.cells #[.string (bs f), .string (bs z)] 9); have hS5F := KS.out _ h5F) | ((refine Yq (((w17.alloc (.cells #[] 9)).alloc (.cells #[.string (bs f), .string (bs z)] 9)).drew) (by rfl) _ _ 28 (by rfl) w17.heap.size 9 j0 underlying28 hj0 hy0 hy1 hy2 _ [] (by rfl) HOb.out _ (J1 m) (by rfl) (HST1.out _ hDb) (by simp; omega) hDb.size ?_); intro v57 w5 o57 hg57 hv57; have o57 : w5.ownsRow w17.heap.size 9 1 v57 (J1 m).length ((J1 m).map Y3) := o57; have h5 := Ya hDb (Below.refl _ _) hg57 (fun k hk => (Yb HOb.out hk).1); have hS5 := KS.out _ h5; have h5F := h5.alloc h5.size (.cells #[.string (bs f), .string (bs z)] 9); have hS5F := KS.out _ h5F; have hF5 : Zw w5 (.slice (some ⟨w17.heap.size + 1, 0, none⟩) 2 2) [f, z] := Zw.move HFb.out (fun q hq => hg57.block q (by simp [Value.ownBlock] at hq; subst hq; simp) (by simp [Value.ownBlock] at hq ⊢; omega))) | ((refine Yq (((w17.alloc (.cells #[.string (bs f), .string (bs z)] 9)).alloc (.cells #[] 9)).drew) (by rfl) _ _ 28 (by rfl) w17.heap.size 9 j0 underlying28 hj0 hy0 hy1 hy2 _ [] (by rfl) HOc.out _ (J1 m) (by rfl) (HST1.out _ hDc) (by simp; omega) hDc.size ?_); intro v57 w5 o57 hg57 hv57; have o57 : w5.ownsRow w17.heap.size 9 1 v57 (J1 m).length ((J1 m).map Y3) := o57; have h5 := Ya hDc (Below.refl _ _) hg57 (fun k hk => (Yb HOc.out hk).1); have hS5 := KS.out _ h5; have h5F := h5.alloc h5.size (.cells #[.string (bs f), .string (bs z)] 9); have hS5F := KS.out _ h5F; have hF5 : Zw w5 (.slice (some ⟨w17.heap.size, 0, none⟩) 2 2) [f, z] := Zw.move HFc.out (fun q hq => hg57.block q (by simp [Value.ownBlock] at hq; subst hq; simp; omega) (by simp [Value.ownBlock] at hq ⊢; omega))) | ((refine Yq (w5.alloc (.cells #[.string (bs f), .string (bs z)] 9)) (by rfl) _ _ 28 (by rfl) w17.heap.size 9 j0 underlying28 hj0 hy0 hy1 hy2 _ (J1 m) (by rfl) (o57.alloc _) _ [f, z] (by rfl) (Kk (l := [f, z]) (heap_alloc_new w5 _) 2 (by simp)) (by simp; omega) h5F.size ?_); intro v61 w6 o61 hg61 hv61; have o61 : w6.ownsRow w17.heap.size 9 1 v61 (J1 m ++ [f, z]).length ((J1 m ++ [f, z]).map Y3) := o61; have h6 := Ya h5F (Below.refl _ _) hg61 (fun k hk => (Yb o57 hk).1); have hS6 := KS.out _ h6) | ((refine Yq w5 (by rfl) _ _ 28 (by rfl) w17.heap.size 9 j0 underlying28 hj0 hy0 hy1 hy2 _ (J1 m) (by rfl) o57 _ [f, z] (by rfl) hF5 (by simp; omega) h5.size ?_); intro v61 w6 o61 hg61 hv61; have o61 : w6.ownsRow w17.heap.size 9 1 v61 (J1 m ++ [f, z]).length ((J1 m ++ [f, z]).map Y3) := o61; have h6 := Ya h5 (Below.refl _ _) hg61 (fun k hk => (Yb o57 hk).1); have hS6 := KS.out _ h6))
   all_goals
    have hl61 : LsT w6 b v61 (J1 m ++ [f, z]) := LsT.more o61 hb17 (by simp; omega)
    have O18 := HO17.out.go (Only.of h6) (HO17.out.rn.below h6)
    have hs6 := h6.size
    have HMK : Hid (∀ W : World, Zw (W.alloc (.cells #[.string X, .string Y] 9)) (.slice (some ⟨W.heap.size, 0, none⟩) 2 2) [Zd i1, Zd i2]) := H_ (fun W => by rw [HX.out, HY.out]; exact Kk (l := [Zd i1, Zd i2]) (heap_alloc_new W _) 2 (by simp))
    have hMN : J1 ((z, Zd i2) :: (f, Zd i1) :: m) = J1 m ++ [f, z] := by rw [Z35, Z35]; simp
    have hMT : V0 ((z, Zd i2) :: (f, Zd i1) :: m) = V0 m ++ [Zd i1, Zd i2] := by rw [Z34, Z34]; simp
    have HO18 := H_ O18
    have HO6E : Hid ((w6.alloc (.cells #[] 9)).ownsRow w6.heap.size 9 1 (.slice (some ⟨w6.heap.size, 0, none⟩) 0 0) ([] : List Nm).length (([] : List Nm).map Y3)) := H_ (Q5 (heap_alloc_new w6 _) (Nat.le_refl _))
    have HMN := H_ hMN
    have HMT := H_ hMT
    have HL61 := H_ hl61
    have tok2 : True := trivial
    clear O18 hMN hMT hl61 S0 HOa HOb HOc HFb HFc hDa hDb hDc hDf hD0 HO17
    go_wp2_with (first | (at_builtin; clear tok2; go_must (refine Y9 _ rfl _ _ 28 rfl w6.heap.size 9 j0 underlying28 hj0 hy0 hy1 hy2 _ [] rfl (Q5 (heap_alloc_new w6 _) (Nat.le_refl _)) _ (V0 m) rfl (HST2.out _ (h6.trans ((Z5 w6 _).mono h6.size))) (by simp; omega) (by simp) ?_; intro v58 w8 o58 hg58 hv58; have o58 : w8.ownsRow w6.heap.size 9 1 v58 (V0 m).length ((V0 m).map Y3) := o58; have h8 : Below w6.heap.size w6 w8 := Ya (Z5 w6 (.cells #[] 9)) (Below.refl _ _) hg58 (fun k hk => (Yb HO6E.out hk).1))) | (at_builtin; go_must (refine Y9 _ rfl _ _ 28 rfl w6.heap.size 9 j0 underlying28 hj0 hy0 hy1 hy2 _ (V0 m) rfl (o58.alloc _) _ [Zd i1, Zd i2] rfl (HMK.out w8) (by simp; omega) (by have := h8.size; simp; omega) ?_; intro v81 w9 o81 hg81 hv81; have h9 : Below w6.heap.size w6 w9 := Ya (h8.alloc h8.size (.cells #[.string X, .string Y] 9)) (Below.refl _ _) hg81 (fun k hk => (Yb o58 hk).1))))
    have O19 := HO18.out.go (Only.of h9) (HO18.out.rn.below h9)
    have ha1 : Hid (LsT w9 b v61 (J1 m ++ [f, z])) := H_ (HL61.out.only (Only.of h9))
    have ha2 : Hid (LsT w9 b v81 (V0 m ++ [Zd i1, Zd i2])) := H_ (LsT.more o81 (by omega) (by simp; omega))
    have HO19 := H_ O19
    have hv81' := H_ hv81
    clear O19 HO18 HL61 hv81 hg81 hg58 hv58 h5
    have h5 := HH5.out
    clear HST1 HST2 KS HE HX HY HMK
    try clear h6
    go_loopg [15] K (fun q i wr => ∃ (k0 j : Nat) (ys : List Value), q + j = K ∧ Hid (k0 = a + j) ∧ j ≤ K ∧ i = .int .i64 k0 ∧ wr.heap[w.heap.size]? = some (.cells #[.string (bs []), .slice (some ⟨r, off, none⟩) L cap] 47 (0, 0)) ∧ wr.heap[w.heap.size + 1]? = some (.cells #[.string ⟨#[]⟩, .slice none 0 0] 47 (0, 0)) ∧ wr.heap[w1.heap.size]? = some (.cells #[.string ⟨#[]⟩, .slice (some ⟨g, 0, none⟩) L c1] 47 (0, 0)) ∧
     Hid (RN wr b vf (plI free ((z, Zd i2) :: (f, Zd i1) :: m) (i2 + 1) (Zb x) j)) ∧ Hid (wr.ownsRow (w.heap.size + 2) 47 2 (.slice (some ⟨g, 0, none⟩) L c1) L ys) ∧ Hid (FVs nS wr (fun q => q < B ∨ (w1.heap.size < q ∧ q < wr.heap.size)) (Xg (fun j => Z0 (plQ free ((z, Zd i2) :: (f, Zd i1) :: m) (i2 + 1) (Zb x) j)) ((([.atom Yt, .atom f, .atom z, A, Bt, Z0 e]).set 1 (.atom (Zd i1))).set 2 (.atom (Zd i2))) a j) ys) ∧ Hid (Only b w wr) ∧ Hid (j = 0 → LsT wr b v61 (J1 m ++ [f, z]) ∧ LsT wr b v81 (V0 m ++ [Zd i1, Zd i2])))
    case atStart =>
     obtain ⟨ys0, r1, r2⟩ := HO19.out.row
     exact ⟨a, 0, ys0, by omega, H_ rfl, Nat.zero_le _, rfl, HO19.out.b0, HO19.out.b2, HO19.out.b3, H_ HO19.out.rn, H_ r1, H_ r2, H_ HO19.out.on, H_ (fun _ => ⟨ha1.out, ha2.out⟩)⟩
    case round =>
     obtain ⟨k0, j, ys, hq, hkj, hjK, rfl, hb0, hb2, hb3, hrn, ho, hfv, hon, hls⟩ := hrel
     have hN := lt_of_block hb3
     have hN2 := lt_of_block hb2
     have hN0 := lt_of_block hb0
     obtain ⟨v0, v1'⟩ := Zh hb0
     obtain ⟨u0, u1⟩ := Zh hb3
     have hgl0 := (ho.out.lt g rfl)
     have n0 : w.heap.size ≠ b := by omega
     have n1 : w.heap.size + 1 ≠ b := by omega
     have n2 : w1.heap.size ≠ b := by omega
     have n3 : g ≠ b := by omega
     have n4 : r ≠ b := by omega
     by_cases hlt : k0 < L
     · have hjlt : j < K := by have := hkj.out; have := HaK.out; omega
       have hjE : j < (Zb x).length := by rw [← HKe.out]; exact hjlt
       obtain ⟨tk, p, pn, pc, q1, q2, q3, q4, q5, q6, q7, hbk, q8⟩ := Z6q HV.out hkj.out hjE HD.out HW.out HBy.out h5 H6.out
       have hpk := plQ_at free ((z, Zd i2) :: (f, Zd i1) :: m) (i2 + 1) (Zb x) j hjE
       have hpn := plI_succ free ((z, Zd i2) :: (f, Zd i1) :: m) (i2 + 1) (Zb x) j hjE
       obtain ⟨kx, hkx⟩ : ∃ kx, kx = (Zb x)[j] := ⟨_, rfl⟩
       rw [← hkx] at hpk hpn q7
       obtain ⟨at0, hat0⟩ : ∃ at0, at0 = bs (Z1 tk) := ⟨_, rfl⟩
       rw [← hat0] at q2
       obtain ⟨kn, hkn⟩ : ∃ kn, kn = plI free ((z, Zd i2) :: (f, Zd i1) :: m) (i2 + 1) (Zb x) j := ⟨_, rfl⟩
       rw [← hkn] at hpk hpn
       have hrn' := hrn.out
       rw [← hkn] at hrn'
       have HRj := H_ hrn'
       have hk3 : (plE free ((z, Zd i2) :: (f, Zd i1) :: m) kn kx).2 ≤ 1000 := by rw [← hpn]; exact Nat.le_trans (plI_le free ((z, Zd i2) :: (f, Zd i1) :: m) (i2 + 1) (Zb x) hjE) (by rw [← HP1.out]; exact HK2.out)
       have hkL : k0 < (((([.atom Yt, .atom f, .atom z, A, Bt, Z0 e]).set 1 (.atom (Zd i1))).set 2 (.atom (Zd i2)))).length := by simp only [List.length_set]; rw [← HLe.out]; exact hlt
       have hmd : (((z, Zd i2) :: (f, Zd i1) :: m)).length + 2 * tk.depth ≤ 1000 := by
        have h1 := HM.out
        have h2 := Xk hbk
        rw [← q8] at h2
        first | omega | (simp only [List.length_cons]; omega)
       have CP : Hid (∀ (W : World), Only b wr W → RN W b vf kn → Calls prog 68 #[.agg #[.string at0, .slice p pn pc], v61, v81, .pointer (some ⟨b, 0, none⟩)] W fun e w' => PlR b B vf (plE free ((z, Zd i2) :: (f, Zd i1) :: m) kn kx) W e w') := H_ (fun W hW hk => by
        have hW2 := hon.out.trans hW
        have h := HI.out tk kx (nS tk (.slice p pn pc)) (((z, Zd i2) :: (f, Zd i1) :: m)) kn (v61) (v81) vf b B W q4 q6 q5 q7 (q1.only hW2 (fun k hk => ⟨by omega, by omega⟩)) hBb hk (HF.out.only hW2) (by rw [HMN.out]; exact (hls.out (hK1.out j hjlt)).1.only hW) (by rw [HMT.out]; exact (hls.out (hK1.out j hjlt)).2.only hW) hmd hfl hk3
        rw [hat0]
        exact h)
       have S4 : Hid (wr.cell? ⟨r, off + k0 * 2, none⟩ = some (.string at0) ∧ wr.cell? ⟨r, off + k0 * 2 + 1, none⟩ = some (.slice p pn pc)) := H_ ⟨(hon.out.cell (p := ⟨r, off + k0 * 2, none⟩) hrlt n4).trans q2, (hon.out.cell (p := ⟨r, off + k0 * 2 + 1, none⟩) hrlt n4).trans q3⟩
       have HST : Hid (Xg (fun j => Z0 (plQ free ((z, Zd i2) :: (f, Zd i1) :: m) (i2 + 1) (Zb x) j)) ((([.atom Yt, .atom f, .atom z, A, Bt, Z0 e]).set 1 (.atom (Zd i1))).set 2 (.atom (Zd i2))) a (j + 1) = (Xg (fun j => Z0 (plQ free ((z, Zd i2) :: (f, Zd i1) :: m) (i2 + 1) (Zb x) j)) ((([.atom Yt, .atom f, .atom z, A, Bt, Z0 e]).set 1 (.atom (Zd i1))).set 2 (.atom (Zd i2))) a j).set k0 (Z0 (plE free ((z, Zd i2) :: (f, Zd i1) :: m) kn kx).1)) := H_ (by simp only [Xg, hpk]; rw [hkj.out])
       have HPN := H_ hpn
       have HLS : Hid (k0 < (Xg (fun j => Z0 (plQ free ((z, Zd i2) :: (f, Zd i1) :: m) (i2 + 1) (Zb x) j)) ((([.atom Yt, .atom f, .atom z, A, Bt, Z0 e]).set 1 (.atom (Zd i1))).set 2 (.atom (Zd i2))) a j).length) := H_ (by rw [Vc]; exact hkL)
       have hk0 : (0 : Int) ≤ (k0 : Int) := Int.natCast_nonneg _
       clear hpk hpn q7 q1 q2 q3 q4 q5 q6 q8 hbk hkx hat0 hkn hrn' hmd hk3
       have hk1 : (k0 : Int) < (L : Int) := by omega
       have hL63 : (L : Int) < 9223372036854775808 := by omega
       obtain ⟨cur, hcur, hc0, hc1, hc2⟩ := Z4o ho.out
       obtain ⟨d0, hd0⟩ : ∃ d0, cur[k0 * 2]? = some d0 := ⟨_, Array.getElem?_eq_getElem (by omega)⟩
       obtain ⟨d1, hd1⟩ : ∃ d1, cur[k0 * 2 + 1]? = some d1 := ⟨_, Array.getElem?_eq_getElem (by omega)⟩
       have hgl := lt_of_block hcur
       have hrwr : r < wr.heap.size := Nat.lt_trans hrlt hN0
       have KS : Hid (∀ W, Only b wr W → (fun W => W.cell? ⟨w1.heap.size, 1, none⟩ = some (.slice (some ⟨g, 0, none⟩) L c1) ∧ W.cell? ⟨w.heap.size, 1, none⟩ = some (.slice (some ⟨r, off, none⟩) L cap) ∧ W.cell? ⟨r, off + k0 * 2, none⟩ = some (.string at0) ∧ W.cell? ⟨r, off + k0 * 2 + 1, none⟩ = some (.slice p pn pc) ∧ W.cell? ⟨g, k0 * 2, none⟩ = some d0 ∧ W.cell? ⟨g, k0 * 2 + 1, none⟩ = some d1 ∧ W.frozen? ⟨g, k0 * 2, none⟩ = false ∧ W.frozen? ⟨g, k0 * 2 + 1, none⟩ = false) W) := H_ (fun W hW => ⟨(hW.cell hN n2).trans u1, (hW.cell hN0 n0).trans v1', (hW.cell (p := ⟨r, off + k0 * 2, none⟩) hrwr n4).trans S4.out.1, (hW.cell (p := ⟨r, off + k0 * 2 + 1, none⟩) hrwr n4).trans S4.out.2, (Z4 (hW.blk hcur n3)).trans hd0, (Z4 (hW.blk hcur n3)).trans hd1, Yf (hW.blk hcur n3), Yf (hW.blk hcur n3)⟩)
       have hD : Only b wr wr.drew := (Only.refl b wr).drew
       have hRD : RN wr.drew b vf kn := HRj.out
       have S0 := H_ (KS.out _ hD)
       clear hrn v0 u0
       go_wp2_with fail
       obtain ⟨s1, s2, s3, s4, s7, s8, s9, s10⟩ := S0.out
       first | (go_region_with (first | (go_at_call 68; (with_reducible refine (CP.out _ hD hRD).mono ?_); rintro e w6 ⟨⟨p5, m5, c5, rfl, hv5⟩, hn6, ho6⟩; have h6 := Only.trans hD ho6; obtain ⟨m1, m2, m3, m4, m7, m8, m9, m10⟩ := KS.out _ h6))) | fail
       all_goals
        go_wp2_with fail
        go_roundg (gk - 1)
        case measure => omega
        case rel =>
         have hs6 := h6.size
         have hs7 := ho6.size
         have hgw1 := (ho1.lt g rfl).2
         have hz0 := hon.out.size
         refine ⟨k0 + 1, j + 1, (ys.set (k0 * 2) (.string (bs (Z1 (Z0 (plE free ((z, Zd i2) :: (f, Zd i1) :: m) kn kx).1))))).set (k0 * 2 + 1) (.slice p5 m5 c5), by omega, H_ (by rw [hkj.out]; omega), by omega, by go_num, ?_, ?_, ?_, H_ ?_, H_ ?_, H_ ?_, H_ ?_, H_ (fun e => by omega)⟩
         · rw [Z3 _ (by show w.heap.size ≠ g; omega), Z3 _ (by show w.heap.size ≠ g; omega)]; exact h6.blk hb0 n0
         · rw [Z3 _ (by show w.heap.size + 1 ≠ g; omega), Z3 _ (by show w.heap.size + 1 ≠ g; omega)]; exact h6.blk hb2 n1
         · rw [Z3 _ (by show w1.heap.size ≠ g; omega), Z3 _ (by show w1.heap.size ≠ g; omega)]; exact h6.blk hb3 n2
         · rw [HPN.out]
           unfold RN
           rw [Z3 _ (by show b ≠ g; omega), Z3 _ (by show b ≠ g; omega)]; exact hn6
         · exact Z6l (Z41 ho.out h6 n3) _ _ _
         · rw [HST.out]
           refine FVs.setS (FVs.move (fun q hq => hq.imp id (fun h => ⟨h.1, by simp; omega⟩)) (fun q hq => ?_) _ _ hfv.out) k0 HLS.out (FV.move (fun q hq => hq.imp id (fun h => ⟨by have := h.1; simp at this; omega, by simp; omega⟩)) (fun q hq => ?_) _ _ hv5)
           · rw [Z3 _ (by show q ≠ g; omega), Z3 _ (by show q ≠ g; omega)]; exact h6.block q (by omega) (by omega)
           · have hq' : q ≠ g := by
              rcases hq with h | ⟨h, -⟩
              · omega
              · simp at h; omega
             rw [Z3 _ (by show q ≠ g; exact hq'), Z3 _ (by show q ≠ g; exact hq')]
         · exact ((hon.out.trans h6).setNew (by show w.heap.size ≤ g; omega) _).setNew (by show w.heap.size ≤ g; omega) _
     · have hjK2 : j = K := by have := hkj.out; have := HaK.out; omega
       subst hjK2
       have hF : Hid (∀ w', w'.heap.size = wr.heap.size → (∀ q, q ≠ w.heap.size + 1 → w'.heap[q]? = wr.heap[q]?) → Only b w w' → PlR b B vf (plE free m k x) w (.returned (.agg #[.string ⟨#[]⟩, .slice (some ⟨g, 0, none⟩) L c1])) w') := H_ (fun w' h1 h2 h3 => pl_done (O := w1.heap.size) (base := w.heap.size + 2) (rb := w.heap.size + 1) HP2.out (by rw [Vc]; exact (by simp only [List.length_set]; exact HLe.out.symm)) (by omega) (by omega) ho.out (by omega) (by omega) (by omega) (by rw [← HKe.out]; exact hfv.out) h1 h2 (by rw [HP1.out, ← HKe.out]; unfold RN; rw [h2 b (by omega)]; exact hrn.out) h3)
       obtain ⟨f0, f1⟩ := Xb hb2
       obtain ⟨r0, r1⟩ := Zh hb2
       clear hfv ho hrn
       go_wp2_with fail
       have kk := Yu (j := 1) (Yu (j := 0) hb2 (.string ⟨#[]⟩)) (.slice (some ⟨g, 0, none⟩) L c1)
       obtain ⟨k0, k1⟩ := Zh kk
       refine bodyPost_ret (v := .agg #[.string ⟨#[]⟩, .slice (some ⟨g, 0, none⟩) L c1]) (by simp [results, results68, go_sem, k0, k1]) rfl ?_
       refine hF.out _ (by simp) (fun q hq => ?_) ?_
       · rw [Z3 _ (by simpa using hq), Z3 _ (by simpa using hq)]
       · exact (hon.out.setNew (by simp) _).setNew (by simp) _
end Go.Proofs.YtjaaalojcdbcpaaGreatDoor
