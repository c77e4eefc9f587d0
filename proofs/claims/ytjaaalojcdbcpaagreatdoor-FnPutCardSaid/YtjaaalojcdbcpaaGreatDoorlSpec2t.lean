/- The reference makes expressions plain: a binding. -/
import Derived.Test.YtjaaalojcdbcpaaGreatDoorlPureDbM
import Derived.Test.YtjaaalojcdbcpaaGreatDoorlLetEnd
import Derived.Test.YtjaaalojcdbcpaaGreatDoorlPureMM
import Derived.Deep.DrawnRows
set_option maxHeartbeats 20000000
set_option linter.unusedVariables false
set_option linter.unusedSimpArgs false
namespace Go.Proofs.YtjaaalojcdbcpaaGreatDoor
open Go.RowKit Go.Proofs.Tryz
set_option maxRecDepth 8000
attribute [local go_sem ↓] Go.wp_at_zero Go.wp_at_succ
theorem l2Plain_let (free : List Nm) (n : Nat) (ih : PlS free n) (s : Nm) (e c : Ex) (m : List (Nm × Nm)) (k : Nat) (v1 v2 vf : Value) (b B : Nat) (r off cap : Nat) (xs : List Value) (w : World) (hd : (Tr.list [.atom Yy, .atom s, Z0 e, Z0 c]).depth < n + 1) (hwf : wfs [.atom Yy, .atom s, Z0 e, Z0 c]) (hby : Zi [.atom Yy, .atom s, Z0 e, Z0 c] ≤ 12000) (hge : Zy (Z0 e) = some e) (hgc : Zy (Z0 c) = some c)
 (h2 : r < B) (h4 : cap ≤ maxLen) (h3 : 4 ≤ cap) (h5 : Yv w r off xs) (h6 : FVs nS w (fun k => k < B) [.atom Yy, .atom s, Z0 e, Z0 c] xs) (hBb : B ≤ b) (hr : RN w b vf k) (hf : LsT w b vf free) (hv1 : LsT w b v1 (J1 m)) (hv2 : LsT w b v2 (V0 m)) (hm : m.length + 2 * (Tr.list [.atom Yy, .atom s, Z0 e, Z0 c]).depth ≤ 1000) (hfl : free.length ≤ 1000) (hk2 : (plE free m k (.lete s e c)).2 ≤ 1000) :
 Calls prog 68 #[.agg #[.string (bs []), .slice (some ⟨r, off, none⟩) 4 cap], v1, v2, .pointer (some ⟨b, 0, none⟩)] w fun e' w' => PlR b B vf (plE free m k (.lete s e c)) w e' w' := by
 obtain ⟨i, hi⟩ : ∃ i, i = Zk free k := ⟨_, rfl⟩
 obtain ⟨fe, k1, h1⟩ : ∃ fe k1, plE free m (i + 1) e = (fe, k1) := ⟨_, _, rfl⟩
 obtain ⟨fc, k2, h7⟩ : ∃ fc k2, plE free ((s, Zd i) :: m) k1 c = (fc, k2) := ⟨_, _, rfl⟩
 have hE : plE free m k (.lete s e c) = (.lete (Zd i) fe fc, k2) := by simp only [plE, ← hi, h1, h7]
 rw [hE] at hk2 ⊢
 have hk2' : k2 ≤ 1000 := hk2
 have hk1 : k1 ≤ 1000 := by have h := (Ym free c ((s, Zd i) :: m) k1).1; rw [h7] at h; exact Nat.le_trans h hk2
 have hi1 : i + 1 ≤ 1000 := by have h := (Ym free e m (i + 1)).1; rw [h1] at h; exact Nat.le_trans h hk1
 have hk0 : k ≤ 1000 := by have h := (Qe free k).1; rw [← hi] at h; omega
 have hbw : b < w.heap.size := lt_of_block hr
 have hrlt : r < w.heap.size := by omega
 have hemp := Jl
 have hde : (Z0 e).depth < n := by have h := Xk (ts := [.atom Yy, .atom s, Z0 e, Z0 c]) (i := 2) (by simp); simp only [List.getElem_cons_succ, List.getElem_cons_zero] at h; omega
 have hdc : (Z0 c).depth < n := by have h := Xk (ts := [.atom Yy, .atom s, Z0 e, Z0 c]) (i := 3) (by simp); simp only [List.getElem_cons_succ, List.getElem_cons_zero] at h; omega
 have hme : m.length + 2 * (Z0 e).depth ≤ 1000 := by have h := Xk (ts := [.atom Yy, .atom s, Z0 e, Z0 c]) (i := 2) (by simp); simp only [List.getElem_cons_succ, List.getElem_cons_zero] at h; omega
 have hmc : m.length + 1 + 2 * (Z0 c).depth ≤ 1000 := by have h := Xk (ts := [.atom Yy, .atom s, Z0 e, Z0 c]) (i := 3) (by simp); simp only [List.getElem_cons_succ, List.getElem_cons_zero] at h; omega
 simp only [wfs] at hwf
 obtain ⟨-, -, hwe, hwc, -⟩ := hwf
 simp only [Zi] at hby
 have hbe : (Z0 e).bytes ≤ 12000 := by omega
 have hbc : (Z0 c).bytes ≤ 12000 := by omega
 have e0 : w.cell? ⟨r, off, none⟩ = some (.string (bs Yy)) := by
  obtain ⟨p, m, c, _, q, _⟩ := Kb h6 h5 0 (by simp)
  simpa [Z1] using q
 have e2 : w.cell? ⟨r, off + 2, none⟩ = some (.string (bs s)) := by
  obtain ⟨p, m, c, _, q, _⟩ := Kb h6 h5 1 (by simp)
  simpa [Z1] using q
 obtain ⟨pe, me, ce, fve, e4, e5⟩ := Kb h6 h5 2 (by simp)
 obtain ⟨pc, mc, cc, fvc, e6, e7⟩ := Kb h6 h5 3 (by simp)
 simp only [List.getElem_cons_succ, List.getElem_cons_zero] at fve e4 e5 fvc e6 e7
 have s1 : ((bs Yy).toList == [108, 101, 116]) = true := by rw [Z9]; rfl
 have hxl : xs.length = 4 * 2 := by rw [FVs.length Jn h6]; rfl
 have CK : Hid (∀ W, Calls prog 98 #[.string (bs Yy)] W fun e w' => e = .returned (.tuple #[.int .i64 ((2 : Nat) : Int), .int .i64 ((4 : Nat) : Int)]) ∧ w' = W) := H_ (fun W => Jw _ _ _ (by rfl) W)
 obtain ⟨i0, hi0, hz0, hz1, hz2⟩ := info_parts Tryz.infoT1
 obtain ⟨j0, hj0, hy0, hy1, hy2⟩ := info_parts Tryz.infoStr
 have H1 : Hid (∀ u ∈ xs, u.oneCell' = true) := H_ (FVs.one h6)
 have ROW : Hid (∀ W, Below w.heap.size w W → ∀ j u, xs[j]? = some u → W.cell? ((⟨r, off, none⟩ : Addr).add j) = some u) := H_ (fun W hW j u hj => by
  have e : (⟨r, off, none⟩ : Addr).add j = ⟨r, off + j, none⟩ := by unfold Addr.add; split <;> simp_all
  rw [e]
  exact (hW.cell (p := ⟨r, off + j, none⟩) hrlt).trans (h5 j u hj))
 obtain ⟨X, hX⟩ : ∃ X, X = bs (Zd i) := ⟨_, rfl⟩
 have CF : Hid (∀ W, Only b w W → RN W b vf k → Calls prog 112 #[.pointer (some ⟨b, 0, none⟩)] W fun e w' => e = .returned (.string X) ∧ RN w' b vf (i + 1) ∧ Only b W w') := H_ (fun W hW hk => by
  have h := Z5f b vf free k W hk (hf.only hW).1 (hf.only hW).2 hfl hk0
  rw [← hi, ← hX] at h
  exact h)
 obtain ⟨At2, hAt2⟩ : ∃ A, A = bs (Z1 (Z0 e)) := ⟨_, rfl⟩
 obtain ⟨At3, hAt3⟩ : ∃ A, A = bs (Z1 (Z0 c)) := ⟨_, rfl⟩
 have C1 : Hid (∀ W, Only b w W → RN W b vf (i + 1) → Calls prog 68 #[.agg #[.string At2, .slice pe me ce], v1, v2, .pointer (some ⟨b, 0, none⟩)] W fun e' w' => PlR b B vf (fe, k1) W e' w') := H_ (fun W hW hk => by
  have h := ih (Z0 e) e (nS (Z0 e) (.slice pe me ce)) m (i + 1) v1 v2 vf b B W hde hwe hbe hge (fve.only hW (fun q hq => ⟨by omega, by omega⟩)) hBb hk (hf.only hW) (hv1.only hW) (hv2.only hW) hme hfl (by rw [h1]; exact hk1)
  rw [h1] at h
  rw [hAt2]
  exact h)
 have C2 : Hid (∀ W u1 u2, Only b w W → RN W b vf k1 → LsT W b u1 (J1 m ++ [s]) → LsT W b u2 (V0 m ++ [Zd i]) → Calls prog 68 #[.agg #[.string At3, .slice pc mc cc], u1, u2, .pointer (some ⟨b, 0, none⟩)] W fun e' w' => PlR b B vf (fc, k2) W e' w') := H_ (fun W u1 u2 hW hk hu1 hu2 => by
  have h := ih (Z0 c) c (nS (Z0 c) (.slice pc mc cc)) ((s, Zd i) :: m) k1 u1 u2 vf b B W hdc hwc hbc hgc (fvc.only hW (fun q hq => ⟨by omega, by omega⟩)) hBb hk (hf.only hW) (by rw [Z35]; exact hu1) (by rw [Z34]; exact hu2) (by simp only [List.length_cons]; omega) hfl (by rw [h7]; exact hk2')
  rw [h7] at h
  rw [hAt3]
  exact h)
 have hX4 : Hid (w.cell? ⟨r, off + 4, none⟩ = some (.string At2) ∧ w.cell? ⟨r, off + 5, none⟩ = some (.slice pe me ce) ∧ w.cell? ⟨r, off + 6, none⟩ = some (.string At3) ∧ w.cell? ⟨r, off + 7, none⟩ = some (.slice pc mc cc) ∧ w.cell? ⟨r, off + 2, none⟩ = some (.string (bs s))) := H_ ⟨by rw [hAt2]; exact e4, e5, by rw [hAt3]; exact e6, e7, e2⟩
 have HX := H_ hX
 have HF := H_ hf
 have HV1 := H_ hv1
 have HV2 := H_ hv2
 have HRN := H_ hr
 have H6 := H_ h6
 have HM := H_ hm
 obtain ⟨p1, c1', ee1, -, -⟩ := id hv1.1
 obtain ⟨p2, c2', ee2, -, -⟩ := id hv2.1
 obtain ⟨l1, hl1⟩ : ∃ l1, l1 = (J1 m).length := ⟨_, rfl⟩
 obtain ⟨l2, hl2⟩ : ∃ l2, l2 = (V0 m).length := ⟨_, rfl⟩
 rw [← hl1] at ee1
 rw [← hl2] at ee2
 subst ee1 ee2
 have hfin : Hid (Z0 (.lete (Zd i) fe fc) = .list ((([.atom Yy, .atom s, Z0 e, Z0 c].set 1 (.atom (Zd i))).set 2 (Z0 fe)).set 3 (Z0 fc))) := H_ rfl
 have hL4 : (4 : Nat) ≤ 12000 := by decide
 clear ih hwe hwc hbe hbc hge hgc h6 hd hby hr hf hv1 hv2 hm hk2 hl1 hl2 hE h1 h7 hi hX hAt2 hAt3 fve fvc e4 e5 e6 e7 hk0 hde hdc hme hmc hk2' hk1 hi1 e2
 go_enter func68, ntmps68
 go_wp2_with (first | (go_at_call 98; go_must (refine (CK.out _).mono ?_; rintro e w5 ⟨rfl, rfl⟩)) | (at_builtin; go_must (refine Jb _ rfl _ _ 45 rfl (w.heap.size + 2) 47 i0 (.agg #[.string ⟨#[]⟩, .slice none 0 0]) 2 40 underlying45 hi0 hz0 hz1 hz2 rfl (by decide) (.slice (some ⟨w.heap.size + 2, 0, none⟩) 0 0) 0 4 4 (by omega) (by decide) [] rfl (Z0u (Z39 _ _ _ _) (Nat.le_refl _)) ⟨r, off, none⟩ cap xs rfl hxl (ROW.out _ (by (repeat (first | exact Below.refl _ _ | (refine Below.alloc ?_ (by first | (simp; done) | (simp; omega)) _) | (refine Below.setCell ?_ (by first | (simp; done) | (simp; omega)) _))))) H1.out (by decide) (by omega) (by simp) ?_; intro g c1 w1 ho1 hg1 hgg; have x0 : w1.heap[w.heap.size]? = some (.cells #[.string (bs []), .slice (some ⟨r, off, none⟩) 4 cap] 47 (0, 0)) := Yc hg1 (Z8 (Z8 (heap_alloc_new _ _))) (by simp [Value.ownBlock]); have x2 : w1.heap[w.heap.size + 1]? = some (.cells #[.string ⟨#[]⟩, .slice none 0 0] 47 (0, 0)) := Yc hg1 (Z8 (Za _ _ _)) (by simp [Value.ownBlock]); have B1 : Below w.heap.size w w1 := Below.grown (by (repeat (first | exact Below.refl _ _ | (refine Below.alloc ?_ (by first | (simp; done) | (simp; omega)) _) | (refine Below.setCell ?_ (by first | (simp; done) | (simp; omega)) _)))) hg1 (by simp; omega) (fun k hk => by simp [Value.ownBlock] at hk; omega); have x3 := heap_alloc_new w1 (.cells #[.string ⟨#[]⟩, .slice (some ⟨g, 0, none⟩) 4 c1] 47); have B2 := B1.alloc B1.size (.cells #[.string ⟨#[]⟩, .slice (some ⟨g, 0, none⟩) 4 c1] 47); have y0 := Z4 (j := 1) (Z8 (o' := (.cells #[.string ⟨#[]⟩, .slice (some ⟨g, 0, none⟩) 4 c1] 47)) x0); have y1 : (w1.alloc (.cells #[.string ⟨#[]⟩, .slice (some ⟨g, 0, none⟩) 4 c1] 47)).cell? ⟨r, off, none⟩ = some (.string (bs Yy)) := (B2.cell (p := ⟨r, off, none⟩) hrlt).trans e0; have hw1 : w.heap.size + 1 < w1.heap.size := lt_of_block x2)) | (go_at_call 112; go_must (refine (CF.out _ (Only.of B2) (HRN.out.below B2)).mono ?_; rintro e w6 ⟨rfl, hn6, ho6⟩)))
 have O6 : OutS b B vf w r off cap 4 g c1 w1.heap.size (i + 1) [.atom Yy, .atom s, Z0 e, Z0 c] w6 := OutS.go (k := k) (W := w1.alloc (.cells #[.string ⟨#[]⟩, .slice (some ⟨g, 0, none⟩) 4 c1] 47)) ⟨Z8 x0, Z8 x2, x3, HRN.out.below B2, ⟨xs, ho1.alloc _, FVs.move (fun k hk => .inl hk) (fun _ _ => rfl) _ _ (FVs.below H6.out B2 (fun k hk => by omega))⟩, Only.of B2, (ho1.lt g rfl).2, hw1, hBb, hbw, rfl⟩ ho6 hn6
 obtain ⟨d0, d1, hK⟩ := O6.keepS (j := 1) (by decide)
 have K9 : Hid (∀ W, Only b w6 W → W.cell? ⟨w1.heap.size, 1, none⟩ = some (.slice (some ⟨g, 0, none⟩) 4 c1) ∧ W.cell? ⟨g, 2, none⟩ = some d0 ∧ W.cell? ⟨g, 3, none⟩ = some d1 ∧ W.frozen? ⟨g, 2, none⟩ = false ∧ W.frozen? ⟨g, 3, none⟩ = false) := H_ (fun W hW => by obtain ⟨q1, q2, q3, q4, q5, q6⟩ := hK W hW; exact ⟨q1, q3, q4, q5, q6⟩)
 have HO6 := H_ O6
 clear hK O6
 have hD : Only b w6 w6.drew := (Only.refl b w6).drew
 obtain ⟨t1, t2, t3, t4, t5⟩ := K9.out _ hD
 go_wp2_with fail
 first | (go_region_with (first | (go_at_call 110; (with_reducible refine (Z4u _ _).mono ?_); rintro e w7 ⟨rfl, hb7⟩; have ho7 := hD.next hb7; obtain ⟨m1, m2, m3, m4, m5⟩ := K9.out _ ho7))) | fail
 all_goals
  obtain ⟨w9, hw9⟩ : ∃ W, W = (w7.setCell ⟨g, 2, none⟩ (.string X)).setCell ⟨g, 3, none⟩ (.slice none 0 0) := ⟨_, rfl⟩
  have O9 := HO6.out.set (j := 1) (t := .atom (Zd i)) (p := none) (m := 0) (c := 0) ho7 (k' := i + 1) ((show RN w6.drew b vf (i + 1) from HO6.out.rn).below hb7) (by decide) (by simp only [FV])
  have O9 : OutS b B vf w r off cap 4 g c1 w1.heap.size (i + 1) ([.atom Yy, .atom s, Z0 e, Z0 c].set 1 (.atom (Zd i))) w9 := (by rw [hw9, HX.out]; exact O9)
  rw [← hw9]
  clear hw9 K9 t1 t2 t3 t4 t5 m1 m2 m3 m4 m5 ho7 hb7
  obtain ⟨d0, d1, hK⟩ := O9.keepS (j := 2) (by decide)
  have hon9 := O9.on
  have K10 : Hid (∀ W, Only b w9 W → W.cell? ⟨w1.heap.size, 1, none⟩ = some (.slice (some ⟨g, 0, none⟩) 4 c1) ∧ W.cell? ⟨w.heap.size, 1, none⟩ = some (.slice (some ⟨r, off, none⟩) 4 cap) ∧ W.cell? ⟨r, off + 4, none⟩ = some (.string At2) ∧ W.cell? ⟨r, off + 5, none⟩ = some (.slice pe me ce) ∧ W.cell? ⟨g, 4, none⟩ = some d0 ∧ W.cell? ⟨g, 5, none⟩ = some d1 ∧ W.frozen? ⟨g, 4, none⟩ = false ∧ W.frozen? ⟨g, 5, none⟩ = false) := H_ (fun W hW => by
   obtain ⟨q1, q2, q3, q4, q5, q6⟩ := hK W hW
   have hw := hon9.trans hW
   exact ⟨q1, q2, (hw.cell (p := ⟨r, off + 4, none⟩) hrlt (by show r ≠ b; omega)).trans hX4.out.1, (hw.cell (p := ⟨r, off + 5, none⟩) hrlt (by show r ≠ b; omega)).trans hX4.out.2.1, q3, q4, q5, q6⟩)
  have HO9 := H_ O9
  have C1' : Hid (∀ W, Only b w9 W → RN W b vf (i + 1) → Calls prog 68 #[.agg #[.string At2, .slice pe me ce], .slice p1 l1 c1', .slice p2 l2 c2', .pointer (some ⟨b, 0, none⟩)] W fun e' w' => PlR b B vf (fe, k1) W e' w') := H_ (fun W hW hk => C1.out W (hon9.trans hW) hk)
  clear hK O9 C1 hon9
  have hD : Only b w9 w9.drew := (Only.refl b w9).drew
  have hRD : RN w9.drew b vf (i + 1) := HO9.out.rn
  obtain ⟨t1, t2, t3, t4, t5, t6, t7, t8⟩ := K10.out _ hD
  go_wp2_with fail
  first | (go_region_with (first | (go_at_call 68; (with_reducible refine (C1'.out _ hD hRD).mono ?_); rintro e w10 ⟨⟨p5, m5, c5, rfl, hv5⟩, hn10, ho10⟩; have h10 := Only.trans hD ho10; obtain ⟨m1, m2, m3, m4, m5', m6, m7, m8⟩ := K10.out _ h10))) | fail
  all_goals
   obtain ⟨w11, hw11⟩ : ∃ W, W = (w10.setCell ⟨g, 4, none⟩ (.string (bs (Z1 (Z0 fe))))).setCell ⟨g, 5, none⟩ (.slice p5 m5 c5) := ⟨_, rfl⟩
   have O11 := HO9.out.set (j := 2) (t := Z0 fe) (p := p5) (m := m5) (c := c5) h10 (k' := k1) hn10 (by decide) hv5
   have O11 : OutS b B vf w r off cap 4 g c1 w1.heap.size k1 (([.atom Yy, .atom s, Z0 e, Z0 c].set 1 (.atom (Zd i))).set 2 (Z0 fe)) w11 := (by rw [hw11]; exact O11)
   rw [← hw11]
   clear hw11 K10 t1 t2 t3 t4 t5 t6 t7 t8 m1 m2 m3 m4 m5' m6 m7 m8 h10 ho10 hn10 hv5 HO9 C1'
   obtain ⟨d0, d1, hK⟩ := O11.keepS (j := 3) (by decide)
   have hon11 := O11.on
   have hbw11 : b < w11.heap.size := Nat.lt_of_lt_of_le hbw hon11.size
   have K11 : Hid (∀ W, Only b w11 W → W.cell? ⟨w1.heap.size, 1, none⟩ = some (.slice (some ⟨g, 0, none⟩) 4 c1) ∧ W.cell? ⟨w.heap.size, 1, none⟩ = some (.slice (some ⟨r, off, none⟩) 4 cap) ∧ W.cell? ⟨r, off + 6, none⟩ = some (.string At3) ∧ W.cell? ⟨r, off + 7, none⟩ = some (.slice pc mc cc) ∧ W.cell? ⟨r, off + 2, none⟩ = some (.string (bs s)) ∧ W.cell? ⟨g, 6, none⟩ = some d0 ∧ W.cell? ⟨g, 7, none⟩ = some d1 ∧ W.frozen? ⟨g, 6, none⟩ = false ∧ W.frozen? ⟨g, 7, none⟩ = false) := H_ (fun W hW => by
    obtain ⟨q1, q2, q3, q4, q5, q6⟩ := hK W hW
    have hw := hon11.trans hW
    exact ⟨q1, q2, (hw.cell (p := ⟨r, off + 6, none⟩) hrlt (by show r ≠ b; omega)).trans hX4.out.2.2.1, (hw.cell (p := ⟨r, off + 7, none⟩) hrlt (by show r ≠ b; omega)).trans hX4.out.2.2.2.1, (hw.cell (p := ⟨r, off + 2, none⟩) hrlt (by show r ≠ b; omega)).trans hX4.out.2.2.2.2, q3, q4, q5, q6⟩)
   have hml : (J1 m).length ≤ 1000 := by rw [Z18]; have := HM.out; omega
   have hml2 : (V0 m).length ≤ 1000 := by rw [Z4s]; have := HM.out; omega
   have HO11 := H_ O11
   have HV1' := H_ (HV1.out.only hon11)
   have HV2' := H_ (HV2.out.only hon11)
   have C2' : Hid (∀ W u1 u2, Only b w11 W → RN W b vf k1 → LsT W b u1 (J1 m ++ [s]) → LsT W b u2 (V0 m ++ [Zd i]) → Calls prog 68 #[.agg #[.string At3, .slice pc mc cc], u1, u2, .pointer (some ⟨b, 0, none⟩)] W fun e' w' => PlR b B vf (fc, k2) W e' w') := H_ (fun W u1 u2 hW => C2.out W u1 u2 (hon11.trans hW))
   clear hK O11 C2 HV1 HV2 hon11
   go_wp2_with fail
   refine plLet_end (hops := rfl) _ w11 b B w.heap.size w1.heap.size g c1 r off cap At3 pc mc cc s (Zd i) (.slice p1 l1 c1') (.slice p2 l2 c2') vf (J1 m) (V0 m) k1 k2 fc d0 d1 (Nat.le_of_ble_eq_true rfl) rfl rfl rfl rfl rfl (by rw [← HX.out]; rfl) hbw11 HO11.out.rn hml hml2 K11 HV1' HV2' C2' ?_
   rintro a' w' hkp hks hkd ⟨wz, p9, m9, c9, hz1, hz2, hz3, rfl⟩
   have k8 : a'.tmps[8]?.getD undef = .pointer (some ⟨w.heap.size + 1, 0, none⟩) := evg ((hkp 8 (by decide)).trans rfl)
   have k9 : a'.tmps[9]?.getD undef = .pointer (some ⟨w1.heap.size, 0, none⟩) := evg ((hkp 9 (by decide)).trans rfl)
   have ks : 92 < a'.tmps.size := by rw [hks]; exact Nat.le_of_ble_eq_true rfl
   have kd : a'.defers = [] := hkd.trans rfl
   have O12 : OutS b B vf w r off cap 4 g c1 w1.heap.size k2 ((([.atom Yy, .atom s, Z0 e, Z0 c].set 1 (.atom (Zd i))).set 2 (Z0 fe)).set 3 (Z0 fc)) ((wz.setCell ⟨g, 6, none⟩ (.string (bs (Z1 (Z0 fc))))).setCell ⟨g, 7, none⟩ (.slice p9 m9 c9)) := HO11.out.set (j := 3) hz1 hz2 (by decide) hz3
   generalize (wz.setCell ⟨g, 6, none⟩ (.string (bs (Z1 (Z0 fc))))).setCell ⟨g, 7, none⟩ (.slice p9 m9 c9) = w12 at *
   have hb2 := O12.b2
   obtain ⟨f0, f1⟩ := Xb hb2
   obtain ⟨r0, r1⟩ := Zh hb2
   have u0 := Z4 (j := 0) O12.b3
   have u1 := Z4 (j := 1) O12.b3
   have hon12 := O12.on
   have H12 := H_ O12
   clear hkp hks hkd O12 HO11 hz1 hz2 hz3 HV1' HV2' C2' K11 hbw11 hml hml2
   go_wp2_with fail
   have kk := Yu (j := 1) (Yu (j := 0) hb2 (.string ⟨#[]⟩)) (.slice (some ⟨g, 0, none⟩) 4 c1)
   obtain ⟨q0, q1⟩ := Zh kk
   refine bodyPost_ret (v := .agg #[.string ⟨#[]⟩, .slice (some ⟨g, 0, none⟩) 4 c1]) (by simp [results, results68, go_sem, k8, q0, q1]) rfl ?_
   refine H12.out.done hfin.out rfl (by simp) (fun q hq => ?_) ?_
   · rw [Z3 _ (by simpa using hq), Z3 _ (by simpa using hq)]
   · exact (hon12.setNew (by simp) _).setNew (by simp) _
end Go.Proofs.YtjaaalojcdbcpaaGreatDoor
