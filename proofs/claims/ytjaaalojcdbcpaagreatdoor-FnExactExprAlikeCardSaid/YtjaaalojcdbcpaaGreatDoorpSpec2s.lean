/- The reference makes expressions plain: heads that bind nothing. -/
import Derived.Test.YtjaaalojcdbcpaaGreatDoorpPureOM
import Derived.Deep.RegionHeldLaw
set_option maxHeartbeats 20000000
set_option linter.unusedVariables false
set_option linter.unusedSimpArgs false
namespace Go.Proofs.YtjaaalojcdbcpaaGreatDoor
open Go.RowKit Go.Proofs.Tryz
set_option maxRecDepth 8000
theorem pl_done {b B g L c1 O rb base : Nat} {vf : Value} {R : Ex × Nat} {w wr w' : World} {ts : List Tr} {ys : List Value} (hR : Z0 R.1 = .list ts) (hL : ts.length = L) (hbs : w.heap.size ≤ base) (hO : w.heap.size ≤ O) (ho : wr.ownsRow base 47 2 (.slice (some ⟨g, 0, none⟩) L c1) L ys) (hrb : rb < base) (hrO : rb < O) (hB : B ≤ rb)
 (hfv : FVs nS wr (fun q => q < B ∨ (O < q ∧ q < wr.heap.size)) ts ys) (hs : w'.heap.size = wr.heap.size) (hk : ∀ q, q ≠ rb → w'.heap[q]? = wr.heap[q]?) (hn : RN w' b vf R.2) (ho2 : Only b w w') : PlR b B vf R w (.returned (.agg #[.string ⟨#[]⟩, .slice (some ⟨g, 0, none⟩) L c1])) w' := by
 obtain ⟨hg1, hg2⟩ := ho.lt g rfl
 have hrow := ho.cells (g := g) rfl
 unfold PlR
 rw [hR]
 rcases ho.2 with ⟨e, _⟩ | ⟨g2, cap, cur, e, _, _, h1, h2, _, _⟩
 · cases e
 · simp only [Value.slice.injEq, Option.some.injEq, Addr.mk.injEq, and_true, true_and] at e
   obtain ⟨rfl, rfl⟩ := e
   refine ⟨⟨some ⟨g, 0, none⟩, L, c1, rfl, ?_⟩, hn, ho2⟩
   simp only [FV]
   refine ⟨g, 0, c1, ys, by rw [hL], .inr ⟨by omega, by omega⟩, by omega, h2, fun j v hj => ?_, FVs.move (fun q hq => hq.imp id (fun h => ⟨by omega, by omega⟩)) (fun q hq => hk q (by omega)) _ _ hfv⟩
   have h3 := hrow j v hj
   rw [World.cell?_of_block (w := wr) (w' := w') (a := ⟨g, 0 + j, none⟩) (hk g (by omega))]
   rw [Nat.zero_add]
   have e : (⟨g, 0, none⟩ : Addr).add j = ⟨g, j, none⟩ := by unfold Addr.add; split <;> simp_all
   rw [← e]; exact h3
theorem Z0e {b : Nat} {w w' : World} {base : Nat} {e : TypeId} {size g n c : Nat} {xs : List Value} (h : w.ownsRow base e size (.slice (some ⟨g, 0, none⟩) n c) n xs) (ho : Only b w w') (hne : g ≠ b) : w'.ownsRow base e size (.slice (some ⟨g, 0, none⟩) n c) n xs := by
 refine ⟨h.1, ?_⟩
 rcases h.2 with ⟨e, _⟩ | ⟨g2, cap, cur, e, h0, h3, h1, h2, h4, h5⟩
 · cases e
 · simp only [Value.slice.injEq, Option.some.injEq, Addr.mk.injEq, and_true, true_and] at e
   obtain ⟨rfl, rfl⟩ := e
   exact .inr ⟨g, c, cur, rfl, h0, ho.blk h3 hne, h1, h2, h4, h5⟩
theorem l2Plain_kids (free : List Nm) (n : Nat) (ih : PlS free n) (h : Tr) (ps : List Tr) (x : Ex) (m : List (Nm × Nm)) (k : Nat) (v1 v2 vf : Value) (b B : Nat) (r off cap L : Nat) (xs : List Value) (w : World) (hd : (Tr.list (h :: ps)).depth < n + 1) (hwf : wfs (h :: ps)) (hby : Zk (h :: ps) ≤ 12000) (hx : Zt (.list (h :: ps)) = some x) (hnl : Z1 h ≠ Yn) (hnf : Z1 h ≠ Yi)
 (h2 : r < B) (h4 : cap ≤ maxLen) (hL : L = (h :: ps).length) (h3 : L ≤ cap) (h5 : Yo w r off xs) (h6 : FVs nS w (fun k => k < B) (h :: ps) xs) (hBb : B ≤ b) (hr : RN w b vf k) (hf : LsT w b vf free) (hv1 : LsT w b v1 (Q2 m)) (hv2 : LsT w b v2 (J4 m)) (hm : m.length + 2 * (Tr.list (h :: ps)).depth ≤ 1000) (hfl : free.length ≤ 1000) (hk2 : (plE free m k x).2 ≤ 1000) :
 Calls prog 68 #[.agg #[.string (bs []), .slice (some ⟨r, off, none⟩) L cap], v1, v2, .pointer (some ⟨b, 0, none⟩)] w fun e w' => PlR b B vf (plE free m k x) w e w' := by
 obtain ⟨a, V⟩ := Kt hx
 obtain ⟨hpl1, hpl2⟩ := pl_kids free m k V hx hnl hnf
 have hbw : b < w.heap.size := lt_of_block hr
 have hrlt : r < w.heap.size := by omega
 have hemp := K7
 have e0 : w.cell? ⟨r, off, none⟩ = some (.string (bs (Z1 h))) := by
  obtain ⟨p, m, c, _, q, _⟩ := J0 h6 h5 0 (by simp)
  simpa using q
 have s1 : ((bs (Z1 h)).toList == [108, 101, 116]) = false := by rw [Za]; simpa [Yn] using hnl
 have s2 : ((bs (Z1 h)).toList == [102, 117, 110]) = false := by rw [Za]; simpa [Yi] using hnf
 obtain ⟨K, hK⟩ : ∃ K, K = (Z4 x).length := ⟨_, rfl⟩
 have hLm : L ≤ 9223372036854775807 := by have := Ym h4; omega
 have haK : a + K = L := by rw [hK, hL, V.len]; rfl
 have hKlt : K < L := by have := V.pos; omega
 have hL2 : L ≤ 12000 := by have := Q3 (h :: ps); omega
 have hxl : xs.length = L * 2 := by rw [FVs.length Jw h6, hL]
 have CK : Hid (∀ W, Calls prog 98 #[.string (bs (Z1 h))] W fun e w' => e = .returned (.tuple #[.int .i64 (a : Int), .int .i64 (L : Int)]) ∧ w' = W) := H_ (fun W => Qz _ _ _ (by rw [V.at_, hL]; rfl) W)
 obtain ⟨i0, hi0, hz0, hz1, hz2⟩ := info_parts Tryz.infoT1
 have H1 : Hid (∀ u ∈ xs, u.oneCell' = true) := H_ (FVs.one h6)
 have HP1 := H_ hpl1
 have HP2 := H_ hpl2
 have HV := H_ V
 have HI := H_ ih
 have HKe := H_ hK
 have HaK := H_ haK
 have haL : a ≤ L := by omega
 have hL0 : 0 < L := by omega
 have ROW : Hid (∀ W, Below w.heap.size w W → ∀ j u, xs[j]? = some u → W.cell? ((⟨r, off, none⟩ : Addr).add j) = some u) := H_ (fun W hW j u hj => by
  have e : (⟨r, off, none⟩ : Addr).add j = ⟨r, off + j, none⟩ := by unfold Addr.add; split <;> simp_all
  rw [e]
  exact (hW.cell (p := ⟨r, off + j, none⟩) hrlt).trans (h5 j u hj))
 have HW := H_ hwf
 have HD := H_ hd
 have HBy := H_ hby
 have H6 := H_ h6
 have HLe := H_ hL
 have HRN := H_ hr
 have HF := H_ hf
 have HV1 := H_ hv1
 have HV2 := H_ hv2
 have HM := H_ hm
 have HK2 := H_ hk2
 obtain ⟨p1, c1', ee1, -, -⟩ := id hv1.1
 obtain ⟨p2, c2', ee2, -, -⟩ := id hv2.1
 obtain ⟨l1, hl1⟩ : ∃ l1, l1 = (Q2 m).length := ⟨_, rfl⟩
 obtain ⟨l2, hl2⟩ : ∃ l2, l2 = (J4 m).length := ⟨_, rfl⟩
 rw [← hl1] at ee1
 rw [← hl2] at ee2
 subst ee1 ee2
 clear V hK ih hwf hx haK hL h6 hd hby hnl hnf hpl1 hpl2 hr hf hv1 hv2 hm hk2 hl1 hl2
 go_enter func68, ntmps68
 go_wp2_with (first | (go_at_call 98; go_must (refine (CK.out _).mono ?_; rintro e w5 ⟨rfl, rfl⟩)) | (at_builtin; go_must (refine Qp _ rfl _ _ 45 rfl (w.heap.size + 2) 47 i0 (.agg #[.string ⟨#[]⟩, .slice none 0 0]) 2 40 underlying45 hi0 hz0 hz1 hz2 rfl (by decide) (.slice (some ⟨w.heap.size + 2, 0, none⟩) 0 0) 0 L L (by omega) hL0 [] rfl (V8 (Z1h _ _ _ _) (Nat.le_refl _)) ⟨r, off, none⟩ cap xs rfl hxl (ROW.out _ (by (repeat (first | exact Below.refl _ _ | (refine Below.alloc ?_ (by first | (simp; done) | (simp; omega)) _) | (refine Below.setCell ?_ (by first | (simp; done) | (simp; omega)) _))))) H1.out (Nat.le_trans hL2 (by decide)) (by omega) (by simp) ?_; intro g c1 w1 ho1 hg1 hgg; have x0 : w1.heap[w.heap.size]? = some (.cells #[.string (bs []), .slice (some ⟨r, off, none⟩) L cap] 47 (0, 0)) := Ya hg1 (Zc (Zc (heap_alloc_new _ _))) (by simp [Value.ownBlock]); have x2 : w1.heap[w.heap.size + 1]? = some (.cells #[.string ⟨#[]⟩, .slice none 0 0] 47 (0, 0)) := Ya hg1 (Zc (Zd _ _ _)) (by simp [Value.ownBlock]); have B1 : Below w.heap.size w w1 := Below.grown (by (repeat (first | exact Below.refl _ _ | (refine Below.alloc ?_ (by first | (simp; done) | (simp; omega)) _) | (refine Below.setCell ?_ (by first | (simp; done) | (simp; omega)) _)))) hg1 (by simp; omega) (fun k hk => by simp [Value.ownBlock] at hk; omega); have x3 := heap_alloc_new w1 (.cells #[.string ⟨#[]⟩, .slice (some ⟨g, 0, none⟩) L c1] 47); have y0 := Z8 (j := 1) (Zc (o' := (.cells #[.string ⟨#[]⟩, .slice (some ⟨g, 0, none⟩) L c1] 47)) x0); have y1 : (w1.alloc (.cells #[.string ⟨#[]⟩, .slice (some ⟨g, 0, none⟩) L c1] 47)).cell? ⟨r, off, none⟩ = some (.string (bs (Z1 h))) := ((B1.alloc B1.size (.cells #[.string ⟨#[]⟩, .slice (some ⟨g, 0, none⟩) L c1] 47)).cell (p := ⟨r, off, none⟩) hrlt).trans e0; have hw1 : w.heap.size + 1 < w1.heap.size := lt_of_block x2)))
 go_loopg [15] K (fun q i wr => ∃ (k0 j : Nat) (ys : List Value), q + j = K ∧ Hid (k0 = a + j) ∧ j ≤ K ∧ i = .int .i64 k0 ∧ wr.heap[w.heap.size]? = some (.cells #[.string (bs []), .slice (some ⟨r, off, none⟩) L cap] 47 (0, 0)) ∧ wr.heap[w.heap.size + 1]? = some (.cells #[.string ⟨#[]⟩, .slice none 0 0] 47 (0, 0)) ∧ wr.heap[w1.heap.size]? = some (.cells #[.string ⟨#[]⟩, .slice (some ⟨g, 0, none⟩) L c1] 47 (0, 0)) ∧
  Hid (RN wr b vf (plI free m k (Z4 x) j)) ∧ Hid (wr.ownsRow (w.heap.size + 2) 47 2 (.slice (some ⟨g, 0, none⟩) L c1) L ys) ∧ Hid (FVs nS wr (fun q => q < B ∨ (w1.heap.size < q ∧ q < wr.heap.size)) (Qw (fun j => Z0 (plQ free m k (Z4 x) j)) (h :: ps) a j) ys) ∧ Hid (Only b w wr))
 case atStart =>
  have hb2 := B1.alloc B1.size (.cells #[.string ⟨#[]⟩, .slice (some ⟨g, 0, none⟩) L c1] 47)
  refine ⟨a, 0, xs, by omega, H_ rfl, Nat.zero_le _, rfl, Zc x0, Zc x2, x3, H_ (HRN.out.below hb2), H_ (ho1.alloc _), H_ ?_, H_ (Only.of hb2)⟩
  exact FVs.move (fun k hk => .inl hk) (fun _ _ => rfl) _ _ (FVs.below H6.out hb2 (fun k hk => by omega))
 case round =>
  obtain ⟨k0, j, ys, hq, hkj, hjK, rfl, hb0, hb2, hb3, hrn, ho, hfv, hon⟩ := hrel
  have hN := lt_of_block hb3
  have hN2 := lt_of_block hb2
  have hN0 := lt_of_block hb0
  obtain ⟨v0, v1'⟩ := Zm hb0
  obtain ⟨u0, u1⟩ := Zm hb3
  have hgl0 := (ho.out.lt g rfl)
  have n0 : w.heap.size ≠ b := by omega
  have n1 : w.heap.size + 1 ≠ b := by omega
  have n2 : w1.heap.size ≠ b := by omega
  have n3 : g ≠ b := by omega
  have n4 : r ≠ b := by omega
  by_cases hlt : k0 < L
  · have hjlt : j < K := by have := hkj.out; have := HaK.out; omega
    have hjE : j < (Z4 x).length := by rw [← HKe.out]; exact hjlt
    obtain ⟨tk, p, pn, pc, q1, q2, q3, q4, q5, q6, q7, hbk, q8⟩ := kid_at2 HV.out hkj.out hjE HD.out HW.out HBy.out h5 H6.out
    have hpk := plQ_at free m k (Z4 x) j hjE
    have hpn := plI_succ free m k (Z4 x) j hjE
    obtain ⟨kx, hkx⟩ : ∃ kx, kx = (Z4 x)[j] := ⟨_, rfl⟩
    rw [← hkx] at hpk hpn q7
    obtain ⟨at0, hat0⟩ : ∃ at0, at0 = bs (Z1 tk) := ⟨_, rfl⟩
    rw [← hat0] at q2
    obtain ⟨kn, hkn⟩ : ∃ kn, kn = plI free m k (Z4 x) j := ⟨_, rfl⟩
    rw [← hkn] at hpk hpn
    have hrn' := hrn.out
    rw [← hkn] at hrn'
    have HRj := H_ hrn'
    have hk3 : (plE free m kn kx).2 ≤ 1000 := by rw [← hpn]; exact Nat.le_trans (plI_le free m k (Z4 x) hjE) (by rw [← HP1.out]; exact HK2.out)
    have hkL : k0 < ((h :: ps)).length := by rw [← HLe.out]; exact hlt
    have hmd : (m).length + 2 * tk.depth ≤ 1000 := by
     have h1 := HM.out
     have h2 := Xd hbk
     rw [← q8] at h2
     first | omega | (simp only [List.length_cons]; omega)
    have CP : Hid (∀ (W : World), Only b wr W → RN W b vf kn → Calls prog 68 #[.agg #[.string at0, .slice p pn pc], .slice p1 l1 c1', .slice p2 l2 c2', .pointer (some ⟨b, 0, none⟩)] W fun e w' => PlR b B vf (plE free m kn kx) W e w') := H_ (fun W hW hk => by
     have hW2 := hon.out.trans hW
     have h := HI.out tk kx (nS tk (.slice p pn pc)) (m) kn (.slice p1 l1 c1') (.slice p2 l2 c2') vf b B W q4 q6 q5 q7 (q1.only hW2 (fun k hk => ⟨by omega, by omega⟩)) hBb hk (HF.out.only hW2) (HV1.out.only hW2) (HV2.out.only hW2) hmd hfl hk3
     rw [hat0]
     exact h)
    have S4 : Hid (wr.cell? ⟨r, off + k0 * 2, none⟩ = some (.string at0) ∧ wr.cell? ⟨r, off + k0 * 2 + 1, none⟩ = some (.slice p pn pc)) := H_ ⟨(hon.out.cell (p := ⟨r, off + k0 * 2, none⟩) hrlt n4).trans q2, (hon.out.cell (p := ⟨r, off + k0 * 2 + 1, none⟩) hrlt n4).trans q3⟩
    have HST : Hid (Qw (fun j => Z0 (plQ free m k (Z4 x) j)) (h :: ps) a (j + 1) = (Qw (fun j => Z0 (plQ free m k (Z4 x) j)) (h :: ps) a j).set k0 (Z0 (plE free m kn kx).1)) := H_ (by simp only [Qw, hpk]; rw [hkj.out])
    have HPN := H_ hpn
    have HLS : Hid (k0 < (Qw (fun j => Z0 (plQ free m k (Z4 x) j)) (h :: ps) a j).length) := H_ (by rw [Kf]; exact hkL)
    have hk0 : (0 : Int) ≤ (k0 : Int) := Int.natCast_nonneg _
    clear hpk hpn q7 q1 q2 q3 q4 q5 q6 q8 hbk hkx hat0 hkn hrn' hmd hk3
    have hk1 : (k0 : Int) < (L : Int) := by omega
    have hL63 : (L : Int) < 9223372036854775808 := by omega
    obtain ⟨cur, hcur, hc0, hc1, hc2⟩ := own_row ho.out
    obtain ⟨d0, hd0⟩ : ∃ d0, cur[k0 * 2]? = some d0 := ⟨_, Array.getElem?_eq_getElem (by omega)⟩
    obtain ⟨d1, hd1⟩ : ∃ d1, cur[k0 * 2 + 1]? = some d1 := ⟨_, Array.getElem?_eq_getElem (by omega)⟩
    have hgl := lt_of_block hcur
    have hrwr : r < wr.heap.size := Nat.lt_trans hrlt hN0
    have KS : Hid (∀ W, Only b wr W → (fun W => W.cell? ⟨w1.heap.size, 1, none⟩ = some (.slice (some ⟨g, 0, none⟩) L c1) ∧ W.cell? ⟨w.heap.size, 1, none⟩ = some (.slice (some ⟨r, off, none⟩) L cap) ∧ W.cell? ⟨r, off + k0 * 2, none⟩ = some (.string at0) ∧ W.cell? ⟨r, off + k0 * 2 + 1, none⟩ = some (.slice p pn pc) ∧ W.cell? ⟨g, k0 * 2, none⟩ = some d0 ∧ W.cell? ⟨g, k0 * 2 + 1, none⟩ = some d1 ∧ W.frozen? ⟨g, k0 * 2, none⟩ = false ∧ W.frozen? ⟨g, k0 * 2 + 1, none⟩ = false) W) := H_ (fun W hW => ⟨(hW.cell hN n2).trans u1, (hW.cell hN0 n0).trans v1', (hW.cell (p := ⟨r, off + k0 * 2, none⟩) hrwr n4).trans S4.out.1, (hW.cell (p := ⟨r, off + k0 * 2 + 1, none⟩) hrwr n4).trans S4.out.2, (Z8 (hW.blk hcur n3)).trans hd0, (Z8 (hW.blk hcur n3)).trans hd1, Yg (hW.blk hcur n3), Yg (hW.blk hcur n3)⟩)
    have hD : Only b wr wr.drew := (Only.refl b wr).drew
    have hRD : RN wr.drew b vf kn := HRj.out
    have S0 := H_ (KS.out _ hD)
    clear hrn v0 u0
    go_wp2_with fail
    obtain ⟨s1, s2, s3, s4, s7, s8, s9, s10⟩ := S0.out
    first | (go_region_with (first | (go_at_call 68; (with_reducible refine (CP.out _ hD hRD).mono ?_); rintro e w6 ⟨⟨p5, m5, c5, rfl, hv5⟩, hn6, ho6⟩; have h6 := Only.trans hD ho6; obtain ⟨m1, m2, m3, m4, m7, m8, m9, m10⟩ := KS.out _ h6))) | fail
    all_goals
     go_wp2_with fail
     go_roundg (gk - 1)
     case measure => omega
     case rel =>
      have hs6 := h6.size
      have hs7 := ho6.size
      have hgw1 := (ho1.lt g rfl).2
      have hz0 := hon.out.size
      refine ⟨k0 + 1, j + 1, (ys.set (k0 * 2) (.string (bs (Z1 (Z0 (plE free m kn kx).1))))).set (k0 * 2 + 1) (.slice p5 m5 c5), by omega, H_ (by rw [hkj.out]; omega), by omega, by go_num, ?_, ?_, ?_, H_ ?_, H_ ?_, H_ ?_, H_ ?_⟩
      · rw [Z2 _ (by show w.heap.size ≠ g; omega), Z2 _ (by show w.heap.size ≠ g; omega)]; exact h6.blk hb0 n0
      · rw [Z2 _ (by show w.heap.size + 1 ≠ g; omega), Z2 _ (by show w.heap.size + 1 ≠ g; omega)]; exact h6.blk hb2 n1
      · rw [Z2 _ (by show w1.heap.size ≠ g; omega), Z2 _ (by show w1.heap.size ≠ g; omega)]; exact h6.blk hb3 n2
      · rw [HPN.out]
        unfold RN
        rw [Z2 _ (by show b ≠ g; omega), Z2 _ (by show b ≠ g; omega)]; exact hn6
      · exact own_set (Z0e ho.out h6 n3) _ _ _
      · rw [HST.out]
        refine FVs.setS (FVs.move (fun q hq => hq.imp id (fun h => ⟨h.1, by simp; omega⟩)) (fun q hq => ?_) _ _ hfv.out) k0 HLS.out (FV.move (fun q hq => hq.imp id (fun h => ⟨by have := h.1; simp at this; omega, by simp; omega⟩)) (fun q hq => ?_) _ _ hv5)
        · rw [Z2 _ (by show q ≠ g; omega), Z2 _ (by show q ≠ g; omega)]; exact h6.block q (by omega) (by omega)
        · have hq' : q ≠ g := by
           rcases hq with h | ⟨h, -⟩
           · omega
           · simp at h; omega
          rw [Z2 _ (by show q ≠ g; exact hq'), Z2 _ (by show q ≠ g; exact hq')]
      · exact ((hon.out.trans h6).setNew (by show w.heap.size ≤ g; omega) _).setNew (by show w.heap.size ≤ g; omega) _
  · have hjK2 : j = K := by have := hkj.out; have := HaK.out; omega
    subst hjK2
    have hF : Hid (∀ w', w'.heap.size = wr.heap.size → (∀ q, q ≠ w.heap.size + 1 → w'.heap[q]? = wr.heap[q]?) → Only b w w' → PlR b B vf (plE free m k x) w (.returned (.agg #[.string ⟨#[]⟩, .slice (some ⟨g, 0, none⟩) L c1])) w') := H_ (fun w' h1 h2 h3 => pl_done (O := w1.heap.size) (base := w.heap.size + 2) (rb := w.heap.size + 1) HP2.out (by rw [Kf]; exact HLe.out.symm) (by omega) (by omega) ho.out (by omega) (by omega) (by omega) (by rw [← HKe.out]; exact hfv.out) h1 h2 (by rw [HP1.out, ← HKe.out]; unfold RN; rw [h2 b (by omega)]; exact hrn.out) h3)
    obtain ⟨f0, f1⟩ := X3 hb2
    obtain ⟨r0, r1⟩ := Zm hb2
    clear hfv ho hrn
    go_wp2_with fail
    have kk := X5 (j := 1) (X5 (j := 0) hb2 (.string ⟨#[]⟩)) (.slice (some ⟨g, 0, none⟩) L c1)
    obtain ⟨k0, k1⟩ := Zm kk
    refine bodyPost_ret (v := .agg #[.string ⟨#[]⟩, .slice (some ⟨g, 0, none⟩) L c1]) (by simp [results, results68, go_sem, k0, k1]) rfl ?_
    refine hF.out _ (by simp) (fun q hq => ?_) ?_
    · rw [Z2 _ (by simpa using hq), Z2 _ (by simpa using hq)]
    · exact (hon.out.setNew (by simp) _).setNew (by simp) _
end Go.Proofs.YtjaaalojcdbcpaaGreatDoor
