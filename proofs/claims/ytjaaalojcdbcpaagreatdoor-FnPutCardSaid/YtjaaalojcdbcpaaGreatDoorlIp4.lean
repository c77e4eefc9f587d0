/- The program: a binding and a function are made plain. -/
import Derived.Test.YtjaaalojcdbcpaaGreatDoorlIp3
set_option maxHeartbeats 20000000
set_option linter.unusedVariables false
set_option linter.unusedSimpArgs false
namespace Go.Proofs.YtjaaalojcdbcpaaGreatDoor
open Go.RowKit Go.Proofs.Tryz
set_option maxRecDepth 8000
theorem giveK {free : List Nm} {m : List (Nm × Nm)} {bound vf : Value} {b k : Nat} {w : World} (hp : PnW free m bound vf b w) (hn : NMk w b vf k) (hk : k ≤ 200) :
 Calls prog 122 #[.pointer (some ⟨b, 0, none⟩)] w fun e w' => e = .returned (.string (bs (Zd (Zk free k)))) ∧ NMk w' b vf (Zk free k + 1) ∧ Only b w w' := by
 obtain ⟨g, hg, hr⟩ := hn
 have hf := (Qe free k).1
 exact (give_c b vf free k g w hr hp.str hp.fb hp.len (by omega) (by omega) hp.tb).mono fun e w' ⟨h1, h2, h3⟩ => ⟨h1, ⟨g + 1, by omega, h2⟩, h3⟩
theorem PnW.bind {free : List Nm} {m : List (Nm × Nm)} {vf : Value} {b : Nat} {pb : Option Addr} {w : World} (hp : PnW free m (.pointer pb) vf b w) (x y : Nm) (hb : b < w.heap.size) : PnW free ((x, y) :: m) (.pointer (some ⟨w.heap.size, 0, none⟩)) vf b (w.alloc (.cells #[.string (bs x), .string (bs y), .pointer pb] 149)) := by
 have h := hp.only (Only.of (Z5 w (.cells #[.string (bs x), .string (bs y), .pointer pb] 149)))
 exact ⟨h.str, h.fb, ⟨w.heap.size, .pointer pb, rfl, ⟨by omega, by simp⟩, heap_alloc_new _ _, h.rn⟩, h.tb, h.len⟩
theorem pn_let (free : List Nm) (s : Nm) (a c : Ex) (iha : PnC free a) (ihc : PnC free c) : PnC free (.lete s a c) := by
 intro m k v bound vf b B w hv hB hp hn h2
 obtain ⟨pb, rfl⟩ := hp.rn.ptr
 simp only [EV] at hv
 obtain ⟨x, y, rfl, hx, hy⟩ := hv
 obtain ⟨Tx, ux, rfl⟩ := hx.iface
 obtain ⟨Ty, uy, rfl⟩ := hy.iface
 have hbl := hn.lt
 obtain ⟨i, hi⟩ : ∃ i, i = Zk free k := ⟨_, rfl⟩
 obtain ⟨fa, k1, h1⟩ : ∃ fa k1, plE free m (i + 1) a = (fa, k1) := ⟨_, _, rfl⟩
 obtain ⟨fc, k2, h3⟩ : ∃ fc k2, plE free ((s, Zd i) :: m) k1 c = (fc, k2) := ⟨_, _, rfl⟩
 have hE : plE free m k (.lete s a c) = (.lete (Zd i) fa fc, k2) := by simp only [plE, ← hi, h1, h3]
 rw [hE] at h2
 unfold Ju
 rw [hE]
 have hk1 : k1 ≤ 200 := by have h := Vp free ((s, Zd i) :: m) k1 c; rw [h3] at h; exact Nat.le_trans h h2
 have hk2 : k2 ≤ 200 := h2
 have hi1 : i + 1 ≤ 200 := by have h := Vp free m (i + 1) a; rw [h1] at h; exact Nat.le_trans h hk1
 have hk0 : k ≤ 200 := by have h := (Qe free k).1; rw [← hi] at h; omega
 obtain ⟨wa, hwa⟩ : ∃ wa, wa = (((w.alloc (.cells #[.pointer (some ⟨b, 0, none⟩)] 146)).alloc (.cells #[.pointer pb] 147)).alloc (.cells #[.string (bs s), .iface Tx ux, .iface Ty uy] 105)) := ⟨_, rfl⟩
 have hbw : Below w.heap.size w wa := by rw [hwa]; exact Qf _ _ _ _
 have hza : wa.heap.size = w.heap.size + 1 + 1 + 1 := by rw [hwa]; simp
 have y0 : wa.heap[w.heap.size]? = some (.cells #[.pointer (some ⟨b, 0, none⟩)] 146 (0, 0)) := by rw [hwa]; exact (Yz w _ _ _).1
 have y1 : wa.heap[w.heap.size + 1]? = some (.cells #[.pointer pb] 147 (0, 0)) := by rw [hwa]; exact (Yz w _ _ _).2.1
 have y2 : wa.heap[w.heap.size + 2]? = some (.cells #[.string (bs s), .iface Tx ux, .iface Ty uy] 105 (0, 0)) := by rw [hwa]; exact (Yz w _ _ _).2.2
 have hOa : Only b w wa := Only.of hbw
 have hpa := H_ (hp.only hOa)
 have hna := H_ (hn.below hbw)
 have hxa := H_ (hx.onlyI hB (by omega) hOa)
 have hya := H_ (hy.onlyI hB (by omega) hOa)
 have HOa := H_ hOa
 have CG := H_ (fun W (hW : Only b wa W) (hk : NMk W b vf k) => giveK (hpa.out.only hW) hk hk0)
 unfold Hid at CG
 rw [← hi] at CG
 have CG := H_ CG
 obtain ⟨X, hX⟩ : ∃ X, X = bs (Zd i) := ⟨_, rfl⟩
 have HX := H_ hX
 unfold Hid at CG
 rw [← hX] at CG
 have CG := H_ CG
 have n0 : w.heap.size ≠ b := by omega
 have n1 : w.heap.size + 1 ≠ b := by omega
 have n2 : w.heap.size + 2 ≠ b := by omega
 have hBa : B ≤ wa.heap.size := by omega
 clear hp hn hx hy hOa hbw hX hi hE h2 hk0
 go_enter func71, ntmps71
 go_wp2_with fail
 rw [← hwa]
 clear hwa
 generalize hB0 : w.heap.size = B0 at *
 have K : Hid (∀ W, Only b wa W → (fun W => Only b wa W ∧ W.cell? ⟨B0, 0, none⟩ = some (.pointer (some ⟨b, 0, none⟩)) ∧ W.cell? ⟨B0 + 1, 0, none⟩ = some (.pointer pb) ∧ W.cell? ⟨B0 + 2, 0, none⟩ = some (.string (bs s)) ∧ W.cell? ⟨B0 + 2, 1, none⟩ = some (.iface Tx ux) ∧ W.cell? ⟨B0 + 2, 2, none⟩ = some (.iface Ty uy)) W) := H_ (fun W hW => ⟨hW, Z4 (hW.blk y0 n0), Z4 (hW.blk y1 n1), Z4 (hW.blk y2 n2), Z4 (hW.blk y2 n2), Z4 (hW.blk y2 n2)⟩)
 have hD0 : Only b wa wa.drew := (Only.refl b wa).drew
 have hN0 : NMk wa.drew b vf k := hna.out.other rfl
 have S0 := H_ (K.out _ hD0)
 first | (go_region_held3 (fun W => Only b wa W ∧ W.cell? ⟨B0, 0, none⟩ = some (.pointer (some ⟨b, 0, none⟩)) ∧ W.cell? ⟨B0 + 1, 0, none⟩ = some (.pointer pb) ∧ W.cell? ⟨B0 + 2, 0, none⟩ = some (.string (bs s)) ∧ W.cell? ⟨B0 + 2, 1, none⟩ = some (.iface Tx ux) ∧ W.cell? ⟨B0 + 2, 2, none⟩ = some (.iface Ty uy)) (first | exact S0.out | assumption | exact K.out _ (Only.alloc (And.left (by assumption)) _) | fail) (first | (go_at_call 122; (with_reducible refine (CG.out _ hD0 hN0).mono ?_); rintro e w5 ⟨rfl, hN5, hO5⟩; have hQ5 := hD0.trans hO5; have hK5 := K.out _ hQ5))) | fail
 all_goals
  have hbb := Z5 w5 (.cells #[.string (bs s), .string X, .pointer pb] 149)
  have hP5 := (hpa.out.only hQ5).bind s (Zd i) hN5.lt
  rw [← HX.out] at hP5
  have yR := heap_alloc_new w5 (.cells #[.string (bs s), .string X, .pointer pb] 149)
  have hQb : Only b wa (w5.alloc (.cells #[.string (bs s), .string X, .pointer pb] 149)) := hQ5.alloc _
  have hNb := H_ (hN5.below hbb)
  have hw5 : w5.heap.size ≠ b := by have := hN5.lt; omega
  generalize hwb : w5.alloc (.cells #[.string (bs s), .string X, .pointer pb] 149) = wb at *
  have hPb := H_ hP5
  have C1 : Hid (∀ W, Only b wb W → NMk W b vf (i + 1) → Calls prog 71 #[.pointer (some ⟨b, 0, none⟩), .iface Tx ux, .pointer pb] W fun e w' => (∃ S t, e = .returned (.iface S t) ∧ EV w' (fun k => k < B) fa (.iface S t)) ∧ NMk w' b vf k1 ∧ Only b W w') := H_ (fun W hW hk => by
   have h := iha m (i + 1) (.iface Tx ux) (.pointer pb) vf b B W (hxa.out.onlyI hB hBa (hQb.trans hW)) hB (hpa.out.only (hQb.trans hW)) hk (by rw [h1]; exact hk1)
   unfold Ju at h
   rw [h1] at h
   exact h)
  have C2 : Hid (∀ W, Only b wb W → NMk W b vf k1 → Calls prog 71 #[.pointer (some ⟨b, 0, none⟩), .iface Ty uy, .pointer (some ⟨w5.heap.size, 0, none⟩)] W fun e w' => (∃ S t, e = .returned (.iface S t) ∧ EV w' (fun k => k < B) fc (.iface S t)) ∧ NMk w' b vf k2 ∧ Only b W w') := H_ (fun W hW hk => by
   have h := ihc ((s, Zd i) :: m) k1 (.iface Ty uy) (.pointer (some ⟨w5.heap.size, 0, none⟩)) vf b B W (hya.out.onlyI hB hBa (hQb.trans hW)) hB (hPb.out.only hW) hk (by rw [h3]; exact hk2)
   unfold Ju at h
   rw [h3] at h
   exact h)
  have K2 : Hid (∀ W, Only b wb W → (fun W => Only b wb W ∧ W.cell? ⟨B0, 0, none⟩ = some (.pointer (some ⟨b, 0, none⟩)) ∧ W.cell? ⟨B0 + 1, 0, none⟩ = some (.pointer pb) ∧ W.cell? ⟨B0 + 2, 1, none⟩ = some (.iface Tx ux) ∧ W.cell? ⟨B0 + 2, 2, none⟩ = some (.iface Ty uy) ∧ W.cell? ⟨w5.heap.size, 1, none⟩ = some (.string X)) W) := H_ (fun W hW => by
   have h := K.out _ (hQb.trans hW)
   exact ⟨hW, h.2.1, h.2.2.1, h.2.2.2.2.1, h.2.2.2.2.2, Z4 (hW.blk yR hw5)⟩)
  have hDb : Only b wb wb.drew := (Only.refl b wb).drew
  have hNd : NMk wb.drew b vf (i + 1) := hNb.out.other rfl
  have S2 := H_ (K2.out _ hDb)
  have hBb : B ≤ wb.heap.size := Nat.le_trans hBa hQb.size
  have HOb := H_ (HOa.out.trans hQb)
  clear K S0 hP5 yR hwb hbb CG h1 h3
  go_wp2_with fail
  first | (go_region_held3 (fun W => Only b wb W ∧ W.cell? ⟨B0, 0, none⟩ = some (.pointer (some ⟨b, 0, none⟩)) ∧ W.cell? ⟨B0 + 1, 0, none⟩ = some (.pointer pb) ∧ W.cell? ⟨B0 + 2, 1, none⟩ = some (.iface Tx ux) ∧ W.cell? ⟨B0 + 2, 2, none⟩ = some (.iface Ty uy) ∧ W.cell? ⟨w5.heap.size, 1, none⟩ = some (.string X)) (first | exact S2.out | assumption | fail) (first | (go_at_call_of 71 (Value.iface Tx ux); (with_reducible refine (C1.out _ hDb hNd).mono ?_); rintro e w6 ⟨⟨S1, t1, rfl, hx1⟩, hN6, hO6⟩; have hQ6 := hDb.trans hO6; have hK6 := K2.out _ hQ6) | (go_at_call_of 71 (Value.iface Ty uy); (with_reducible refine (C2.out _ hQ6 hN6).mono ?_); rintro e w7 ⟨⟨S2', t2, rfl, hx2⟩, hN7, hO7⟩; have hQ7 := hQ6.trans hO7; have hK7 := K2.out _ hQ7))) | fail
  all_goals
   go_wp2_with fail
   go_ret
   exact ⟨⟨_, _, rfl, _, _, by rw [← HX.out], hx1.onlyI hB (by have := hQ6.size; omega) hO7, hx2⟩, hN7, HOb.out.trans hQ7⟩
theorem pn_fun (free : List Nm) (f z : Nm) (At Bt : Tr) (c : Ex) (ihc : PnC free c) : PnC free (.func f z At Bt c) := by
 intro m k v bound vf b B w hv hB hp hn h2
 obtain ⟨pb, rfl⟩ := hp.rn.ptr
 simp only [EV] at hv
 obtain ⟨pa, na, ca, pq, nq, cq, y, rfl, hA, hBt, hy⟩ := hv
 obtain ⟨Ty, uy, rfl⟩ := hy.iface
 obtain ⟨la, lb, lc, ld, -, -, -, -, hnA⟩ := Jo At
 obtain ⟨ma, mb, mc, md, -, -, -, -, hnB⟩ := Jo Bt
 have HnA := H_ hnA
 have HnB := H_ hnB
 rw [hnA, hnB]
 simp only [List.cons_append, List.nil_append]
 have hbl := hn.lt
 obtain ⟨i, hi⟩ : ∃ i, i = Zk free k := ⟨_, rfl⟩
 obtain ⟨j, hj⟩ : ∃ j, j = Zk free (i + 1) := ⟨_, rfl⟩
 obtain ⟨fc, k2, h3⟩ : ∃ fc k2, plE free ((z, Zd j) :: (f, Zd i) :: m) (j + 1) c = (fc, k2) := ⟨_, _, rfl⟩
 have hE : plE free m k (.func f z At Bt c) = (.func (Zd i) (Zd j) At Bt fc, k2) := by simp only [plE, ← hi, ← hj, h3]
 rw [hE] at h2
 unfold Ju
 rw [hE]
 have hk2 : k2 ≤ 200 := h2
 have hj1 : j + 1 ≤ 200 := by have h := Vp free ((z, Zd j) :: (f, Zd i) :: m) (j + 1) c; rw [h3] at h; exact Nat.le_trans h h2
 have hi1 : i + 1 ≤ 200 := by have h := (Qe free (i + 1)).1; rw [← hj] at h; omega
 have hk0 : k ≤ 200 := by have h := (Qe free k).1; rw [← hi] at h; omega
 obtain ⟨wa, hwa⟩ : ∃ wa, wa = (((w.alloc (.cells #[.pointer (some ⟨b, 0, none⟩)] 146)).alloc (.cells #[.pointer pb] 147)).alloc (.cells #[.string (bs f), .string (bs z), .string la, .slice pa na ca, .int .i64 lb, .int .i64 lc, .int .i64 ld, .string ma, .slice pq nq cq, .int .i64 mb, .int .i64 mc, .int .i64 md, .iface Ty uy] 107)) := ⟨_, rfl⟩
 have hbw : Below w.heap.size w wa := by rw [hwa]; exact Qf _ _ _ _
 have hza : wa.heap.size = w.heap.size + 1 + 1 + 1 := by rw [hwa]; simp
 have y0 : wa.heap[w.heap.size]? = some (.cells #[.pointer (some ⟨b, 0, none⟩)] 146 (0, 0)) := by rw [hwa]; exact (Yz w _ _ _).1
 have y1 : wa.heap[w.heap.size + 1]? = some (.cells #[.pointer pb] 147 (0, 0)) := by rw [hwa]; exact (Yz w _ _ _).2.1
 have y2 : wa.heap[w.heap.size + 2]? = some (.cells #[.string (bs f), .string (bs z), .string la, .slice pa na ca, .int .i64 lb, .int .i64 lc, .int .i64 ld, .string ma, .slice pq nq cq, .int .i64 mb, .int .i64 mc, .int .i64 md, .iface Ty uy] 107 (0, 0)) := by rw [hwa]; exact (Yz w _ _ _).2.2
 have hOa : Only b w wa := Only.of hbw
 have hpa := H_ (hp.only hOa)
 have hna := H_ (hn.below hbw)
 have hya := H_ (hy.onlyI hB (by omega) hOa)
 have HA := H_ (fun w' (h : Only b w w') => FV.move (nd := nI) (ok := fun k => k < B) (ok' := fun k => k < B) (fun _ h => h) (fun q hq => h.block q (by omega) (by omega)) _ _ hA)
 have HBt := H_ (fun w' (h : Only b w w') => FV.move (nd := nI) (ok := fun k => k < B) (ok' := fun k => k < B) (fun _ h => h) (fun q hq => h.block q (by omega) (by omega)) _ _ hBt)
 have HOa := H_ hOa
 have CG := H_ (fun W (hW : Only b wa W) (hk : NMk W b vf k) => giveK (hpa.out.only hW) hk hk0)
 have CG2 := H_ (fun W (hW : Only b wa W) (hk : NMk W b vf (i + 1)) => giveK (hpa.out.only hW) hk hi1)
 obtain ⟨X, hX⟩ : ∃ X, X = bs (Zd i) := ⟨_, rfl⟩
 obtain ⟨Y, hY⟩ : ∃ Y, Y = bs (Zd j) := ⟨_, rfl⟩
 have HX := H_ hX
 have HY := H_ hY
 unfold Hid at CG CG2
 rw [← hi, ← hX] at CG
 rw [← hj, ← hY] at CG2
 have CG := H_ CG
 have CG2 := H_ CG2
 have n0 : w.heap.size ≠ b := by omega
 have n1 : w.heap.size + 1 ≠ b := by omega
 have n2 : w.heap.size + 2 ≠ b := by omega
 have hBa : B ≤ wa.heap.size := by omega
 clear hp hn hy hA hBt hOa hbw hX hY hi hj hE h2 hk0 hnA hnB
 go_enter func71, ntmps71
 go_wp2_with fail
 rw [← hwa]
 clear hwa
 generalize hB0 : w.heap.size = B0 at *
 have K : Hid (∀ W, Only b wa W → (fun W => Only b wa W ∧ W.cell? ⟨B0, 0, none⟩ = some (.pointer (some ⟨b, 0, none⟩)) ∧ W.cell? ⟨B0 + 1, 0, none⟩ = some (.pointer pb) ∧ W.cell? ⟨B0 + 2, 0, none⟩ = some (.string (bs f)) ∧ W.cell? ⟨B0 + 2, 1, none⟩ = some (.string (bs z)) ∧ W.cell? ⟨B0 + 2, 2, none⟩ = some (.string la) ∧ W.cell? ⟨B0 + 2, 3, none⟩ = some (.slice pa na ca) ∧ W.cell? ⟨B0 + 2, 4, none⟩ = some (.int .i64 lb) ∧ W.cell? ⟨B0 + 2, 5, none⟩ = some (.int .i64 lc) ∧ W.cell? ⟨B0 + 2, 6, none⟩ = some (.int .i64 ld) ∧ W.cell? ⟨B0 + 2, 7, none⟩ = some (.string ma) ∧ W.cell? ⟨B0 + 2, 8, none⟩ = some (.slice pq nq cq) ∧ W.cell? ⟨B0 + 2, 9, none⟩ = some (.int .i64 mb) ∧ W.cell? ⟨B0 + 2, 10, none⟩ = some (.int .i64 mc) ∧ W.cell? ⟨B0 + 2, 11, none⟩ = some (.int .i64 md) ∧ W.cell? ⟨B0 + 2, 12, none⟩ = some (.iface Ty uy)) W) := H_ (fun W hW => by have q := hW.blk y2 n2; exact ⟨hW, Z4 (hW.blk y0 n0), Z4 (hW.blk y1 n1), Z4 q, Z4 q, Z4 q, Z4 q, Z4 q, Z4 q, Z4 q, Z4 q, Z4 q, Z4 q, Z4 q, Z4 q, Z4 q⟩)
 have hD0 : Only b wa wa.drew := (Only.refl b wa).drew
 have hN0 : NMk wa.drew b vf k := hna.out.other rfl
 have S0 := H_ (K.out _ hD0)
 first | (go_region_held3 (fun W => Only b wa W ∧ W.cell? ⟨B0, 0, none⟩ = some (.pointer (some ⟨b, 0, none⟩)) ∧ W.cell? ⟨B0 + 1, 0, none⟩ = some (.pointer pb) ∧ W.cell? ⟨B0 + 2, 0, none⟩ = some (.string (bs f)) ∧ W.cell? ⟨B0 + 2, 1, none⟩ = some (.string (bs z)) ∧ W.cell? ⟨B0 + 2, 2, none⟩ = some (.string la) ∧ W.cell? ⟨B0 + 2, 3, none⟩ = some (.slice pa na ca) ∧ W.cell? ⟨B0 + 2, 4, none⟩ = some (.int .i64 lb) ∧ W.cell? ⟨B0 + 2, 5, none⟩ = some (.int .i64 lc) ∧ W.cell? ⟨B0 + 2, 6, none⟩ = some (.int .i64 ld) ∧ W.cell? ⟨B0 + 2, 7, none⟩ = some (.string ma) ∧ W.cell? ⟨B0 + 2, 8, none⟩ = some (.slice pq nq cq) ∧ W.cell? ⟨B0 + 2, 9, none⟩ = some (.int .i64 mb) ∧ W.cell? ⟨B0 + 2, 10, none⟩ = some (.int .i64 mc) ∧ W.cell? ⟨B0 + 2, 11, none⟩ = some (.int .i64 md) ∧ W.cell? ⟨B0 + 2, 12, none⟩ = some (.iface Ty uy)) (first | exact S0.out | assumption | exact K.out _ (Only.alloc (And.left (by assumption)) _) | fail) (first | (go_at_call 122; (with_reducible refine (CG.out _ hD0 hN0).mono ?_); rintro e w5 ⟨rfl, hN5, hO5⟩; have hQ5 := hD0.trans hO5; have hK5 := K.out _ hQ5))) | fail
 all_goals
  have hP5 := (hpa.out.only hQ5).bind f (Zd i) hN5.lt
  rw [← HX.out] at hP5
  have yR := heap_alloc_new w5 (.cells #[.string (bs f), .string X, .pointer pb] 149)
  have hQb : Only b wa (w5.alloc (.cells #[.string (bs f), .string X, .pointer pb] 149)) := hQ5.alloc _
  have hNb := H_ (hN5.below (Z5 w5 (.cells #[.string (bs f), .string X, .pointer pb] 149)))
  have hw5 : w5.heap.size ≠ b := by have := hN5.lt; omega
  generalize hwb : w5.alloc (.cells #[.string (bs f), .string X, .pointer pb] 149) = wb at *
  have hPb := H_ hP5
  have hDb : Only b wb wb.drew := (Only.refl b wb).drew
  have hNd : NMk wb.drew b vf (i + 1) := hNb.out.other rfl
  have K2 : Hid (∀ W, Only b wb W → (fun W => Only b wb W ∧ (W.cell? ⟨B0, 0, none⟩ = some (.pointer (some ⟨b, 0, none⟩)) ∧ W.cell? ⟨B0 + 1, 0, none⟩ = some (.pointer pb) ∧ W.cell? ⟨B0 + 2, 0, none⟩ = some (.string (bs f)) ∧ W.cell? ⟨B0 + 2, 1, none⟩ = some (.string (bs z)) ∧ W.cell? ⟨B0 + 2, 2, none⟩ = some (.string la) ∧ W.cell? ⟨B0 + 2, 3, none⟩ = some (.slice pa na ca) ∧ W.cell? ⟨B0 + 2, 4, none⟩ = some (.int .i64 lb) ∧ W.cell? ⟨B0 + 2, 5, none⟩ = some (.int .i64 lc) ∧ W.cell? ⟨B0 + 2, 6, none⟩ = some (.int .i64 ld) ∧ W.cell? ⟨B0 + 2, 7, none⟩ = some (.string ma) ∧ W.cell? ⟨B0 + 2, 8, none⟩ = some (.slice pq nq cq) ∧ W.cell? ⟨B0 + 2, 9, none⟩ = some (.int .i64 mb) ∧ W.cell? ⟨B0 + 2, 10, none⟩ = some (.int .i64 mc) ∧ W.cell? ⟨B0 + 2, 11, none⟩ = some (.int .i64 md) ∧ W.cell? ⟨B0 + 2, 12, none⟩ = some (.iface Ty uy)) ∧ W.cell? ⟨w5.heap.size, 1, none⟩ = some (.string X)) W) := H_ (fun W hW => by
   have h := K.out _ (hQb.trans hW)
   obtain ⟨-, h⟩ := h
   exact ⟨hW, h, Z4 (hW.blk yR hw5)⟩)
  have S2 := H_ (K2.out _ hDb)
  have HQb := H_ hQb
  clear S0 hP5 hwb CG hK5
  go_wp2_with fail
  first | (go_region_held3 (fun W => Only b wb W ∧ (W.cell? ⟨B0, 0, none⟩ = some (.pointer (some ⟨b, 0, none⟩)) ∧ W.cell? ⟨B0 + 1, 0, none⟩ = some (.pointer pb) ∧ W.cell? ⟨B0 + 2, 0, none⟩ = some (.string (bs f)) ∧ W.cell? ⟨B0 + 2, 1, none⟩ = some (.string (bs z)) ∧ W.cell? ⟨B0 + 2, 2, none⟩ = some (.string la) ∧ W.cell? ⟨B0 + 2, 3, none⟩ = some (.slice pa na ca) ∧ W.cell? ⟨B0 + 2, 4, none⟩ = some (.int .i64 lb) ∧ W.cell? ⟨B0 + 2, 5, none⟩ = some (.int .i64 lc) ∧ W.cell? ⟨B0 + 2, 6, none⟩ = some (.int .i64 ld) ∧ W.cell? ⟨B0 + 2, 7, none⟩ = some (.string ma) ∧ W.cell? ⟨B0 + 2, 8, none⟩ = some (.slice pq nq cq) ∧ W.cell? ⟨B0 + 2, 9, none⟩ = some (.int .i64 mb) ∧ W.cell? ⟨B0 + 2, 10, none⟩ = some (.int .i64 mc) ∧ W.cell? ⟨B0 + 2, 11, none⟩ = some (.int .i64 md) ∧ W.cell? ⟨B0 + 2, 12, none⟩ = some (.iface Ty uy)) ∧ W.cell? ⟨w5.heap.size, 1, none⟩ = some (.string X)) (first | exact S2.out | assumption | exact K2.out _ (Only.alloc (And.left (by assumption)) _) | fail) (first | (go_at_call 122; (with_reducible refine (CG2.out _ (HQb.out.trans hDb) hNd).mono ?_); rintro e w6 ⟨rfl, hN6, hO6⟩; have hQ6 := hDb.trans hO6; have hK6 := K2.out _ hQ6))) | fail
  all_goals
   have hP6 := (hPb.out.only hQ6).bind z (Zd j) hN6.lt
   rw [← HY.out] at hP6
   have yR2 := heap_alloc_new w6 (.cells #[.string (bs z), .string Y, .pointer (some ⟨w5.heap.size, 0, none⟩)] 149)
   have hQc : Only b wb (w6.alloc (.cells #[.string (bs z), .string Y, .pointer (some ⟨w5.heap.size, 0, none⟩)] 149)) := hQ6.alloc _
   have hNc := H_ (hN6.below (Z5 w6 (.cells #[.string (bs z), .string Y, .pointer (some ⟨w5.heap.size, 0, none⟩)] 149)))
   have hw6 : w6.heap.size ≠ b := by have := hN6.lt; omega
   generalize hwc : w6.alloc (.cells #[.string (bs z), .string Y, .pointer (some ⟨w5.heap.size, 0, none⟩)] 149) = wc at *
   have hPc := H_ hP6
   have C2 : Hid (∀ W, Only b wc W → NMk W b vf (j + 1) → Calls prog 71 #[.pointer (some ⟨b, 0, none⟩), .iface Ty uy, .pointer (some ⟨w6.heap.size, 0, none⟩)] W fun e w' => (∃ S t, e = .returned (.iface S t) ∧ EV w' (fun k => k < B) fc (.iface S t)) ∧ NMk w' b vf k2 ∧ Only b W w') := H_ (fun W hW hk => by
    have h := ihc ((z, Zd j) :: (f, Zd i) :: m) (j + 1) (.iface Ty uy) (.pointer (some ⟨w6.heap.size, 0, none⟩)) vf b B W (hya.out.onlyI hB hBa (HQb.out.trans (hQc.trans hW))) hB (hPc.out.only hW) hk (by rw [h3]; exact hk2)
    unfold Ju at h
    rw [h3] at h
    exact h)
   have hDc : Only b wc wc.drew := (Only.refl b wc).drew
   have hNe : NMk wc.drew b vf (j + 1) := hNc.out.other rfl
   have K3 : Hid (∀ W, Only b wc W → (fun W => Only b wc W ∧ (W.cell? ⟨B0, 0, none⟩ = some (.pointer (some ⟨b, 0, none⟩)) ∧ W.cell? ⟨B0 + 1, 0, none⟩ = some (.pointer pb) ∧ W.cell? ⟨B0 + 2, 0, none⟩ = some (.string (bs f)) ∧ W.cell? ⟨B0 + 2, 1, none⟩ = some (.string (bs z)) ∧ W.cell? ⟨B0 + 2, 2, none⟩ = some (.string la) ∧ W.cell? ⟨B0 + 2, 3, none⟩ = some (.slice pa na ca) ∧ W.cell? ⟨B0 + 2, 4, none⟩ = some (.int .i64 lb) ∧ W.cell? ⟨B0 + 2, 5, none⟩ = some (.int .i64 lc) ∧ W.cell? ⟨B0 + 2, 6, none⟩ = some (.int .i64 ld) ∧ W.cell? ⟨B0 + 2, 7, none⟩ = some (.string ma) ∧ W.cell? ⟨B0 + 2, 8, none⟩ = some (.slice pq nq cq) ∧ W.cell? ⟨B0 + 2, 9, none⟩ = some (.int .i64 mb) ∧ W.cell? ⟨B0 + 2, 10, none⟩ = some (.int .i64 mc) ∧ W.cell? ⟨B0 + 2, 11, none⟩ = some (.int .i64 md) ∧ W.cell? ⟨B0 + 2, 12, none⟩ = some (.iface Ty uy)) ∧ W.cell? ⟨w5.heap.size, 1, none⟩ = some (.string X) ∧ W.cell? ⟨w6.heap.size, 1, none⟩ = some (.string Y)) W) := H_ (fun W hW => by
    have h := K2.out _ (hQc.trans hW)
    exact ⟨hW, h.2.1, h.2.2, Z4 (hW.blk yR2 hw6)⟩)
   have S3 := H_ (K3.out _ hDc)
   have HOc := H_ (HOa.out.trans (HQb.out.trans hQc))
   clear S2 hP6 hwc CG2 hK6 h3
   go_wp2_with fail
   first | (go_region_held3 (fun W => Only b wc W ∧ (W.cell? ⟨B0, 0, none⟩ = some (.pointer (some ⟨b, 0, none⟩)) ∧ W.cell? ⟨B0 + 1, 0, none⟩ = some (.pointer pb) ∧ W.cell? ⟨B0 + 2, 0, none⟩ = some (.string (bs f)) ∧ W.cell? ⟨B0 + 2, 1, none⟩ = some (.string (bs z)) ∧ W.cell? ⟨B0 + 2, 2, none⟩ = some (.string la) ∧ W.cell? ⟨B0 + 2, 3, none⟩ = some (.slice pa na ca) ∧ W.cell? ⟨B0 + 2, 4, none⟩ = some (.int .i64 lb) ∧ W.cell? ⟨B0 + 2, 5, none⟩ = some (.int .i64 lc) ∧ W.cell? ⟨B0 + 2, 6, none⟩ = some (.int .i64 ld) ∧ W.cell? ⟨B0 + 2, 7, none⟩ = some (.string ma) ∧ W.cell? ⟨B0 + 2, 8, none⟩ = some (.slice pq nq cq) ∧ W.cell? ⟨B0 + 2, 9, none⟩ = some (.int .i64 mb) ∧ W.cell? ⟨B0 + 2, 10, none⟩ = some (.int .i64 mc) ∧ W.cell? ⟨B0 + 2, 11, none⟩ = some (.int .i64 md) ∧ W.cell? ⟨B0 + 2, 12, none⟩ = some (.iface Ty uy)) ∧ W.cell? ⟨w5.heap.size, 1, none⟩ = some (.string X) ∧ W.cell? ⟨w6.heap.size, 1, none⟩ = some (.string Y)) (first | exact S3.out | assumption | fail) (first | (go_at_call 71; (with_reducible refine (C2.out _ hDc hNe).mono ?_); rintro e w7 ⟨⟨S1, t1, rfl, hx1⟩, hN7, hO7⟩; have hQ7 := hDc.trans hO7; have hK7 := K3.out _ hQ7))) | fail
   all_goals
    go_wp2_with fail
    go_ret
    exact ⟨⟨_, _, rfl, _, _, _, _, _, _, _, by rw [HnA.out, HnB.out, ← HX.out, ← HY.out]; rfl, HA.out _ (HOc.out.trans hQ7), HBt.out _ (HOc.out.trans hQ7), hx1⟩, hN7, HOc.out.trans hQ7⟩
theorem Jd (free : List Nm) : ∀ x : Ex, PnC free x
 | .name s => pn_name free s
 | .num n => pn_num free n
 | .two .add x y => pn_add free x y (Jd free x) (Jd free y)
 | .two .sub x y => pn_sub free x y (Jd free x) (Jd free y)
 | .two .mul x y => pn_mul free x y (Jd free x) (Jd free y)
 | .two .call x y => pn_call free x y (Jd free x) (Jd free y)
 | .two .pair x y => pn_pair free x y (Jd free x) (Jd free y)
 | .one .fst x => pn_fst free x (Jd free x)
 | .one .snd x => pn_snd free x (Jd free x)
 | .cond x y z => pn_cond free x y z (Jd free x) (Jd free y) (Jd free z)
 | .lete s x y => pn_let free s x y (Jd free x) (Jd free y)
 | .func f z A B x => pn_fun free f z A B x (Jd free x)
end Go.Proofs.YtjaaalojcdbcpaaGreatDoor
