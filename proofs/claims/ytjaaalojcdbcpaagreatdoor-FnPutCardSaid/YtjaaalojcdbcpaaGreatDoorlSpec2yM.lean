/- The reference makes expressions plain: ExprPlain and ExprAlike. The reference: ExprPlain and ExprAlike. The reference: ExprPlain and ExprAlike, at every text. -/
import Derived.Test.YtjaaalojcdbcpaaGreatDoorlSpec2t
import Derived.Test.YtjaaalojcdbcpaaGreatDoorlSpec2v
import Derived.Test.YtjaaalojcdbcpaaGreatDoorlIp6M
import Derived.Test.YtjaaalojcdbcpaaGreatDoorlSpec2hM
import Derived.Deep.RegionHeld3
set_option maxHeartbeats 20000000
set_option linter.unusedVariables false
set_option linter.unusedSimpArgs false
namespace Go.Proofs.YtjaaalojcdbcpaaGreatDoor
open Go.RowKit Go.Proofs.Tryz
set_option maxRecDepth 8000
theorem Z0v (free : List Nm) : ∀ n, PlS free n
 | 0 => fun t _ _ _ _ _ _ _ _ _ _ h => by omega
 | n + 1 => fun t x cs m k v1 v2 vf b B w hd hwf hby hx hv hBb hr hf hv1 hv2 hm hfl hk2 => by
   match t, hd, hwf, hby, hx, hv, hm with
   | .atom a, hd, hwf, hby, hx, hv, hm =>
     simp only [FV] at hv
     subst hv
     exact l2Plain_atom free a x m k v1 v2 vf b B w hwf.1 (by simp only [Tr.bytes] at hby; omega) hx hr hv1 hv2 (by omega)
   | .list [], hd, hwf, hby, hx, hv, hm => simp [Tr.wf] at hwf
   | .list (h :: ps), hd, hwf, hby, hx, hv, hm =>
     simp only [FV] at hv
     obtain ⟨r, off, cap, xs, rfl, h2, h3, h4, h5, h6⟩ := hv
     simp only [Tr.wf] at hwf
     simp only [Tr.bytes] at hby
     have hby' : Zi (h :: ps) ≤ 12000 := by omega
     by_cases hl : Z1 h = Yy
     · obtain ⟨a, V⟩ := Z07 hx
       obtain ⟨s, e, c, -, rfl, rfl, rfl⟩ := pl_let free m k V hx hl
       have hge : Zy (Z0 e) = some e := V.kid 0 (by simp [Zb]) (by have := V.len; simp [Zb] at this ⊢; omega) |> fun q => by
        have ha : a = 2 := by have := V.len; simp [Zb] at this; omega
        subst ha; simpa [Zb] using q
       have hgc : Zy (Z0 c) = some c := V.kid 1 (by simp [Zb]) (by have := V.len; simp [Zb] at this ⊢; omega) |> fun q => by
        have ha : a = 2 := by have := V.len; simp [Zb] at this; omega
        subst ha; simpa [Zb] using q
       exact l2Plain_let free n (Z0v free n) s e c m k v1 v2 vf b B r off cap xs w hd hwf.2 hby' hge hgc h2 h4 h3 h5 h6 hBb hr hf hv1 hv2 hm hfl hk2
     · by_cases hfn : Z1 h = Yt
       · obtain ⟨a, V⟩ := Z07 hx
         obtain ⟨f, z, p0, p1, A, Bt, e, -, rfl, rfl, rfl, -⟩ := pl_fun free m k V hx hfn
         exact l2Plain_fun free n (Z0v free n) f z A Bt e m k v1 v2 vf b B r off cap _ xs w rfl hd hwf.2 hby' hx h2 h4 h3 h5 h6 hBb hr hf hv1 hv2 hm hfl hk2
       · exact l2Plain_kids free n (Z0v free n) h ps x m k v1 v2 vf b B r off cap _ xs w hd hwf.2 hby' hx hl hfn h2 h4 rfl h3 h5 h6 hBb hr hf hv1 hv2 hm hfl hk2
theorem far3 {W : World} {R q : Nat} (h : R ≠ q) (i j l : Nat) (u v : Value) : ((W.setCell ⟨R, i, none⟩ u).setCell ⟨R, j, none⟩ v).cell? ⟨q, l, none⟩ = W.cell? ⟨q, l, none⟩ := by
 rw [World.cell?_setCell_far _ _ _ _ h, World.cell?_setCell_far _ _ _ _ h]
theorem lsT_mt {W : World} {b q : Nat} (hq : q ≠ b) (hl : q < W.heap.size) : LsT W b (.slice (some ⟨q, 0, none⟩) 0 0) [] := ⟨⟨_, 0, rfl, by simp, fun hne => absurd rfl hne⟩, fun k hk => by simp [Value.ownBlock] at hk; subst hk; exact ⟨hq, hl⟩⟩
theorem l2Plainly_c (t : Tr) (x : Ex) (p : Option Addr) (n c : Nat) (w : World) (hg : t.wf ∧ t.bytes ≤ 12000 ∧ t.depth ≤ 60) (hsz : t.size ≤ 120) (hx : Zy t = some x) (hv : FV nS w (fun q => q < w.heap.size) t (nS t (.slice p n c))) :
 Calls prog 30 #[.agg #[.string (bs (Z1 t)), .slice p n c]] w fun e w' => (∃ p' n' c', e = .returned (.tuple #[.agg #[.string (bs (Z1 (Z0 (plX x)))), .slice p' n' c'], .bool true]) ∧ FV nS w' (fun q => q < w'.heap.size) (Z0 (plX x)) (nS (Z0 (plX x)) (.slice p' n' c'))) ∧ Below w.heap.size w w' := by
 have hfx := X3 _ _ hx
 have hfew := Z4n (x := x) (by rw [hfx]; exact hsz)
 have hfl : (frE x).length ≤ 1000 := by
  have h := (Vl (Ze x) []).2
  have h2 := Xd x
  have h3 := Xj x
  rw [hfx] at h3
  have h4 : (frE x).length ≤ (Ze x).length := by simpa [frE] using h
  omega
 obtain ⟨W, hW⟩ : ∃ W, W = ((((w.alloc (.cells #[.string (bs (Z1 t)), .slice p n c] 47)).alloc (.cells #[.string ⟨#[]⟩, .slice none 0 0] 47)).alloc (.cells #[] 9)).alloc (.cells #[] 9)) := ⟨_, rfl⟩
 have hbW : Below w.heap.size w W := by rw [hW]; exact (by (repeat (first | exact Below.refl _ _ | (refine Below.alloc ?_ (by first | (simp; done) | (simp; omega)) _) | (refine Below.setCell ?_ (by first | (simp; done) | (simp; omega)) _))))
 have hsW : W.heap.size = w.heap.size + 4 := by rw [hW]; simp
 have hq0 : W.heap[w.heap.size]? = some (.cells #[.string (bs (Z1 t)), .slice p n c] 47 (0, 0)) := by rw [hW]; exact Z8 (Z8 (Z8 (heap_alloc_new _ _)))
 have hqr : W.heap[w.heap.size + 1]? = some (.cells #[.string ⟨#[]⟩, .slice none 0 0] 47 (0, 0)) := by rw [hW]; exact Z8 (Z8 (Za _ _ _))
 have hq2 : W.heap[w.heap.size + 3]? = some (.cells #[] 9 (0, 0)) := by rw [hW]; exact heap_new4 _ _ _ _ _
 have CR : Hid (Calls prog 67 #[.agg #[.string (bs (Z1 t)), .slice p n c], .slice (some ⟨w.heap.size + 1 + 1, 0, none⟩) 0 0, .slice (some ⟨w.heap.size + 1 + 1 + 1, 0, none⟩) 0 0] W fun e w' => Z0q w.heap.size W.heap.size (.slice (some ⟨w.heap.size + 1 + 1 + 1, 0, none⟩) 0 0) (frE x) W e w') := H_ (by
  have h := Z46 (t.depth + 1) t x (nS t (.slice p n c)) w.heap.size [] [] (.slice (some ⟨w.heap.size + 1 + 1 + 1, 0, none⟩) 0 0) (.slice (some ⟨w.heap.size + 1 + 1, 0, none⟩) 0 0) W (by omega) hg.1 hg.2.1 (by simp; omega) (by have := hg.2.2; simp; omega) hx (hv.below hbW (fun k hk => hk)) (by omega) (Q5 hq2 (by omega)) ⟨_, 0, rfl, by simp, fun hne => absurd rfl hne⟩ (fun k hk => by simp [Value.ownBlock] at hk; subst hk; exact ⟨by simp [Value.ownBlock], by omega⟩)
  have e : V8 [] [] (Ze x) = frE x := by rw [V8, K5]; rfl
  rw [e] at h
  exact h)
 have CP : Hid (∀ (w2 W2 : World) (v : Value), Below w.heap.size w w2 → w2.ownsRow w.heap.size 9 1 v (frE x).length ((frE x).map Y3) → W2 = (((w2.alloc (.cells #[v, .int .i64 0] 90)).alloc (.cells #[] 9)).alloc (.cells #[] 9)) → Calls prog 68 #[.agg #[.string (bs (Z1 t)), .slice p n c], .slice (some ⟨w2.heap.size + 1, 0, none⟩) 0 0, .slice (some ⟨w2.heap.size + 1 + 1, 0, none⟩) 0 0, .pointer (some ⟨w2.heap.size, 0, none⟩)] W2 fun e w' => PlR w2.heap.size w.heap.size v (plE (frE x) [] 0 x) W2 e w') := H_ (fun w2 W2 v hb2 ho2 hW2 => by
  have hb3 : Below w2.heap.size w2 W2 := by rw [hW2]; exact (by (repeat (first | exact Below.refl _ _ | (refine Below.alloc ?_ (by first | (simp; done) | (simp; omega)) _) | (refine Below.setCell ?_ (by first | (simp; done) | (simp; omega)) _))))
  have hs3 : W2.heap.size = w2.heap.size + 3 := by rw [hW2]; simp
  have hrn : RN W2 w2.heap.size v 0 := by rw [hW2]; exact Z8 (Z8 (heap_alloc_new _ _))
  have h := Z0v (frE x) (t.depth + 1) t x (nS t (.slice p n c)) [] 0 (.slice (some ⟨w2.heap.size + 1, 0, none⟩) 0 0) (.slice (some ⟨w2.heap.size + 1 + 1, 0, none⟩) 0 0) v w2.heap.size w.heap.size W2 (by omega) hg.1 hg.2.1 hx ((hv.below hb2 (fun k hk => hk)).below hb3 (fun k hk => Nat.lt_of_lt_of_le hk hb2.size)) hb2.size hrn ⟨Yh (Zx ho2 hb3) (by omega), fun q hq => by have := Yb ho2 hq; omega⟩ (lsT_mt (by omega) (by omega)) (lsT_mt (by omega) (by omega)) (by have := hg.2.2; simp; omega) hfl (by omega)
  exact h)
 obtain ⟨T', hT'⟩ : ∃ T', T' = Z0 (plX x) := ⟨_, rfl⟩
 obtain ⟨k2, hk2⟩ : ∃ k2, k2 = (plE (frE x) [] 0 x).2 := ⟨_, rfl⟩
 have HPR : Hid (∀ (b : Nat) (v : Value) (W2 : World) (e : Ending) (w' : World), PlR b w.heap.size v (plE (frE x) [] 0 x) W2 e w' → (∃ p' n' c', e = .returned (.agg #[.string (bs (Z1 T')), .slice p' n' c']) ∧ FV nS w' (fun q => q < w.heap.size ∨ (W2.heap.size ≤ q ∧ q < w'.heap.size)) T' (nS T' (.slice p' n' c'))) ∧ RN w' b v k2 ∧ Only b W2 w') := H_ (fun b v W2 e w' h => by
  obtain ⟨⟨p', n', c', h1, h2⟩, h3, h4⟩ := h
  rw [hT', hk2]
  exact ⟨⟨p', n', c', h1, h2⟩, h3, h4⟩)
 have hk2' : k2 ≤ 100 := by rw [hk2]; omega
 have hkI : decide ((k2 : Int) ≤ 100) = true := by simp; omega
 have HW := H_ hW
 rw [← hT']
 obtain ⟨At, hAt⟩ : ∃ At, At = bs (Z1 t) := ⟨_, rfl⟩
 unfold Hid at CR CP HW
 rw [← hAt] at CR CP HW hq0 ⊢
 have CR := H_ CR
 have CP := H_ CP
 have HW := H_ HW
 clear hv hx hfx hfew hfl hg hsz hT' hk2 hW hAt
 go_enter func30, ntmps30
 go_wp2_with fail
 rw [← HW.out]
 refine (CR.out).mono ?_
 rintro e w2 ⟨v2, rfl, ho2, hg2, hv2⟩
 have hb2 : Below w.heap.size w w2 := Ya (Below.refl _ _) hbW hg2 (fun k hk => by simp [Value.ownBlock] at hk; omega)
 have x0 := Yc hg2 hq0 (by simp [Value.ownBlock]; omega)
 have xr := Yc hg2 hqr (by simp [Value.ownBlock]; omega)
 obtain ⟨fl, hfl'⟩ : ∃ fl, fl = (frE x).length := ⟨_, rfl⟩
 obtain ⟨pv, cv, hpv⟩ := Zn ho2
 rw [← hfl'] at hpv
 subst hpv
 have C2 := H_ (CP.out w2 _ _ hb2 ho2 rfl)
 obtain ⟨wb, hwb⟩ : ∃ wb, wb = (((w2.alloc (.cells #[.slice pv fl cv, .int .i64 0] 90)).alloc (.cells #[] 9)).alloc (.cells #[] 9)) := ⟨_, rfl⟩
 have HB := H_ hwb
 unfold Hid at C2
 rw [← hwb] at C2
 have C2 := H_ C2
 have hbb : Below w2.heap.size w2 wb := by rw [hwb]; exact (by (repeat (first | exact Below.refl _ _ | (refine Below.alloc ?_ (by first | (simp; done) | (simp; omega)) _) | (refine Below.setCell ?_ (by first | (simp; done) | (simp; omega)) _))))
 have hsb : wb.heap.size = w2.heap.size + 3 := by rw [hwb]; simp
 have z0 := Z8 (o' := (.cells #[.slice pv fl cv, .int .i64 0] 90)) x0
 obtain ⟨y0, y1⟩ := Zh z0
 have hN := lt_of_block xr
 have hs2 := hb2.size
 clear hwb CP ho2 hfl' hg2 hv2 CR HW hq0 hqr hq2
 go_wp2_with fail
 rw [← HB.out]
 refine (C2.out).mono ?_
 intro e w3 hR
 obtain ⟨⟨p', n', c', rfl, hv3⟩, hn3, ho3⟩ := HPR.out _ _ _ _ _ hR
 have hs3 := ho3.size
 have xr3 : w3.heap[w.heap.size + 1]? = some (.cells #[.string ⟨#[]⟩, .slice none 0 0] 47 (0, 0)) := ho3.blk (Z2 hbb (by omega) xr) (by omega)
 have hb3 : Below w.heap.size w w3 := (hb2.trans (hbb.mono hb2.size)).trans (ho3.below (by omega) (by omega))
 have hn3' : w3.heap[w2.heap.size]? = some (.cells #[.slice pv fl cv, .int .i64 k2] 90 (0, 0)) := hn3
 have hN3 := lt_of_block hn3'
 obtain ⟨A3, hA3⟩ : ∃ A3, A3 = bs (Z1 T') := ⟨_, rfl⟩
 have HA3 := H_ hA3
 rw [← hA3]
 have w4r := Z8 (o' := (.cells #[.string A3, .slice p' n' c'] 47)) xr3
 have w4n := Z8 (o' := (.cells #[.string A3, .slice p' n' c'] 47)) hn3'
 have w4o := heap_alloc_new w3 (.cells #[.string A3, .slice p' n' c'] 47)
 obtain ⟨c0, c1⟩ := Zh w4o
 have c2 := Z4 (j := 1) w4n
 obtain ⟨r0, r1⟩ := Zh w4r
 obtain ⟨f0, f1⟩ := Xb w4r
 clear hR C2 HPR hA3 z0 y0 y1 x0 xr
 go_wp2_with fail
 have hb4 : Below w3.heap.size w3 (w3.alloc (.cells #[.string A3, .slice p' n' c'] 47)) := Z5 _ _
 have hs4 : w3.heap.size < (w3.alloc (.cells #[.string A3, .slice p' n' c'] 47)).heap.size := by simp
 generalize w3.alloc (.cells #[.string A3, .slice p' n' c'] 47) = w4 at *
 have KP : Hid (∀ (W : World) (u v : Value), (fun W => W.cell? ⟨w3.heap.size, 0, none⟩ = some (.string A3) ∧ W.cell? ⟨w3.heap.size, 1, none⟩ = some (.slice p' n' c') ∧ W.cell? ⟨w2.heap.size, 1, none⟩ = some (.int .i64 k2)) W → (fun W => W.cell? ⟨w3.heap.size, 0, none⟩ = some (.string A3) ∧ W.cell? ⟨w3.heap.size, 1, none⟩ = some (.slice p' n' c') ∧ W.cell? ⟨w2.heap.size, 1, none⟩ = some (.int .i64 k2)) ((W.setCell ⟨w.heap.size + 1, 0, none⟩ u).setCell ⟨w.heap.size + 1, 1, none⟩ v)) := H_ (fun W u v ⟨q1, q2, q3⟩ => ⟨(far3 (by omega) _ _ _ _ _).trans q1, (far3 (by omega) _ _ _ _ _).trans q2, (far3 (by omega) _ _ _ _ _).trans q3⟩)
 have S0 : Hid ((fun W => W.cell? ⟨w3.heap.size, 0, none⟩ = some (.string A3) ∧ W.cell? ⟨w3.heap.size, 1, none⟩ = some (.slice p' n' c') ∧ W.cell? ⟨w2.heap.size, 1, none⟩ = some (.int .i64 k2)) w4.drew) := H_ ⟨c0, c1, c2⟩
 first | (go_region_held3 (fun W => W.cell? ⟨w3.heap.size, 0, none⟩ = some (.string A3) ∧ W.cell? ⟨w3.heap.size, 1, none⟩ = some (.slice p' n' c') ∧ W.cell? ⟨w2.heap.size, 1, none⟩ = some (.int .i64 k2)) (first | exact S0.out | assumption | exact KP.out _ _ _ (by assumption) | fail) (fail)) | fail
 all_goals
  go_wp2_with fail
  have kk : (((w4.setCell ⟨w.heap.size + 1, 0, none⟩ (.string A3)).setCell ⟨w.heap.size + 1, 1, none⟩ (.slice p' n' c')).drew).heap[w.heap.size + 1]? = some (.cells #[.string A3, .slice p' n' c'] 47 (0, 0)) := Yu (j := 1) (Yu (j := 0) w4r (.string A3)) (.slice p' n' c')
  obtain ⟨k0, k1⟩ := Zh kk
  have hbz : Below w.heap.size w (((w4.setCell ⟨w.heap.size + 1, 0, none⟩ (.string A3)).setCell ⟨w.heap.size + 1, 1, none⟩ (.slice p' n' c')).drew) := (((hb3.trans (hb4.mono hb3.size)).setCell (by simp) _).setCell (by simp) _).drew
  refine bodyPost_ret (v := .tuple #[.agg #[.string A3, .slice p' n' c'], .bool true]) (by simp [results, results30, go_sem, k0, k1]) rfl ?_
  refine ⟨⟨p', n', c', by rw [HA3.out], FV.move (fun q hq => by show q < ((w4.setCell _ _).setCell _ _).heap.size; simp; omega) (fun q hq => ?_) _ _ hv3⟩, hbz⟩
  show ((w4.setCell ⟨w.heap.size + 1, 0, none⟩ (.string A3)).setCell ⟨w.heap.size + 1, 1, none⟩ (.slice p' n' c')).heap[q]? = w3.heap[q]?
  rw [Z3 _ (by show q ≠ w.heap.size + 1; omega), Z3 _ (by show q ≠ w.heap.size + 1; omega)]
  exact hb4.block q (by omega)
theorem Z6e (s : ByteArray) (hs : s.size ≤ 1048576) (w : World) :
 Calls prog 9 #[.string s] w fun e w' => e = .returned (.tuple #[.string (bs ((Z6g s.data.toList).getD [])), .bool (Z6g s.data.toList).isSome]) ∧ Below w.heap.size w w' := by
 cases hp : Xv s.data.toList with
 | none =>
   have C := H_ (Z4t hs hp)
   have HR := H_ (Z58 (Z4j hp))
   clear hp
   go_enter func9, ntmps9
   go_wp2_with (go_at_call 29; go_must (refine (C.out _).mono ?_; rintro e w1 ⟨⟨a, p, m, c, rfl, hnl⟩, hb1⟩))
   go_ret2
   exact ⟨by rw [HR.out]; rfl, hb1.alloc hb1.size _⟩
 | some t =>
   have C := H_ (Z06 hs hp)
   obtain ⟨x, hx1, hx2⟩ := Z4k hp
   have hg := Yk (Ve hp).1
   have hsz := (Ve hp).2.2
   have HR := H_ (Z17 hx1)
   obtain ⟨q1, q2⟩ := Z7b hx1
   obtain ⟨-, -, h1, h2, h3, h4, h5⟩ := Jv q1
   obtain ⟨T', hT'⟩ : ∃ T', T' = Z0 (plX x) := ⟨_, rfl⟩
   rw [← hT'] at h1 h2 h3 h4 HR
   have CP : Hid (∀ (w1 W : World) p m c, FV nS w1 (fun k => w.heap.size ≤ k ∧ k < w1.heap.size) t (nS t (.slice p m c)) → Below w1.heap.size w1 W → Calls prog 30 #[.agg #[.string (bs (Z1 t)), .slice p m c]] W fun e w' => (∃ p' n' c', e = .returned (.tuple #[.agg #[.string (bs (Z1 T')), .slice p' n' c'], .bool true]) ∧ FV nS w' (fun q => q < w'.heap.size) T' (nS T' (.slice p' n' c'))) ∧ Below W.heap.size W w') := H_ (fun w1 W p m c hv hb => by
    rw [hT']
    exact l2Plainly_c t x p m c W ⟨hg.1, hg.2.1, hg.2.2.1⟩ hsz hx2 ((hv.below hb (fun k hk => hk.2)).wide (fun k hk => Nat.lt_of_lt_of_le hk.2 hb.size)))
   have CT : Hid (∀ (W W2 : World) p m c, FV nS W (fun q => q < W.heap.size) T' (nS T' (.slice p m c)) → Below W.heap.size W W2 → Calls prog 31 #[.agg #[.string (bs (Z1 T')), .slice p m c]] W2 fun e w' => e = .returned (.string (bs T'.text)) ∧ Below W2.heap.size W2 w') := H_ (fun W W2 p m c hv hb => Z0k (T'.depth + 1) T' (nS T' (.slice p m c)) (fun q => q < W.heap.size) W2 (by omega) h4 (by omega) (hv.below hb (fun k hk => hk)) (fun k hk => Nat.lt_of_lt_of_le hk hb.size))
   obtain ⟨A1, hA1⟩ : ∃ A1, A1 = bs (Z1 t) := ⟨_, rfl⟩
   obtain ⟨A2, hA2⟩ : ∃ A2, A2 = bs (Z1 T') := ⟨_, rfl⟩
   unfold Hid at C CP CT
   rw [← hA1] at C CP
   rw [← hA2] at CP CT
   have C := H_ C
   have CP := H_ CP
   have CT := H_ CT
   clear hp hx1 hx2 hg hsz q1 q2 h1 h2 h3 h4 h5 hT' hA1 hA2
   go_enter func9, ntmps9
   go_wp2_with (first | (go_at_call 29; go_must (refine (C.out _).mono ?_; rintro e w1 ⟨⟨p, m, c, rfl, hv⟩, hb1⟩)) | (go_at_call 30; go_must (refine (CP.out w1 _ p m c hv (Z5 _ _)).mono ?_; rintro e w2 ⟨⟨p2, m2, c2, rfl, hv2⟩, hb2⟩)) | (go_at_call 31; go_must (refine (CT.out w2 _ p2 m2 c2 hv2 (Z5 _ _)).mono ?_; rintro e w3 ⟨rfl, hb3⟩)))
   go_ret2
   have h12 : Below w.heap.size w w2 := hb1.trans (((Z5 w1 _).trans (hb2.mono (by simp))).mono hb1.size)
   exact ⟨by rw [HR.out]; rfl, h12.trans (((Z5 w2 _).trans (hb3.mono (by simp))).mono h12.size)⟩
end Go.Proofs.YtjaaalojcdbcpaaGreatDoor
