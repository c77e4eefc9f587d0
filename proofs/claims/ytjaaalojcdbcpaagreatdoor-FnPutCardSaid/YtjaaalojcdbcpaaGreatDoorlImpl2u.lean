/- The program writes expressions as forms: fun; all; as texts. -/
import Derived.Test.YtjaaalojcdbcpaaGreatDoorlImpl2r
import Derived.Deep.RegionHeldLaw
set_option maxHeartbeats 20000000
set_option linter.unusedVariables false
set_option linter.unusedSimpArgs false
namespace Go.Proofs.YtjaaalojcdbcpaaGreatDoor
open Go.RowKit Go.Proofs.Tryz
set_option maxRecDepth 8000
theorem Z1y {P : Program} (w : World) (base : Nat) (t ty e : TypeId) (i : TypeInfo) (z : Value) (size bytes : Nat) (ht : P.underlying t = some (.slice e)) (hi : P.info? e = some i) (hz : i.zero = some z)
 (hsize : i.size = size) (hby : i.bytes = bytes) (hzs : z.cells.size = size) (hsz : 0 < size)
 (v : Value) (n m N : Nat) (hN : N = n + m) (hm : 0 < m) (xs : List Value) (hown : w.ownsRow base e size v n xs)
 (a : Addr) (c : Nat) (news : List Value) (hl : news.length = m * size) (hnews : ∀ j u, news[j]? = some u → w.cell? (a.add j) = some u) (h1 : ∀ u ∈ news, u.oneCell' = true)
 (h63 : N ≤ maxLen) (hbytes : N * bytes ≤ 140737488355328) (hbase : base ≤ w.heap.size) :
 ∃ g' c' w', (Builtin.append_ #[t, t] ty #[v, .slice (some a) m c]).run P w = .ok (.slice (some ⟨g', 0, none⟩) N c') w' ∧ w'.ownsRow base e size (.slice (some ⟨g', 0, none⟩) N c') N (xs ++ news) ∧
   w.grownBy w' v.ownBlock ∧ (v.ownBlock = some g' ∨ g' = w.heap.size) := by
 subst hN
 obtain ⟨v', w', hr, h2, h3, _⟩ := run_append_own (P := P) w base t ty e i z size bytes ht hi hz hsize hby hzs hsz v n xs hown a m c news hl hnews h1 h63 hbytes hbase
 have hsmall : n + m ≤ 9223372036854775807 := by simp only [maxLen] at h63; omega
 subst hsize
 subst hby
 rcases hown.2 with ⟨rfl, rfl⟩ | ⟨g, cap, cur, rfl, hbg, hg, hnc, hcm, hcs, htake⟩
 · have hr2 := run_append_nil (P := P) w t ty e i z ht hi hz a m c news hl hnews hm (by omega) (by simp only [Nat.zero_add] at hbytes; omega)
   rw [hr] at hr2
   simp only [Result.ok.injEq] at hr2
   obtain ⟨rfl, _⟩ := hr2
   rw [Nat.zero_add] at h2 ⊢
   exact ⟨_, _, w', hr, h2, h3, .inr rfl⟩
 · by_cases hroom : n + m ≤ cap
   · have hfit : n * i.size + news.length ≤ cur.size := by rw [hl, hcs, ← Nat.add_mul]; exact Nat.mul_le_mul_right _ hroom
     have hr2 := run_append_room (P := P) w t ty e i ht hi g n cap cur hg a m c news hl hnews h1 hroom hfit
     rw [hr] at hr2
     simp only [Result.ok.injEq] at hr2
     obtain ⟨rfl, _⟩ := hr2
     exact ⟨_, _, w', hr, h2, h3, .inl rfl⟩
   · have holds : ∀ j u, xs[j]? = some u → w.cell? ((⟨g, 0, none⟩ : Addr).add j) = some u := hown.cells (g := g) rfl
     have hr2 := run_append_grow (P := P) w t ty e i z ht hi hz ⟨g, 0, none⟩ n cap xs hown.1 holds a m c news hl hnews (by omega) (by omega) (growslice_fits (by omega) hbytes)
     rw [hr] at hr2
     simp only [Result.ok.injEq] at hr2
     obtain ⟨rfl, _⟩ := hr2
     exact ⟨_, _, w', hr, h2, h3, .inr rfl⟩
theorem Z56 {P : Program} (w : World) {ops : Array Oper} {o : Oper} {a : Act} {K : Act → World → Prop} {Q : Exit → Act → World → Prop} {E : Prop} (hgd : o.guard = none) (s x : Operand) (t : TypeId)
 (ho : o.op = .call { callee := .builtin .append, args := #[s, x], argTypes := #[t, t] })
 (base : Nat) (e : TypeId) (i : TypeInfo) (z : Value) (size bytes : Nat) (ht : P.underlying t = some (.slice e)) (hi : P.info? e = some i) (hz : i.zero = some z)
 (hsize : i.size = size) (hby : i.bytes = bytes) (hzs : z.cells.size = size) (hsz : 0 < size)
 (v : Value) (n m N : Nat) (hN : N = n + m) (hm : 0 < m) (xs : List Value) (hs : a.eval s = v) (hown : w.ownsRow base e size v n xs)
 (ad : Addr) (c : Nat) (news : List Value) (hx : a.eval x = .slice (some ad) m c) (hl : news.length = m * size) (hnews : ∀ j u, news[j]? = some u → w.cell? (ad.add j) = some u) (h1 : ∀ u ∈ news, u.oneCell' = true)
 (h63 : N ≤ maxLen) (hbytes : N * bytes ≤ 140737488355328) (hbase : base ≤ w.heap.size)
 (h : ∀ g' c' w', w'.ownsRow base e size (.slice (some ⟨g', 0, none⟩) N c') N (xs ++ news) → w.grownBy w' v.ownBlock → (v.ownBlock = some g' ∨ g' = w.heap.size) → K (a.put o.dst (.slice (some ⟨g', 0, none⟩) N c')) w') :
 if Region.wanted o (yielded ops a.tmps) = true then Oper.wp P o a w K Q else E := by
 have hw : Region.wanted o (yielded ops a.tmps) = true := by simp [Region.wanted, hgd]
 rw [if_pos hw]
 obtain ⟨g', c', w', hr, h2, h3, h4⟩ := Z1y (P := P) w base t o.type e i z size bytes ht hi hz hsize hby hzs hsz v n m N hN hm xs hown ad c news hl hnews h1 h63 hbytes hbase
 unfold Oper.wp execOp
 simp only [ho, resolve, invoke, builtin, Sem.run_bind, Sem.run_pure, Result.andThen_ok, List.map_toArray, List.map_cons, List.map_nil, hs, hx, hr]
 exact h g' c' w' h2 h3 h4
theorem fm_fun (f x : Nm) (At Bt : Tr) (c : Ex) (ihc : FmC c) : FmC (.func f x At Bt c) := by
 intro v B w hn hw hb hv hB hT
 simp only [EV] at hv
 obtain ⟨pa, na, ca, pb, nb, cb, y, rfl, hA, hBt, hy⟩ := hv
 obtain ⟨Ty, uy, rfl⟩ := hy.iface
 simp only [Qa] at hn
 have hfo : Z0 (.func f x At Bt c) = .list (.atom Yt :: .atom f :: .atom x :: At :: Bt :: (Zb (.func f x At Bt c)).map Z0) := rfl
 have hwf := hw
 have hby := hb
 simp only [Z0, Tr.wf, wfs, Tr.bytes, Zi] at hw hb
 have HK : Hid (Z3u B w (Zb (.func f x At Bt c)) [Value.iface Ty uy]) := H_ (by
  intro j hj
  match j, hj with
  | 0, _ => obtain ⟨s, o1, o2, o3, q1, q2⟩ := Qg (x := c) ihc hn.2.2 (by simp_all) (by omega) hy hB hT; exact ⟨_, _, s, o1, o2, o3, rfl, q1, q2⟩
  )
 have N1 := H_ (Xh [102, 117, 110] (by decide))
 have N2 := H_ (Xh f (by omega))
 have N3 := H_ (Xh x (by omega))
 have HW : Hid (wfs (.atom Yt :: .atom f :: .atom x :: At :: Bt :: (Zb (.func f x At Bt c)).map Z0)) := H_ (by rw [hfo] at hwf; simp only [Tr.wf] at hwf; exact hwf.2)
 have HBy : Hid (Zi (.atom Yt :: .atom f :: .atom x :: At :: Bt :: (Zb (.func f x At Bt c)).map Z0) ≤ 1000000000) := H_ (by rw [hfo] at hby; simp only [Tr.bytes] at hby; omega)
 have hlen : (Zb (.func f x At Bt c)).length = 1 := rfl
 obtain ⟨i0, hi0, hz0, hz1, hz2⟩ := info_parts Tryz.infoI
 obtain ⟨la, lb, lc, ld, -, -, -, -, hnA⟩ := Jo At
 obtain ⟨ma, mb, mc, md, -, -, -, -, hnB⟩ := Jo Bt
 rw [hnA] at hA
 rw [hnB] at hBt
 rw [hnA, hnB, hfo]
 simp only [List.cons_append, List.nil_append]
 generalize hX : Zb (.func f x At Bt c) = ks at *
 obtain ⟨kvs, hkvs⟩ : ∃ kvs, kvs = [Value.iface Ty uy] := ⟨_, rfl⟩
 rw [← hkvs] at HK
 have Hkv := H_ hkvs
 have HFV0 : Hid (∀ w', Below w.heap.size w w' → FVs nI w' (fun k => k < B ∨ (w'.heap.size ≤ k ∧ k < w'.heap.size)) [.atom f, .atom x, At, Bt] [.string (bs f), .slice none 0 0, .int .i64 (bs f).size, .int .i64 1, .int .i64 0, .string (bs x), .slice none 0 0, .int .i64 (bs x).size, .int .i64 1, .int .i64 0, .string la, .slice pa na ca, .int .i64 lb, .int .i64 lc, .int .i64 ld, .string ma, .slice pb nb cb, .int .i64 mb, .int .i64 mc, .int .i64 md]) := H_ (fun w' hw' => by
  have qA := FV.move (w' := w') (ok' := fun k => k < B ∨ (w'.heap.size ≤ k ∧ k < w'.heap.size)) (fun k hk => .inl hk) (fun k hk => hw'.block k (Nat.lt_of_lt_of_le hk hB)) _ _ hA
  have qB := FV.move (w' := w') (ok' := fun k => k < B ∨ (w'.heap.size ≤ k ∧ k < w'.heap.size)) (fun k hk => .inl hk) (fun k hk => hw'.block k (Nat.lt_of_lt_of_le hk hB)) _ _ hBt
  exact FVs.append2 (ts := [.atom f]) (xs := [.string (bs f), .slice none 0 0, .int .i64 (bs f).size, .int .i64 1, .int .i64 0]) (atomFV f _ w') (FVs.append2 (ts := [.atom x]) (xs := [.string (bs x), .slice none 0 0, .int .i64 (bs x).size, .int .i64 1, .int .i64 0]) (atomFV x _ w') (by
   simp only [FVs]
   exact ⟨_, _, rfl, qA, _, [], by simp, qB, rfl⟩)))
 clear hkvs hn hw hb hfo hwf hby hT hX hy ihc hA hBt hnA hnB
 go_enter func69, ntmps69
 go_wp2_with (first | (go_at_call 208; go_must (refine (head_fun_c _ _).mono ?_; rintro e w1 ⟨rfl, hb1⟩; have y1 := Z2 hb1 (by simp) (heap_alloc_new _ _); have k1 : Below w.heap.size w w1 := (Z5 w _).trans (hb1.mono (by simp)))) | (go_at_call 113; refine (N1.out _).mono ?_; rintro e w2 ⟨rfl, hb2⟩; have y2 := Z2 hb2 (lt_of_block y1) y1; have k2 : Below w.heap.size w w2 := k1.trans (hb2.mono k1.size)))
 generalize hwa : (w2.alloc (.cells #[.string (bs [102, 117, 110]), .slice none 0 0, .int .i64 (bs [102, 117, 110]).size, .int .i64 1, .int .i64 0] 65)).alloc (.cells #[.string (bs f), .string (bs x), .string la, .slice pa na ca, .int .i64 lb, .int .i64 lc, .int .i64 ld, .string ma, .slice pb nb cb, .int .i64 mb, .int .i64 mc, .int .i64 md, .iface Ty uy] 107) = wa
 obtain ⟨F0, hF0⟩ : ∃ F0, F0 = w2.heap.size + 1 := ⟨_, rfl⟩
 have IA : Hid (FmI0 B w [.atom [102, 117, 110]] [.string (bs [102, 117, 110]), .slice none 0 0, .int .i64 (bs [102, 117, 110]).size, .int .i64 1, .int .i64 0] (.slice (some ⟨w2.heap.size, 0, none⟩) 1 1) wa) := H_ (by rw [← hwa]; exact FmI0.on (FmI0.start (B := B) [102, 117, 110] k2 y2) (Z5 _ _))
 have hka : Below w.heap.size w wa := IA.out.below
 have ya : wa.heap[F0]? = some (.cells #[.string (bs f), .string (bs x), .string la, .slice pa na ca, .int .i64 lb, .int .i64 lc, .int .i64 ld, .string ma, .slice pb nb cb, .int .i64 mb, .int .i64 mc, .int .i64 md, .iface Ty uy] 107 (0, 0)) := by rw [← hwa, hF0]; exact Za _ _ _
 have hwas : wa.heap.size = w2.heap.size + 2 := by rw [← hwa]; simp
 have KS : Hid (∀ W, Below wa.heap.size wa W → (fun W => W.cell? ⟨F0, 0, none⟩ = some (.string (bs f)) ∧ W.cell? ⟨F0, 1, none⟩ = some (.string (bs x)) ∧ W.cell? ⟨F0, 2, none⟩ = some (.string la) ∧ W.cell? ⟨F0, 3, none⟩ = some (.slice pa na ca) ∧ W.cell? ⟨F0, 4, none⟩ = some (.int .i64 lb) ∧ W.cell? ⟨F0, 5, none⟩ = some (.int .i64 lc) ∧ W.cell? ⟨F0, 6, none⟩ = some (.int .i64 ld) ∧ W.cell? ⟨F0, 7, none⟩ = some (.string ma) ∧ W.cell? ⟨F0, 8, none⟩ = some (.slice pb nb cb) ∧ W.cell? ⟨F0, 9, none⟩ = some (.int .i64 mb) ∧ W.cell? ⟨F0, 10, none⟩ = some (.int .i64 mc) ∧ W.cell? ⟨F0, 11, none⟩ = some (.int .i64 md)) W) := H_ (fun W hW => by have q := Z2 hW (lt_of_block ya) ya; exact ⟨Z4 q, Z4 q, Z4 q, Z4 q, Z4 q, Z4 q, Z4 q, Z4 q, Z4 q, Z4 q, Z4 q, Z4 q⟩)
 have KSg : Hid (∀ W W', Below wa.heap.size wa W → W.grownBy W' (Value.slice (some ⟨w2.heap.size, 0, none⟩) 1 1).ownBlock → (fun W => W.cell? ⟨F0, 0, none⟩ = some (.string (bs f)) ∧ W.cell? ⟨F0, 1, none⟩ = some (.string (bs x)) ∧ W.cell? ⟨F0, 2, none⟩ = some (.string la) ∧ W.cell? ⟨F0, 3, none⟩ = some (.slice pa na ca) ∧ W.cell? ⟨F0, 4, none⟩ = some (.int .i64 lb) ∧ W.cell? ⟨F0, 5, none⟩ = some (.int .i64 lc) ∧ W.cell? ⟨F0, 6, none⟩ = some (.int .i64 ld) ∧ W.cell? ⟨F0, 7, none⟩ = some (.string ma) ∧ W.cell? ⟨F0, 8, none⟩ = some (.slice pb nb cb) ∧ W.cell? ⟨F0, 9, none⟩ = some (.int .i64 mb) ∧ W.cell? ⟨F0, 10, none⟩ = some (.int .i64 mc) ∧ W.cell? ⟨F0, 11, none⟩ = some (.int .i64 md)) W') := H_ (fun W W' hW hW' => by
  have q : W'.heap[F0]? = some (.cells #[.string (bs f), .string (bs x), .string la, .slice pa na ca, .int .i64 lb, .int .i64 lc, .int .i64 ld, .string ma, .slice pb nb cb, .int .i64 mb, .int .i64 mc, .int .i64 md, .iface Ty uy] 107 (0, 0)) := by
   rw [hW'.block F0 (by have := hW.size; omega) (fun e => by simp [Value.ownBlock] at e; omega)]
   exact Z2 hW (lt_of_block ya) ya
  exact ⟨Z4 q, Z4 q, Z4 q, Z4 q, Z4 q, Z4 q, Z4 q, Z4 q, Z4 q, Z4 q, Z4 q, Z4 q⟩)
 have HFV : Hid (∀ W, Below wa.heap.size wa W → FVs nI W (fun k => k < B ∨ (W.heap.size ≤ k ∧ k < W.heap.size)) [.atom f, .atom x, At, Bt] [.string (bs f), .slice none 0 0, .int .i64 (bs f).size, .int .i64 1, .int .i64 0, .string (bs x), .slice none 0 0, .int .i64 (bs x).size, .int .i64 1, .int .i64 0, .string la, .slice pa na ca, .int .i64 lb, .int .i64 lc, .int .i64 ld, .string ma, .slice pb nb cb, .int .i64 mb, .int .i64 mc, .int .i64 md]) := H_ (fun W hW => HFV0.out W (hka.trans (hW.mono hka.size)))
 rw [← hF0]
 have hR := lt_of_block y2
 clear hwa HFV0 ya hF0 y1 k1 hb1 hb2 k2
 have hD0 : Below wa.heap.size wa wa.drew := (Below.refl _ _).drew
 have S0 := H_ (KS.out _ hD0)
 go_region_held_law (fun W => W.cell? ⟨F0, 0, none⟩ = some (.string (bs f)) ∧ W.cell? ⟨F0, 1, none⟩ = some (.string (bs x)) ∧ W.cell? ⟨F0, 2, none⟩ = some (.string la) ∧ W.cell? ⟨F0, 3, none⟩ = some (.slice pa na ca) ∧ W.cell? ⟨F0, 4, none⟩ = some (.int .i64 lb) ∧ W.cell? ⟨F0, 5, none⟩ = some (.int .i64 lc) ∧ W.cell? ⟨F0, 6, none⟩ = some (.int .i64 ld) ∧ W.cell? ⟨F0, 7, none⟩ = some (.string ma) ∧ W.cell? ⟨F0, 8, none⟩ = some (.slice pb nb cb) ∧ W.cell? ⟨F0, 9, none⟩ = some (.int .i64 mb) ∧ W.cell? ⟨F0, 10, none⟩ = some (.int .i64 mc) ∧ W.cell? ⟨F0, 11, none⟩ = some (.int .i64 md)) (first | exact S0.out | assumption) (first | (go_at_call_of 113 (bs f); (with_reducible refine (N2.out _).mono ?_); rintro e w4 ⟨rfl, hb4⟩; have h4 := Below.trans hD0 (hb4.mono hD0.size); have hS4 := KS.out _ h4) | (go_at_call_of 113 (bs x); (with_reducible refine (N3.out _).mono ?_); rintro e w5 ⟨rfl, hb5⟩; have h5 := Below.trans h4 (hb5.mono h4.size); have hS5 := KS.out _ h5; have h5a := h5.alloc h5.size (.cells #[.string (bs f), .slice none 0 0, .int .i64 (bs f).size, .int .i64 1, .int .i64 0, .string (bs x), .slice none 0 0, .int .i64 (bs x).size, .int .i64 1, .int .i64 0, .string la, .slice pa na ca, .int .i64 lb, .int .i64 lc, .int .i64 ld, .string ma, .slice pb nb cb, .int .i64 mb, .int .i64 mc, .int .i64 md] 65); have hS5a := KS.out _ h5a; have I5 := H_ (IA.out.on h5); have F5 := HFV.out _ h5; have hs5 := I5.out.below.size) | (refine Z56 (w5.alloc (.cells #[.string (bs f), .slice none 0 0, .int .i64 (bs f).size, .int .i64 1, .int .i64 0, .string (bs x), .slice none 0 0, .int .i64 (bs x).size, .int .i64 1, .int .i64 0, .string la, .slice pa na ca, .int .i64 lb, .int .i64 lc, .int .i64 ld, .string ma, .slice pb nb cb, .int .i64 mb, .int .i64 mc, .int .i64 md] 65)) (by rfl) _ _ 63 (by rfl) (w.heap.size + 1) 65 i0 (.agg #[.string ⟨#[]⟩, .slice none 0 0, .int .i64 0, .int .i64 0, .int .i64 0]) 5 64 underlying63 hi0 hz0 hz1 hz2 rfl (by decide) (.slice (some ⟨w2.heap.size, 0, none⟩) 1 1) 1 4 5 rfl (by decide) _ (by rfl) (I5.out.own.alloc _) ⟨w5.heap.size, 0, none⟩ 4 [.string (bs f), .slice none 0 0, .int .i64 (bs f).size, .int .i64 1, .int .i64 0, .string (bs x), .slice none 0 0, .int .i64 (bs x).size, .int .i64 1, .int .i64 0, .string la, .slice pa na ca, .int .i64 lb, .int .i64 lc, .int .i64 ld, .string ma, .slice pb nb cb, .int .i64 mb, .int .i64 mc, .int .i64 md] (by rfl) rfl (Xr (heap_alloc_new _ _)) (List.all_eq_true.1 (by rfl)) (by decide) (by decide) (by simp; omega) ?_; intro g' c' w6 hown' hgrow hgg; have I6 := H_ (I5.out.step hB (Below.refl _ _) F5 hgrow rfl hown' hgg); have hS6 := KSg.out _ _ h5a hgrow; have hs6 := I6.out.below.size))
 go_wp2_with (go_at_call 209; go_must (refine (Z7n Ty _ _ _ _ _ _ _ _ _ _ _ _ uy _).mono ?_; rintro e w3 ⟨⟨b, rfl, hbB, hbl, hblk⟩, hb3⟩))
 have hS := H_ (FmI0.kids (I6.out.on hb3) hblk (fun e => by have := Yb I6.out.own e; omega))
 clear hblk
 rw [← Hkv.out] at hS
 clear Hkv
 go_loopw [3, 56] (fun v1 i wr => ∃ (j : Nat) (ts : List Tr) (ys : List Value), j ≤ 1 ∧ i = .int .i64 j ∧ Hid (ts = .atom Yt :: .atom f :: .atom x :: At :: Bt :: (ks.take j).map Z0) ∧ 1 ≤ ts.length ∧ ts.length ≤ 5 + j ∧ Hid (FmInv B w b kvs ts ys v1 wr)) (fun _ i _ => 1 - (intOf i).toNat)
 case atStart => exact ⟨0, _, _, Nat.zero_le _, rfl, H_ (by simp [Yy, Yt]), by simp, by simp, hS⟩
 case round =>
  obtain ⟨j, ts, ys, hj, rfl, hts, htl0, htl, hI⟩ := hrel
  have HO := H_ hI.out.own
  obtain ⟨p1, c1, rfl⟩ := Zn HO.out
  have hbel := hI.out.below.size
  have hresb := lt_of_block hI.out.res
  by_cases hlt : j < 1
  · have hjl : j < ks.length := by omega
    obtain ⟨T, u, s, o1, o2, o3, hkv, hnI, HC⟩ := HK.out j hjl
    have c0 : wr.cell? ⟨b, j, none⟩ = some (.iface T u) := by rw [Z4 hI.out.blk]; simpa using hkv
    have C := H_ (HC wr hI.out.below)
    have HS := H_ (show ts ++ [Z0 ks[j]] = .atom Yt :: .atom f :: .atom x :: At :: Bt :: (ks.take (j + 1)).map Z0 by rw [hts.out, List.take_succ_eq_append_getElem hjl, List.map_append]; rfl)
    generalize Z0 ks[j] = ft at *
    clear HC hkv HK hnI
    go_wp2_with (first | (go_at_call 69; go_must (refine (C.out).mono ?_; rintro e w5 ⟨⟨p5, m5, c5, rfl, hv5⟩, hb5⟩; have hs5 := hb5.size)) | (at_builtin; go_must (refine Zm _ rfl _ _ 63 rfl (w.heap.size + 1) 65 i0 (.agg #[.string ⟨#[]⟩, .slice none 0 0, .int .i64 0, .int .i64 0, .int .i64 0]) 5 64 underlying63 hi0 hz0 hz1 hz2 rfl (by decide) (.slice p1 ts.length c1) ts.length ys rfl ((Zx HO.out hb5).alloc _) ⟨w5.heap.size, 0, none⟩ [.string s, .slice p5 m5 c5, .int .i64 o1, .int .i64 o2, .int .i64 o3] rfl rfl (Xr (heap_alloc_new _ _)) (by intro u hu; simp at hu; rcases hu with rfl | rfl | rfl | rfl | rfl <;> rfl) (by unfold maxLen; omega) (by omega) (by simp; omega) ?_; intro g' c' w6 hown' hgrow hgg)))
    go_roundw
    case rel => exact ⟨j + 1, ts ++ [ft], _, by omega, by go_num, HS, by simp, by simp; omega, H_ (hI.out.step hB hb5 hv5 hgrow hown' hgg)⟩
    case measure => simp [intOf]; omega
  · have : j = 1 := by omega
    subst this
    have hts2 := hts.out
    rw [List.take_of_length_le (by omega)] at hts2
    obtain ⟨g, rfl⟩ : ∃ g, p1 = some ⟨g, 0, none⟩ := by
     rcases HO.out.2 with ⟨e1, e2⟩ | ⟨g, cap', cur, e1, _⟩
     · omega
     · simp only [Value.slice.injEq] at e1; exact ⟨g, e1.1⟩
    have hown := HO.out
    have hcap := Xx hown
    have hlt' := Yb hown (k := g) rfl
    have NL := H_ (J0 ts.length ts rfl ys _ g c1 wr hI.out.fv (X4 hown) (fun k hk => hk.2.1) hlt'.2 (by rw [hts2]; exact HW.out) (by rw [hts2]; have := HBy.out; omega) hcap.2 hcap.1)
    have hres := hI.out.res
    have hFin := H_ (fun w7 (h7 : Below wr.heap.size wr w7) => hI.out.fin hB h7)
    have HEq := H_ (show Tr.list (.atom Yt :: .atom f :: .atom x :: At :: Bt :: ks.map Z0) = Tr.list ts by rw [hts2])
    obtain ⟨q1, hq1⟩ : ∃ q : Int, q = (Tr.list ts).bytes := ⟨_, rfl⟩
    obtain ⟨q2, hq2⟩ : ∃ q : Int, q = (Tr.list ts).size := ⟨_, rfl⟩
    obtain ⟨q3, hq3⟩ : ∃ q : Int, q = (Tr.list ts).depth := ⟨_, rfl⟩
    rw [← hq1, ← hq2, ← hq3] at NL hFin
    clear hts2 hq1 hq2 hq3 HK hI HW HBy hown
    go_wp2_with (go_at_call 115; go_must (refine NL.out.mono ?_; rintro e w7 ⟨rfl, hb7⟩; have z := Z2 hb7 (lt_of_block hres) hres; obtain ⟨z0, z1, z2, z3, z4⟩ := Yo z; obtain ⟨f0, f1, f2, f3, f4⟩ := Q7 z))
    refine bodyPost_ret (v := .agg #[.string ⟨#[]⟩, .slice (some ⟨g, 0, none⟩) ts.length c1, .int .i64 q1, .int .i64 q2, .int .i64 q3]) (by simp [results, results69, go_sem, z0, z1, z2, z3, z4]) rfl ?_
    rw [HEq.out]
    exact hFin.out w7 hb7 _ _ _ _ _
theorem J4 : ∀ x : Ex, FmC x
 | .name s => fm_name s
 | .num n => fm_num n
 | .two .add a b => fm_add a b (J4 a) (J4 b)
 | .two .sub a b => fm_sub a b (J4 a) (J4 b)
 | .two .mul a b => fm_mul a b (J4 a) (J4 b)
 | .two .call a b => fm_call a b (J4 a) (J4 b)
 | .two .pair a b => fm_pair a b (J4 a) (J4 b)
 | .one .fst a => fm_fst a (J4 a)
 | .one .snd a => fm_snd a (J4 a)
 | .cond a b c => fm_cond a b c (J4 a) (J4 b) (J4 c)
 | .lete s e b => fm_let s e b (J4 e) (J4 b)
 | .func f x A B e => fm_fun f x A B e (J4 e)
end Go.Proofs.YtjaaalojcdbcpaaGreatDoor
