/- The program replaces atoms. -/
import Derived.Test.YtpmlpmdgmapilaaImpl1j
import Derived.Test.YtpmlpmdgmapilaaB1
import Derived.Test.YtpmlpmdgmapilaaSpec1k
namespace Go.Proofs.Ytpmlpmdgmapilaa
open Go.RowKit
set_option maxRecDepth 8000
set_option linter.unusedSimpArgs false
set_option linter.unusedVariables false
set_option maxHeartbeats 1000000 in
theorem replace_atom (x a : List UInt8) (b : Tr) (cs cb : List Value) (B : Nat) (w : World) (hv : FV nI w (fun k => k < B) (.atom x) cs) (hw : FV nI w (fun k => k < B) b cb) (hB : B ≤ w.heap.size) :
    Calls Try.prog 70 #[.agg cs.toArray, .string (bs a), .agg cb.toArray] w fun e w' => RplPost nI B w.heap.size (repl a b (.atom x)) e w' ∧ Below w.heap.size w w' := by
  obtain ⟨p, m, c, rfl⟩ := hw.node
  simp only [FV] at hv
  subst hv
  obtain ⟨u, i1, i2, i3, hu, hi1, hi2, hi3, hn⟩ := nI_named b
  obtain ⟨u', j1, j2, j3, hu', hj1, hj2, hj3, hn'⟩ := nI_named (.atom x)
  simp only [atomOf] at hu'
  subst hu'
  have HN := Lib.hid (hn (.slice p m c))
  have HN' := Lib.hid (hn' (.slice none 0 0))
  have HW := Lib.hid hw
  rw [hn, hn']
  clear hw hn hu hi1 hi2 hi3 hn' hj1 hj2 hj3
  by_cases h : x = a
  · subst h
    have HR := Lib.hid (repl_atom_yes (a := x) b rfl)
    go_enter Try.func70, Try.ntmps70
    go_wp2_with (go_at_call 58; go_must (refine (isAtom_yes _ _ _ _ _ _ _).mono ?_; rintro e w1 ⟨rfl, hb1⟩; obtain ⟨x0, x1, x2⟩ := three_blocks w (.cells #[.string (bs x), .slice none 0 0, .int .i64 j1, .int .i64 j2, .int .i64 j3] 48) (.cells #[.string u, .slice p m c, .int .i64 i1, .int .i64 i2, .int .i64 i3] 48) (.cells #[.string ⟨#[]⟩, .slice none 0 0, .int .i64 0, .int .i64 0, .int .i64 0] 48); have y0 := below_blk hb1 (lt_of_block x0) x0; have y1 := below_blk hb1 (lt_of_block x1) x1; have y2 := below_blk hb1 (lt_of_block x2) x2; have c0 := cell_of (j := 0) y0; have c1 := cell_of (j := 1) y0; have c2 := cell_of (j := 2) y0; have c3 := cell_of (j := 3) y0; have c4 := cell_of (j := 4) y0; have d0 := cell_of (j := 0) y1; have d1 := cell_of (j := 1) y1; have d2 := cell_of (j := 2) y1; have d3 := cell_of (j := 3) y1; have d4 := cell_of (j := 4) y1; have h0 := cell_of (j := 0) y2; have h1 := cell_of (j := 1) y2; have h2 := cell_of (j := 2) y2; have h3 := cell_of (j := 3) y2; have h4 := cell_of (j := 4) y2; have f0 := free_of (j := 0) y2; have f1 := free_of (j := 1) y2; have f2 := free_of (j := 2) y2; have f3 := free_of (j := 3) y2; have f4 := free_of (j := 4) y2))
    have hB1 := three_below' hb1
    refine bodyPost_ret (v := .agg #[.string u, .slice p m c, .int .i64 i1, .int .i64 i2, .int .i64 i3]) (by simp [results, Try.results70, go_sem, h0, h1, h2, h3, h4]) rfl ⟨?_, set5 hB1.1 (by omega) _ _ _ _ _⟩
    rw [HR.out]
    refine ⟨p, m, c, by rw [HN.out], FV.move (fun k hk => .inl hk) (fun k hk => ?_) _ _ HW.out⟩
    exact (set5 hB1.1 (by omega) _ _ _ _ _).block k (by omega)
  · have hd : ¬ (bs x).toList = (bs a).toList := by rw [bs_toList, bs_toList]; exact h
    have hd1 : ((bs x).toList == (bs a).toList) = false := by rw [bs_toList, bs_toList]; simpa using h
    have HR := Lib.hid (repl_atom_no b h)
    go_enter Try.func70, Try.ntmps70
    go_wp2_with (go_at_call 58; go_must (refine (isAtom_yes _ _ _ _ _ _ _).mono ?_; rintro e w1 ⟨rfl, hb1⟩; obtain ⟨x0, x1, x2⟩ := three_blocks w (.cells #[.string (bs x), .slice none 0 0, .int .i64 j1, .int .i64 j2, .int .i64 j3] 48) (.cells #[.string u, .slice p m c, .int .i64 i1, .int .i64 i2, .int .i64 i3] 48) (.cells #[.string ⟨#[]⟩, .slice none 0 0, .int .i64 0, .int .i64 0, .int .i64 0] 48); have y0 := below_blk hb1 (lt_of_block x0) x0; have y1 := below_blk hb1 (lt_of_block x1) x1; have y2 := below_blk hb1 (lt_of_block x2) x2; have c0 := cell_of (j := 0) y0; have c1 := cell_of (j := 1) y0; have c2 := cell_of (j := 2) y0; have c3 := cell_of (j := 3) y0; have c4 := cell_of (j := 4) y0; have d0 := cell_of (j := 0) y1; have d1 := cell_of (j := 1) y1; have d2 := cell_of (j := 2) y1; have d3 := cell_of (j := 3) y1; have d4 := cell_of (j := 4) y1; have h0 := cell_of (j := 0) y2; have h1 := cell_of (j := 1) y2; have h2 := cell_of (j := 2) y2; have h3 := cell_of (j := 3) y2; have h4 := cell_of (j := 4) y2; have f0 := free_of (j := 0) y2; have f1 := free_of (j := 1) y2; have f2 := free_of (j := 2) y2; have f3 := free_of (j := 3) y2; have f4 := free_of (j := 4) y2))
    have hB1 := three_below' hb1
    refine bodyPost_ret (v := .agg #[.string (bs x), .slice none 0 0, .int .i64 j1, .int .i64 j2, .int .i64 j3]) (by simp [results, Try.results70, go_sem, h0, h1, h2, h3, h4]) rfl ⟨?_, set5 hB1.1 (by omega) _ _ _ _ _⟩
    rw [HR.out]
    exact ⟨none, 0, 0, by rw [HN'.out], by simp only [FV]⟩
def RplI (n : Nat) : Prop := ∀ (t b : Tr) (a : List UInt8) (cs cb : List Value) (B : Nat) (w : World), t.depth < n → t.wf → b.wf → (repl a b t).bytes ≤ 1000000000 → FV nI w (fun k => k < B) t cs → FV nI w (fun k => k < B) b cb → B ≤ w.heap.size →
    Calls Try.prog 70 #[.agg cs.toArray, .string (bs a), .agg cb.toArray] w fun e w' => RplPost nI B w.heap.size (repl a b t) e w' ∧ Below w.heap.size w w'
set_option maxHeartbeats 4000000 in
theorem replace_list (n : Nat) (ih : RplI n) (ts : List Tr) (b : Tr) (a : List UInt8) (cs cb : List Value) (B : Nat) (w : World) (hd : (Tr.list ts).depth < n + 1) (hwf : (Tr.list ts).wf) (hwb : b.wf) (hsz : (repl a b (.list ts)).bytes ≤ 1000000000)
    (hv : FV nI w (fun k => k < B) (.list ts) cs) (hw : FV nI w (fun k => k < B) b cb) (hB : B ≤ w.heap.size) :
    Calls Try.prog 70 #[.agg cs.toArray, .string (bs a), .agg cb.toArray] w fun e w' => RplPost nI B w.heap.size (repl a b (.list ts)) e w' ∧ Below w.heap.size w w' := by
  obtain ⟨pb, mb, cpb, rfl⟩ := hw.node
  obtain ⟨r, off, cap, xs, rfl, h2, h3, h4, h5, h6⟩ := FV.list_cells hv
  obtain ⟨u, i1, i2, i3, hu, hi1, hi2, hi3, hn⟩ := nI_named b
  obtain ⟨u', j1, j2, j3, hu', hj1, hj2, hj3, hn'⟩ := nI_named (.list ts)
  simp only [atomOf] at hu'
  subst hu'
  have HN := Lib.hid (hn (.slice pb mb cpb))
  rw [hn, hn']
  have h3' : ts.length ≤ 9223372036854775807 := by have := maxLen_le h4; omega
  have HWB := Lib.hid hw
  have HW := Lib.hid hwf.2
  have HWW := Lib.hid hwb
  have hne : ts.length ≠ 0 := by intro e; exact hwf.1 (List.eq_nil_of_length_eq_zero e)
  have HI := Lib.hid ih
  rw [repl_list] at hsz
  have hrl := repls_length a b ts
  have hlen : ts.length ≤ bytess (repls a b ts) := by have := length_le_bytess (repls a b ts); omega
  simp only [Tr.bytes] at hsz
  have HSZ : Hid (∀ k (hk : k < ts.length), (repl a b ts[k]).bytes ≤ 1000000000) := Lib.hid (fun k hk => by
    have h1 := bytes_lt (ts := repls a b ts) (i := k) (by omega)
    have h2 : (repls a b ts)[k]'(by omega) = repl a b ts[k] := by simp only [repls, substs_map, List.getElem_map]; rfl
    rw [h2] at h1
    simp only [Tr.bytes] at h1; omega)
  have HWR := Lib.hid (repls_wf (a := a) hwb ts hwf.2)
  have HR := Lib.hid (repl_list a b ts)
  have HLEN := Lib.hid hrl
  obtain ⟨i0, hi0, hz0, hz1, hz2⟩ := info_parts Try.infoI
  obtain ⟨L, hL⟩ : ∃ L, L = bytess (repls a b ts) := ⟨_, rfl⟩
  rw [← hL] at hsz hlen
  have HL := Lib.hid hL
  clear ih hw hn hu hi1 hi2 hi3 hn' hj1 hj2 hj3 hv hwf hwb hrl hL
  go_enter Try.func70, Try.ntmps70
  go_wp2_with (first | (go_at_call 58; go_must (refine (isAtom_no _ _ _ _ hne _ _ _ _).mono ?_; rintro e w1 ⟨rfl, hb1⟩; obtain ⟨x0, x1, x2⟩ := three_blocks w (.cells #[.string (bs []), .slice (some ⟨r, off, none⟩) ts.length cap, .int .i64 j1, .int .i64 j2, .int .i64 j3] 48) (.cells #[.string u, .slice pb mb cpb, .int .i64 i1, .int .i64 i2, .int .i64 i3] 48) (.cells #[.string ⟨#[]⟩, .slice none 0 0, .int .i64 0, .int .i64 0, .int .i64 0] 48); have y0 := below_blk hb1 (lt_of_block x0) x0; have y1 := below_blk hb1 (lt_of_block x1) x1; have y2 := below_blk hb1 (lt_of_block x2) x2; have c1 := cell_of (j := 1) y0; have hB1 := three_below' hb1; have hn1 := hB1.2)) | (at_make; go_must (refine wpList_make_own _ rfl _ _ 46 rfl w1.heap.size 48 i0 (.agg #[.string ⟨#[]⟩, .slice none 0 0, .int .i64 0, .int .i64 0, .int .i64 0]) 5 Try.underlying46 hi0 hz0 hz1 _ _ _ ts.length rfl rfl rfl (by rw [hz2]; omega) (by unfold maxLen; omega) (Nat.le_refl _) ?_; intro w3 ho3 hg3; have k0 := blk_grown hg3 y0 (by simp); have k1 := blk_grown hg3 y1 (by simp); have k2 := blk_grown hg3 y2 (by simp); have d1 := cell_of (j := 1) k0)))
  have HB3 : Hid (Below w.heap.size w w3) := Lib.hid (hB1.1.grown hg3 (by omega) (fun k hk => by cases hk))
  have hs3 := hg3.size
  clear x0 x1 x2 y0 y1 y2 c1 hb1 hB1
  go_loopg [7, 25] ts.length (fun q v i wr => ∃ (k : Nat) (ys : List Value), q + k = ts.length ∧ i = .int .i64 k ∧ wr.heap[w.heap.size]? = some (.cells #[.string (bs []), .slice (some ⟨r, off, none⟩) ts.length cap, .int .i64 j1, .int .i64 j2, .int .i64 j3] 48 (0, 0)) ∧ wr.heap[w.heap.size + 1]? = some (.cells #[.string u, .slice pb mb cpb, .int .i64 i1, .int .i64 i2, .int .i64 i3] 48 (0, 0)) ∧ wr.heap[w.heap.size + 2]? = some (.cells #[.string ⟨#[]⟩, .slice none 0 0, .int .i64 0, .int .i64 0, .int .i64 0] 48 (0, 0)) ∧
    Hid (wr.ownsRow w1.heap.size 48 5 v k ys) ∧ Hid (FVs nI wr (fun q => (q < B ∨ w1.heap.size ≤ q) ∧ q < wr.heap.size ∧ v.ownBlock ≠ some q) (repls a b (ts.take k)) ys) ∧ Hid (Below w.heap.size w wr) ∧ w1.heap.size ≤ wr.heap.size)
  case atStart =>
    refine ⟨0, [], by omega, rfl, k0, k1, k2, Lib.hid ho3, Lib.hid ?_, HB3, hs3⟩
    simp only [List.take_zero, repls, substs, FVs]
  case round =>
    obtain ⟨k, ys, hq, rfl, hb0, hb1, hb2, ho, hfv, hbel, hszr⟩ := hrel
    obtain ⟨vp, vc, rfl⟩ := owns_slice ho.out
    by_cases hlt : k < ts.length
    · obtain ⟨ds, g1, g2⟩ := FVs.get nI_len h6 h5 k hlt
      obtain ⟨p, pn, pnc, rfl⟩ := g1.node
      obtain ⟨u5, l1, l2, l3, hu5, hl1, hl2, hl3, hn5⟩ := nI_named ts[k]
      rw [hn5] at g2
      have hrl : r < w.heap.size := by omega
      have e0 : wr.cell? ⟨r, off + k * 5, none⟩ = some (.string u5) := by rw [hbel.out.cell (by exact hrl)]; exact g2 0 _ rfl
      have e1 : wr.cell? ⟨r, off + k * 5 + 1, none⟩ = some (.slice p pn pnc) := by rw [hbel.out.cell (by exact hrl)]; exact g2 1 _ rfl
      have e2 : wr.cell? ⟨r, off + k * 5 + 2, none⟩ = some (.int .i64 l1) := by rw [hbel.out.cell (by exact hrl)]; exact g2 2 _ rfl
      have e3 : wr.cell? ⟨r, off + k * 5 + 3, none⟩ = some (.int .i64 l2) := by rw [hbel.out.cell (by exact hrl)]; exact g2 3 _ rfl
      have e4 : wr.cell? ⟨r, off + k * 5 + 4, none⟩ = some (.int .i64 l3) := by rw [hbel.out.cell (by exact hrl)]; exact g2 4 _ rfl
      have c0 := cell_of (j := 0) hb0
      have c1 := cell_of (j := 1) hb0
      have d0 := cell_of (j := 0) hb1
      have d1 := cell_of (j := 1) hb1
      have d2 := cell_of (j := 2) hb1
      have d3 := cell_of (j := 3) hb1
      have d4 := cell_of (j := 4) hb1
      have hlt0 : w.heap.size < wr.heap.size := by omega
      have hlt1 : w.heap.size + 1 < wr.heap.size := by omega
      have da0 : ∀ o, (wr.alloc o).cell? ⟨w.heap.size + 1, 0, none⟩ = _ := fun o => cell_of (j := 0) (blk_alloc (o' := o) hb1)
      have da1 : ∀ o, (wr.alloc o).cell? ⟨w.heap.size + 1, 1, none⟩ = _ := fun o => cell_of (j := 1) (blk_alloc (o' := o) hb1)
      have da2 : ∀ o, (wr.alloc o).cell? ⟨w.heap.size + 1, 2, none⟩ = _ := fun o => cell_of (j := 2) (blk_alloc (o' := o) hb1)
      have da3 : ∀ o, (wr.alloc o).cell? ⟨w.heap.size + 1, 3, none⟩ = _ := fun o => cell_of (j := 3) (blk_alloc (o' := o) hb1)
      have da4 : ∀ o, (wr.alloc o).cell? ⟨w.heap.size + 1, 4, none⟩ = _ := fun o => cell_of (j := 4) (blk_alloc (o' := o) hb1)
      have hdk : ts[k].depth < n := by have := depth_lt hlt; omega
      have hwk := wf_get HW.out hlt
      have g1' := Lib.hid g1
      have HN5 := Lib.hid (hn5 (.slice p pn pnc))
      obtain ⟨s5, o1, o2, o3, hs5, ho1, ho2, ho3', hn6⟩ := nI_named (repl a b ts[k])
      have HN6 := Lib.hid hn6
      have C : Hid (∀ o, Calls Try.prog 70 #[.agg #[.string u5, .slice p pn pnc, .int .i64 l1, .int .i64 l2, .int .i64 l3], .string (bs a), .agg #[.string u, .slice pb mb cpb, .int .i64 i1, .int .i64 i2, .int .i64 i3]] (wr.alloc o) fun e w' => (∃ p m c, e = .returned (.agg #[.string s5, .slice p m c, .int .i64 o1, .int .i64 o2, .int .i64 o3]) ∧ FV nI w' (fun k => k < B ∨ (wr.heap.size + 1 ≤ k ∧ k < w'.heap.size)) (repl a b ts[k]) (nI (repl a b ts[k]) (.slice p m c))) ∧ Below (wr.heap.size + 1) (wr.alloc o) w') :=
        Lib.hid (fun o => by
          have hBW := hbel.out.alloc (by omega) o
          have := HI.out ts[k] b a _ _ B (wr.alloc o) hdk hwk HWW.out (HSZ.out k hlt) (g1'.out.below hBW (fun j hj => by omega)) (HWB.out.below hBW (fun j hj => by omega)) (by have := hBW.size; omega)
          rw [HN.out, HN5.out] at this
          refine this.mono fun e w' ⟨⟨p, m, c, q1, q2⟩, q3⟩ => ⟨⟨p, m, c, by rw [q1, HN6.out], by simpa using q2⟩, by simpa using q3⟩)
      clear g1 g2 hwk hn5 hn6 hu5 hl1 hl2 hl3 hs5 ho1 ho2 ho3'
      go_wp2_with (first | (go_at_call 70; go_must (refine (C.out _).mono ?_; rintro e w5 ⟨⟨p5, m5, c5, rfl, hv5⟩, hb5⟩; have hs5 := hb5.size; simp only [alloc_size] at hs5)) | (at_builtin; go_loud (refine wpList_append_one _ rfl _ _ 46 rfl w1.heap.size 48 i0 (.agg #[.string ⟨#[]⟩, .slice none 0 0, .int .i64 0, .int .i64 0, .int .i64 0]) 5 64 Try.underlying46 hi0 hz0 hz1 hz2 rfl (by decide) _ _ _ rfl ((owns_below (ho.out.alloc _) (by simpa using hb5)).alloc _) ⟨w5.heap.size, 0, none⟩ [.string s5, .slice p5 m5 c5, .int .i64 o1, .int .i64 o2, .int .i64 o3] rfl rfl (news_at (heap_alloc_new _ _)) (by intro u hu; simp at hu; rcases hu with rfl | rfl | rfl | rfl | rfl <;> rfl) (by unfold maxLen; omega) (by omega) (by simp; omega) ?_; intro g' c' w6 hown' hgrow hgg)))

      have hgs := hgrow.size
      simp only [alloc_size] at hgs
      have hcut : ∀ j, j < w.heap.size + 3 → w6.heap[j]? = wr.heap[j]? := fun j hj => by
        rw [hgrow.block j (by simp; omega) (fun e => by have := ho.out.lt j e.symm; omega), heap_alloc_old (h := by omega), hb5.block j (by omega), heap_alloc_old (h := by omega)]
      go_roundg (gk - 1)
      case measure => omega
      case rel =>
        refine ⟨k + 1, ys ++ [.string s5, .slice p5 m5 c5, .int .i64 o1, .int .i64 o2, .int .i64 o3], by omega, by go_num, by rw [hcut _ (by omega)]; exact hb0, by rw [hcut _ (by omega)]; exact hb1, by rw [hcut _ (by omega)]; exact hb2, Lib.hid hown', Lib.hid ?_, Lib.hid ?_, by omega⟩
        · rw [repls_take a b ts k hlt, ← HN6.out]
          exact FVs.snoc (FV.grownP (w := wr.alloc (.cells #[.string u5, .slice p pn pnc, .int .i64 l1, .int .i64 l2, .int .i64 l3] 48)) (N := w1.heap.size) (by simpa using hv5) (by omega) (by simp; omega) (by simp; omega) (below1 _ _) hgrow rfl hgg (fun q hq => by have := ho.out.lt q hq; simp; omega)) (FVs.grownP hfv.out ((below1 wr _).trans ((hb5.mono (by omega)).trans ((below1 _ _).mono (by omega)))) hgrow rfl hgg)
        · exact (((hbel.out.alloc (by omega) _).trans (hb5.mono (by omega))).alloc (by omega) _).grown hgrow (by simp; omega) (fun q hq => by have := ho.out.lt q hq; omega)
    · have : k = ts.length := by omega
      subst this
      have hown := ho.out
      have hcap := owns_cap hown
      have hpp : ∃ g, vp = some ⟨g, 0, none⟩ := by
        rcases hown.2 with ⟨e1, e2⟩ | ⟨g, cap', cur, e1, _⟩
        · exact absurd e2 hne
        · simp only [Value.slice.injEq] at e1; exact ⟨g, e1.1⟩
      obtain ⟨g, rfl⟩ := hpp
      have hlt' := hown.lt g rfl
      have hfs := hfv.out
      rw [List.take_length] at hfs
      have NL := Lib.hid (newList_n ts.length (repls a b ts) HLEN.out ys _ g vc wr hfs (owns_row hown) (fun k hk => hk.2.1) hlt'.2 HWR.out (by rw [← HL.out]; omega) hcap.2 hcap.1)
      obtain ⟨s5, o1, o2, o3, hs5, ho1, ho2, ho3', hn6⟩ := nI_named (.list (repls a b ts))
      simp only [atomOf] at hs5
      subst hs5
      rw [← ho1, ← ho2, ← ho3'] at NL
      have HN6 := Lib.hid hn6
      have HFS := Lib.hid hfs
      clear hfs hn6 ho1 ho2 ho3'
      go_wp2_with (go_at_call 61; go_must (refine NL.out.mono ?_; rintro e w7 ⟨rfl, hb7⟩; have y2 := below_blk hb7 (lt_of_block hb2) hb2; have h0 := cell_of (j := 0) y2; have h1 := cell_of (j := 1) y2; have h2 := cell_of (j := 2) y2; have h3 := cell_of (j := 3) y2; have h4 := cell_of (j := 4) y2; have f0 := free_of (j := 0) y2; have f1 := free_of (j := 1) y2; have f2 := free_of (j := 2) y2; have f3 := free_of (j := 3) y2; have f4 := free_of (j := 4) y2; have hs7 := hb7.size))
      have hB7 : Below w.heap.size w w7 := hbel.out.trans (hb7.mono (by omega))
      refine bodyPost_ret (v := .agg #[.string ⟨#[]⟩, .slice (some ⟨g, 0, none⟩) ts.length vc, .int .i64 o1, .int .i64 o2, .int .i64 o3]) (by simp [results, Try.results70, go_sem, h0, h1, h2, h3, h4]) rfl ⟨?_, set5 hB7 (by omega) _ _ _ _ _⟩
      rw [HR.out]
      refine ⟨some ⟨g, 0, none⟩, ts.length, vc, by rw [HN6.out]; rfl, ?_⟩
      simp only [FV]
      refine ⟨g, 0, vc, ys, by rw [HLEN.out], .inr ⟨by omega, by simp; omega⟩, by rw [HLEN.out]; exact hcap.1, hcap.2, (owns_row hown).move ?_, FVs.move (fun q hq => ?_) (fun q hq => ?_) _ _ HFS.out⟩
      · rw [blk_set_other _ (by simp; omega), blk_set_other _ (by simp; omega), blk_set_other _ (by simp; omega), blk_set_other _ (by simp; omega), blk_set_other _ (by simp; omega), hb7.block _ hlt'.2]
      · simp; omega
      · rw [blk_set_other _ (by simp; omega), blk_set_other _ (by simp; omega), blk_set_other _ (by simp; omega), blk_set_other _ (by simp; omega), blk_set_other _ (by simp; omega), hb7.block _ (by omega)]
theorem replace_all : ∀ n, RplI n
  | 0 => fun t _ _ _ _ _ _ h => by omega
  | n + 1 => fun t b a cs cb B w hd hwf hwb hsz hv hw hB => by
    match t, hd, hwf, hsz, hv with
    | .atom x, hd, hwf, hsz, hv => exact replace_atom x a b cs cb B w hv hw hB
    | .list ts, hd, hwf, hsz, hv => exact replace_list n (replace_all n) ts b a cs cb B w hd hwf hwb hsz hv hw hB
end Go.Proofs.Ytpmlpmdgmapilaa
