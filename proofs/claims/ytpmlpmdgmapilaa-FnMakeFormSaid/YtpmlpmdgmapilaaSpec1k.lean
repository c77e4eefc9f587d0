/- The reference model replaces atoms. -/
import Derived.Test.YtpmlpmdgmapilaaS1z
import Derived.Test.YtpmlpmdgmapilaaPure4
import Derived.Deep.LoopGhost
import Derived.Deep.RegionHeld3
import Derived.Deep.RegionLaw
import Derived.Deep.DrawnRows
namespace Go.Proofs.Ytpmlpmdgmapilaa
open Go.RowKit
set_option maxRecDepth 8000
set_option linter.unusedSimpArgs false
set_option linter.unusedVariables false
attribute [local go_sem ↓] Go.wp_at_zero Go.wp_at_succ
/-- What replacing hands back, by the cells of a node. -/
def RplPost (nd : Tr → Value → List Value) (B N : Nat) (t : Tr) (e : Ending) (w' : World) : Prop :=
  ∃ p m c, e = .returned (.agg (nd t (.slice p m c)).toArray) ∧ FV nd w' (fun k => k < B ∨ (N ≤ k ∧ k < w'.heap.size)) t (nd t (.slice p m c))
/-- A node of the reference model whose first cell bears a name. -/
theorem nS_named (t : Tr) : ∃ u, u = bs (atomOf t) ∧ ∀ v, nS t v = [.string u, v] := ⟨_, rfl, fun _ => rfl⟩
set_option maxHeartbeats 1000000 in
theorem l1Replace_atom (x a : List UInt8) (b : Tr) (cs cb : List Value) (B : Nat) (w : World) (hx : x ≠ []) (ha : a ≠ []) (hv : FV nS w (fun k => k < B) (.atom x) cs) (hw : FV nS w (fun k => k < B) b cb) (hB : B ≤ w.heap.size) :
    Calls Try.prog 72 #[.agg cs.toArray, .string (bs a), .agg cb.toArray] w fun e w' => RplPost nS B w.heap.size (repl a b (.atom x)) e w' ∧ Below w.heap.size w w' := by
  obtain ⟨p, m, c, rfl⟩ := hw.node
  simp only [FV] at hv
  subst hv
  have hne := atomne hx
  have hna := atomne ha
  obtain ⟨u, hu, hn⟩ := nS_named b
  by_cases h : x = a
  · subst h
    have HR := Lib.hid (repl_atom_yes (a := x) b rfl)
    have HW := Lib.hid hw
    rw [hn]
    simp only [nS, atomOf]
    have hN := Lib.hid (hn (.slice p m c))
    clear hw hn hu
    go_enter Try.func72, Try.ntmps72
    go_wp2_with fail
    refine bodyPost_ret (v := .agg #[.string u, .slice p m c]) (by simp [results, Try.results72, go_sem]) rfl ⟨?_, below3 w _ _ _⟩
    rw [HR.out]
    refine ⟨p, m, c, by rw [hN.out], FV.move (fun k hk => .inl hk) (fun k hk => ?_) _ _ HW.out⟩
    exact (below3 w _ _ _).block k (by omega)
  · have HR := Lib.hid (repl_atom_no b h)
    have HW := Lib.hid hw
    rw [hn]
    simp only [nS, atomOf]
    have hN := Lib.hid (hn (.slice p m c))
    clear hw hn hu
    have hd : ¬ (bs x).toList = (bs a).toList := by rw [bs_toList, bs_toList]; exact h
    have hd1 : ((bs x).toList == (bs a).toList) = false := by rw [bs_toList, bs_toList]; simpa using h
    go_enter Try.func72, Try.ntmps72
    go_wp2_with fail
    refine bodyPost_ret (v := .agg #[.string (bs x), .slice none 0 0]) (by simp [results, Try.results72, go_sem]) rfl ⟨?_, below3 w _ _ _⟩
    rw [HR.out]
    exact ⟨none, 0, 0, rfl, by simp only [FV]⟩
theorem FVs.grownP {nd : Tr → Value → List Value} {P : Nat → Prop} {w W w2 : World} {v v' : Value} {g' : Nat} {ts : List Tr} {xs : List Value}
    (h : FVs nd w (fun q => P q ∧ q < w.heap.size ∧ v.ownBlock ≠ some q) ts xs) (hb : Below w.heap.size w W) (hg : W.grownBy w2 v.ownBlock) (hv : v'.ownBlock = some g') (hgg : v.ownBlock = some g' ∨ g' = W.heap.size) :
    FVs nd w2 (fun q => P q ∧ q < w2.heap.size ∧ v'.ownBlock ≠ some q) ts xs := by
  refine FVs.move ?_ ?_ ts xs h
  · rintro q ⟨h1, h2, h3⟩
    refine ⟨h1, Nat.lt_of_lt_of_le h2 (Nat.le_trans hb.size hg.size), ?_⟩
    rw [hv]
    rcases hgg with hgg | hgg
    · rw [← hgg]; exact h3
    · intro e
      have := hb.size
      simp only [Option.some.injEq] at e
      omega
  · rintro q ⟨h1, h2, h3⟩
    rw [hg.block q (Nat.lt_of_lt_of_le h2 hb.size) (fun e => h3 e.symm), hb.block q h2]
theorem FV.grownP {nd : Tr → Value → List Value} {w w' W w2 : World} {B N : Nat} {v v' : Value} {g' : Nat} {t : Tr} {cs : List Value}
    (h : FV nd w' (fun q => q < B ∨ (w.heap.size ≤ q ∧ q < w'.heap.size)) t cs) (hB : B ≤ N) (hN : N ≤ w.heap.size) (hw : w.heap.size ≤ w'.heap.size) (hb : Below w'.heap.size w' W) (hg : W.grownBy w2 v.ownBlock) (hv : v'.ownBlock = some g') (hgg : v.ownBlock = some g' ∨ g' = W.heap.size)
    (hold : ∀ q, v.ownBlock = some q → N ≤ q ∧ q < w.heap.size) :
    FV nd w2 (fun q => (q < B ∨ N ≤ q) ∧ q < w2.heap.size ∧ v'.ownBlock ≠ some q) t cs := by
  have hs := hb.size
  have hs2 := hg.size
  refine FV.move ?_ ?_ t cs h
  · intro q hq
    refine ⟨by omega, by omega, ?_⟩
    rw [hv]
    intro e
    simp only [Option.some.injEq] at e
    subst e
    rcases hgg with hgg | hgg
    · have := hold _ hgg; omega
    · omega
  · intro q hq
    rw [hg.block q (by omega) (fun e => by have := hold q e.symm; omega), hb.block q (by omega)]
theorem below_drew (w : World) : Below w.heap.size w w.drew := (Below.refl _ _).drew
def RplS (n : Nat) : Prop := ∀ (t b : Tr) (a : List UInt8) (cs cb : List Value) (B : Nat) (w : World), t.depth < n → t.wf → a ≠ [] → t.bytes ≤ 1000000000 → FV nS w (fun k => k < B) t cs → FV nS w (fun k => k < B) b cb → B ≤ w.heap.size →
    Calls Try.prog 72 #[.agg cs.toArray, .string (bs a), .agg cb.toArray] w fun e w' => RplPost nS B w.heap.size (repl a b t) e w' ∧ Below w.heap.size w w'
set_option maxHeartbeats 4000000 in
theorem l1Replace_list (n : Nat) (ih : RplS n) (ts : List Tr) (b : Tr) (a : List UInt8) (cs cb : List Value) (B : Nat) (w : World) (hd : (Tr.list ts).depth < n + 1) (hwf : (Tr.list ts).wf) (ha : a ≠ []) (hsz : (Tr.list ts).bytes ≤ 1000000000)
    (hv : FV nS w (fun k => k < B) (.list ts) cs) (hw : FV nS w (fun k => k < B) b cb) (hB : B ≤ w.heap.size) :
    Calls Try.prog 72 #[.agg cs.toArray, .string (bs a), .agg cb.toArray] w fun e w' => RplPost nS B w.heap.size (repl a b (.list ts)) e w' ∧ Below w.heap.size w w' := by
  obtain ⟨pb, mb, cpb, rfl⟩ := hw.node
  obtain ⟨r, off, cap, xs, rfl, h2, h3, h4, h5, h6⟩ := FV.list_cells hv
  obtain ⟨u, hu, hn⟩ := nS_named b
  have hn0 := hn (.slice pb mb cpb)
  rw [hn0]
  simp only [nS, atomOf]
  have hemp := emptyne
  have hna := atomne ha
  have h3' : ts.length ≤ 9223372036854775807 := by have := maxLen_le h4; omega
  have hlen := length_le_bytess ts
  simp only [Tr.bytes] at hsz
  have HR := Lib.hid (repl_list a b ts)
  have HWB := Lib.hid hw
  have HN := Lib.hid hn0
  have HW := Lib.hid hwf.2
  have hne : ts.length ≠ 0 := by intro e; exact hwf.1 (List.eq_nil_of_length_eq_zero e)
  have HI := Lib.hid ih
  have hdn : ¬ (bs []).toList = (bs a).toList := by rw [bs_toList, bs_toList]; exact fun e => ha e.symm
  have hd1 : ((bs []).toList == (bs a).toList) = false := by rw [bs_toList, bs_toList]; simpa using fun e => ha e
  obtain ⟨i0, hi0, hz0, hz1, hz2⟩ := info_parts Try.infoS
  clear ih hw hn hu hn0 hv hwf
  go_enter Try.func72, Try.ntmps72
  go_wp2_with fail
  go_loopg [8] ts.length (fun q i wr => ∃ (k : Nat) (pv : Value) (ys : List Value), q + k = ts.length ∧ i = .int .i64 k ∧ wr.heap[w.heap.size]? = some (.cells #[.string (bs []), .slice (some ⟨r, off, none⟩) ts.length cap] 53 (0, 0)) ∧
    wr.heap[w.heap.size + 1]? = some (.cells #[.string u, .slice pb mb cpb] 53 (0, 0)) ∧ wr.heap[w.heap.size + 2]? = some (.cells #[.string ⟨#[]⟩, .slice none 0 0] 53 (0, 0)) ∧ wr.heap[w.heap.size + 3]? = some (.cells #[.string ⟨#[]⟩, pv] 53 (0, 0)) ∧
    Hid (wr.ownsRow (w.heap.size + 4) 53 2 pv k ys) ∧ Hid (FVs nS wr (fun q => (q < B ∨ w.heap.size + 4 ≤ q) ∧ q < wr.heap.size ∧ pv.ownBlock ≠ some q) (repls a b (ts.take k)) ys) ∧ Hid (Below w.heap.size w wr))
  case atStart =>
    refine ⟨0, .slice none 0 0, [], by omega, rfl, ?_, ?_, ?_, ?_, Lib.hid (World.ownsRow_nil _ _ _ _), Lib.hid ?_, Lib.hid (((below3 w _ _ _).alloc (by simp; omega) _))⟩
    · exact blk_alloc (blk_alloc (blk_alloc (heap_alloc_new _ _)))
    · exact blk_alloc (blk_alloc (heap_alloc_new2 _ _ _))
    · have := heap_alloc_new2 (w.alloc (.cells #[.string (bs []), .slice (some ⟨r, off, none⟩) ts.length cap] 53)) (.cells #[.string u, .slice pb mb cpb] 53) (.cells #[.string ⟨#[]⟩, .slice none 0 0] 53)
      exact blk_alloc (by simpa using this)
    · have := heap_alloc_new2 ((w.alloc (.cells #[.string (bs []), .slice (some ⟨r, off, none⟩) ts.length cap] 53)).alloc (.cells #[.string u, .slice pb mb cpb] 53)) (.cells #[.string ⟨#[]⟩, .slice none 0 0] 53) (.cells #[.string ⟨#[]⟩, .slice none 0 0] 53)
      simpa using this
    · simp only [List.take_zero, repls, substs, FVs]
  case round =>
    obtain ⟨k, pv, ys, hq, rfl, hb0, hb1, hb2, hb3, ho, hfv, hbel⟩ := hrel
    obtain ⟨pp, pc, rfl⟩ := owns_slice ho.out
    have hN := lt_of_block hb3
    have x1 := cell_of (j := 1) hb0
    by_cases hlt : k < ts.length
    · obtain ⟨ds, g1, g2⟩ := FVs.get nS_len h6 h5 k hlt
      obtain ⟨p, pn, pnc, rfl⟩ := g1.node
      have hrl : r < w.heap.size := by omega
      have e0 : wr.cell? ⟨r, off + k * 2, none⟩ = some (.string (bs (atomOf ts[k]))) := by rw [hbel.out.cell (by exact hrl)]; exact g2 0 _ rfl
      have e1 : wr.cell? ⟨r, off + k * 2 + 1, none⟩ = some (.slice p pn pnc) := by rw [hbel.out.cell (by exact hrl)]; exact g2 1 _ rfl
      have y0 := cell_of (j := 0) hb1
      have y1 := cell_of (j := 1) hb1
      have z1 := cell_of (j := 1) hb3
      have f1 := free_of (j := 1) hb3
      have hk0 : (0 : Int) ≤ (k : Int) := Int.natCast_nonneg _
      have hk1 : (k : Int) < (ts.length : Int) := by omega
      have hdk : ts[k].depth < n := by have := depth_lt hlt; omega
      have hbk := bytes_lt hlt
      have hwk := wf_get HW.out hlt
      have g1' := Lib.hid g1
      simp only [Tr.bytes] at hbk
      have C : Hid (∀ W, Below wr.heap.size wr W → Calls Try.prog 72 #[.agg #[.string (bs (atomOf ts[k])), .slice p pn pnc], .string (bs a), .agg #[.string u, .slice pb mb cpb]] W fun e w' => (∃ p m c, e = .returned (.agg #[.string (bs (atomOf (repl a b ts[k]))), .slice p m c]) ∧ FV nS w' (fun k => k < B ∨ (W.heap.size ≤ k ∧ k < w'.heap.size)) (repl a b ts[k]) (nS (repl a b ts[k]) (.slice p m c))) ∧ Below W.heap.size W w') :=
        Lib.hid (fun W hW => by
          have hBW := hbel.out.trans (hW.mono hbel.out.size)
          have := HI.out ts[k] b a _ _ B W hdk hwk ha (by omega) (g1'.out.below hBW (fun j hj => by omega)) (HWB.out.below hBW (fun j hj => by omega)) (by have := hBW.size; omega)
          rw [HN.out] at this
          exact this)
      clear g1 hbk hwk
      go_wp2_with fail
      go_region_law (first | (go_simp; go_at_call 72; refine (C.out _ (below_drew _)).mono ?_; rintro e w5 ⟨⟨p5, m5, c5, rfl, hv5⟩, hb5⟩; have y5 := below_blk hb5 (by simp; omega) hb3; have z5 := cell_of (j := 1) y5; have hs5 := hb5.size; have hl5 : w.heap.size + 3 < w5.heap.size := Nat.lt_of_lt_of_le hN hs5; have hl6 : w.heap.size + 1 + 1 + 1 < w5.heap.size := hl5; have z5a : ∀ o, (w5.alloc o).cell? ⟨w.heap.size + 1 + 1 + 1, 1, none⟩ = some (.slice pp k pc) := fun o => cell_of (j := 1) (blk_alloc (o' := o) y5)) | (refine step_append_one _ (by rfl) _ _ _ (by rfl) (w.heap.size + 4) 53 i0 _ 2 40 Try.underlying51 hi0 hz0 hz1 hz2 rfl (by omega) _ k ys (by rfl) ((owns_below ho.out.drew hb5).alloc _) ⟨w5.heap.size, 0, none⟩ [.string (bs (atomOf (repl a b ts[k]))), .slice p5 m5 c5] (by rfl) (by rfl) (news_at (heap_alloc_new _ _)) (by simp [Value.oneCell']) (by unfold maxLen; omega) (by omega) (by have := hb5.size; simp at this ⊢; omega) _ rfl ?_; intro g' c' w6 hown' hgrow hgg; have y6 := blk_grown hgrow (blk_alloc y5) (owns_lt ho.out (by omega)); have z6 := cell_of (j := 1) y6; have f6 := free_of (j := 1) y6))
      all_goals
        go_wp2_with fail
        go_roundg (gk - 1)
        case measure => omega
        case rel =>
          have hgs := hgrow.size
          simp only [alloc_size] at hgs
          refine ⟨k + 1, .slice (some ⟨g', 0, none⟩) (k + 1) c', ys ++ [.string (bs (atomOf (repl a b ts[k]))), .slice p5 m5 c5], by omega, by go_num, ?_, ?_, ?_, ?_, ?_, ?_, ?_⟩
          · rw [blk_set_other _ (by simp <;> omega)]; exact blk_grown hgrow (blk_alloc (below_blk hb5 (by simp; omega) hb0)) (owns_lt ho.out (by omega))
          · rw [blk_set_other _ (by simp <;> omega)]; exact blk_grown hgrow (blk_alloc (below_blk hb5 (by simp; omega) hb1)) (owns_lt ho.out (by omega))
          · rw [blk_set_other _ (by simp <;> omega)]; exact blk_grown hgrow (blk_alloc (below_blk hb5 (by simp; omega) hb2)) (owns_lt ho.out (by omega))
          · exact blk_set y6 _
          · exact Lib.hid (by have := ownsRow_setCell_other hown' (a := ⟨w.heap.size + 3, 1, none⟩) (owns_lt hown' (by simp)) (.slice (some ⟨g', 0, none⟩) (k + 1) c'); simpa using this)
          · refine Lib.hid ?_
            rw [repls_take a b ts k hlt]
            refine FVs.move (w := w6) (ok := fun q => (q < B ∨ w.heap.size + 4 ≤ q) ∧ q < w6.heap.size ∧ (Value.slice (some ⟨g', 0, none⟩) (k + 1) c').ownBlock ≠ some q) (fun q hq => by simpa using hq) (fun q hq => blk_set_other _ (by simp; omega)) _ _ ?_
            exact FVs.snoc (FV.grownP (w := wr.drew) (N := w.heap.size + 4) hv5 (by omega) (by simp; omega) hb5.size (below1 _ _) hgrow rfl hgg (fun q hq => ho.out.lt q hq)) (FVs.grownP hfv.out ((below_drew wr).trans ((hb5.mono (by simp)).trans ((below1 _ _).mono hs5))) hgrow rfl hgg)
          · exact Lib.hid (((((hbel.out.trans ((below_drew wr).mono hbel.out.size)).trans (hb5.mono (by simp; omega))).alloc (by omega) _).grown hgrow (by simp; omega) (fun q hq => by have := ho.out.lt q hq; omega)).setCell (by simp <;> omega) _)
    · have : k = ts.length := by omega
      subst this
      have v0 := cell_of (j := 0) hb3
      have v1 := cell_of (j := 1) hb3
      have q0 := cell_of (j := 0) hb2
      have q1 := cell_of (j := 1) hb2
      have f0 := free_of (j := 0) hb2
      have f1 := free_of (j := 1) hb2
      have hown := ho.out
      have hcap := owns_cap hown
      have hpp : ∃ g, pp = some ⟨g, 0, none⟩ := by
        rcases hown.2 with ⟨e1, e2⟩ | ⟨g, cap', cur, e1, _⟩
        · exact absurd e2 hne
        · simp only [Value.slice.injEq] at e1; exact ⟨g, e1.1⟩
      obtain ⟨g, rfl⟩ := hpp
      have hlt' := hown.lt g rfl
      go_wp2_with fail
      refine bodyPost_ret (v := .agg #[.string ⟨#[]⟩, .slice (some ⟨g, 0, none⟩) ts.length pc]) (by simp [results, Try.results72, go_sem, q0, q1]) rfl ⟨?_, ?_⟩
      · rw [HR.out]
        refine ⟨some ⟨g, 0, none⟩, ts.length, pc, rfl, ?_⟩
        simp only [FV]
        have hfs := hfv.out
        rw [List.take_length] at hfs
        refine ⟨g, 0, pc, ys, by rw [repls_length], .inr ⟨by omega, by simp; omega⟩, by rw [repls_length]; exact hcap.1, hcap.2, (owns_row hown).move ?_, FVs.move (fun q hq => ?_) (fun q hq => ?_) _ _ hfs⟩
        · rw [blk_set_other _ (by simp; omega), blk_set_other _ (by simp; omega)]
        · simp; omega
        · rw [blk_set_other _ (by simp; omega), blk_set_other _ (by simp; omega)]
      · exact (hbel.out.setCell (by simp <;> omega) _).setCell (by simp <;> omega) _
end Go.Proofs.Ytpmlpmdgmapilaa
