/- The program writes expressions as forms: let. -/
import Derived.Test.YtgliggljegghhaaDoorImpl2r
namespace Go.Proofs.YtgliggljegghhaaDoor
open Go.RowKit
set_option maxRecDepth 8000
set_option linter.unusedSimpArgs false
set_option linter.unusedVariables false
structure FmI0 (B : Nat) (w : World) (ts : List Tr) (ys : List Value) (v1 : Value) (wr : World) : Prop where
  own : wr.ownsRow (w.heap.size + 1) 34 5 v1 ts.length ys
  fv : FVs nI wr (fun q => (q < B ∨ w.heap.size + 1 ≤ q) ∧ q < wr.heap.size ∧ v1.ownBlock ≠ some q) ts ys
  below : Below w.heap.size w wr
  res : wr.heap[w.heap.size]? = some (.cells #[.string ⟨#[]⟩, .slice none 0 0, .int .i64 0, .int .i64 0, .int .i64 0] 34 (0, 0))
theorem FVs.append2 {nd : Tr → Value → List Value} {w : World} {ok : Nat → Prop} : ∀ {ts us : List Tr} {xs ys : List Value}, FVs nd w ok ts xs → FVs nd w ok us ys → FVs nd w ok (ts ++ us) (xs ++ ys)
  | [], us, xs, ys, h, h2 => by simp only [FVs] at h; subst h; simpa using h2
  | t :: ts, us, xs, ys, h, h2 => by
    simp only [FVs, List.cons_append] at h ⊢
    obtain ⟨a, b, rfl, q1, q2⟩ := h
    exact ⟨a, b ++ ys, by simp, q1, FVs.append2 q2 h2⟩
theorem FmI0.step {B : Nat} {w wr w2 w3 : World} {ts us : List Tr} {ys : List Value} {v1 : Value} {cs : List Value} {o : Obj} {g' c' n : Nat} (h : FmI0 B w ts ys v1 wr) (hB : B ≤ w.heap.size) (h2 : Below wr.heap.size wr w2)
    (hf : FVs nI w2 (fun k => k < B ∨ (wr.heap.size ≤ k ∧ k < w2.heap.size)) us cs) (hg : (w2.alloc o).grownBy w3 v1.ownBlock) (hn : n = ts.length + us.length)
    (ho : w3.ownsRow (w.heap.size + 1) 34 5 (.slice (some ⟨g', 0, none⟩) n c') n (ys ++ cs)) (hv : v1.ownBlock = some g' ∨ g' = (w2.alloc o).heap.size) : FmI0 B w (ts ++ us) (ys ++ cs) (.slice (some ⟨g', 0, none⟩) n c') w3 := by
  have hs2 := h2.size
  have hsg := hg.size
  have hbs := h.below.size
  simp only [alloc_size] at hsg hv
  have hres := lt_of_block h.res
  have hold : ∀ q, v1.ownBlock = some q → w.heap.size + 1 ≤ q ∧ q < wr.heap.size := fun q hq => own_lt h.own hq
  have hmv : ∀ q, q < wr.heap.size → v1.ownBlock ≠ some q → w3.heap[q]? = wr.heap[q]? := fun q hq hne => by
    rw [hg.block q (by simp; omega) (fun e => hne e.symm), heap_alloc_old _ _ (by omega), h2.block q hq]
  have hnew : ∀ q, (q < wr.heap.size ∧ v1.ownBlock ≠ some q) → (Value.slice (some ⟨g', 0, none⟩) n c').ownBlock ≠ some q := fun q hq e => by
    simp only [Value.ownBlock, Option.some.injEq] at e
    subst e
    rcases hv with hv | hv
    · exact hq.2 hv
    · omega
  refine ⟨by rw [List.length_append, ← hn]; exact ho, ?_, ?_, ?_⟩
  · refine FVs.append2 (FVs.move ?_ ?_ _ _ h.fv) (FVs.move ?_ ?_ _ _ hf)
    · rintro q ⟨q1, q2, q3⟩
      exact ⟨q1, by omega, hnew q ⟨q2, q3⟩⟩
    · rintro q ⟨q1, q2, q3⟩
      exact hmv q q2 q3
    · intro q hq
      refine ⟨by omega, by omega, ?_⟩
      intro e
      simp only [Value.ownBlock, Option.some.injEq] at e
      subst e
      rcases hv with hv | hv
      · have := hold _ hv; omega
      · omega
    · intro q hq
      rw [hg.block q (by simp; omega) (fun e => by have := hold q e.symm; omega), heap_alloc_old _ _ (by omega)]
  · exact below_grown2 h.below (h2.alloc hs2 o) hg (fun k hk => by have := hold k hk; omega)
  · rw [hmv _ hres (fun e => by have := hold _ e; omega)]; exact h.res
theorem FmI0.on {B : Nat} {w wr w' : World} {ts : List Tr} {ys : List Value} {v1 : Value} (h : FmI0 B w ts ys v1 wr) (hb : Below wr.heap.size wr w') : FmI0 B w ts ys v1 w' :=
  ⟨owns_below h.own hb, FVs.move (fun q hq => ⟨hq.1, Nat.lt_of_lt_of_le hq.2.1 hb.size, hq.2.2⟩) (fun q hq => hb.block q hq.2.1) _ _ h.fv, h.below.trans (hb.mono h.below.size), below_blk hb (lt_of_block h.res) h.res⟩
theorem FmI0.kids {B : Nat} {w wr : World} {kb : Nat} {kvs : List Value} {ts : List Tr} {ys : List Value} {v1 : Value} (h : FmI0 B w ts ys v1 wr) (blk : wr.heap[kb]? = some (.cells kvs.toArray 39 (0, 0))) (ne : v1.ownBlock ≠ some kb) : FmInv B w kb kvs ts ys v1 wr :=
  ⟨h.own, h.fv, h.below, h.res, blk, ne⟩
theorem FmI0.start {B : Nat} {w w2 : World} (h : List UInt8) (k2 : Below w.heap.size w w2) (y2 : w2.heap[w.heap.size]? = some (.cells #[.string ⟨#[]⟩, .slice none 0 0, .int .i64 0, .int .i64 0, .int .i64 0] 34 (0, 0))) :
    FmI0 B w [.atom h] [.string (bs h), .slice none 0 0, .int .i64 (bs h).size, .int .i64 1, .int .i64 0] (.slice (some ⟨w2.heap.size, 0, none⟩) 1 1) (w2.alloc (.cells #[.string (bs h), .slice none 0 0, .int .i64 (bs h).size, .int .i64 1, .int .i64 0] 34)) := by
  have hs := k2.size
  have hr := lt_of_block y2
  refine ⟨⟨rfl, .inr ⟨w2.heap.size, 1, _, rfl, by omega, heap_alloc_new _ _, Nat.le_refl _, by decide, rfl, rfl⟩⟩, ?_, k2.alloc hs _, blk_alloc y2⟩
  simp only [FVs]
  exact ⟨[.string (bs h), .slice none 0 0, .int .i64 (bs h).size, .int .i64 1, .int .i64 0], [], rfl, by simp only [FV]; rw [atom_cells], rfl⟩
theorem atomFV (a : List UInt8) (ok : Nat → Prop) (w : World) : FVs nI w ok [.atom a] [.string (bs a), .slice none 0 0, .int .i64 (bs a).size, .int .i64 1, .int .i64 0] := by
  simp only [FVs]
  exact ⟨[.string (bs a), .slice none 0 0, .int .i64 (bs a).size, .int .i64 1, .int .i64 0], [], rfl, by simp only [FV]; rw [atom_cells], rfl⟩
set_option maxHeartbeats 2000000 in
theorem fm_let (xn : Nm) (a c : Ex) (iha : FmC a) (ihc : FmC c) : FmC (.lete xn a c) := by
  intro v B w hn hw hb hv hB hT
  simp only [EV] at hv
  obtain ⟨x, y, rfl, hx, hy⟩ := hv
  obtain ⟨Tx, ux, rfl⟩ := hx.iface
  obtain ⟨Ty, uy, rfl⟩ := hy.iface
  simp only [exOK] at hn
  have hfo : formOf (.lete xn a c) = .list (.atom kLet :: .atom xn :: (kidsE (.lete xn a c)).map formOf) := rfl
  have hwf := hw
  have hby := hb
  simp only [formOf, Tr.wf, wfs, Tr.bytes, bytess] at hw hb
  have HK : Hid (KidCF B w (kidsE (.lete xn a c)) [Value.iface Tx ux, Value.iface Ty uy]) := Lib.hid (by
    intro j hj
    match j, hj with
    | 0, _ => obtain ⟨s, o1, o2, o3, q1, q2⟩ := kidF_of (x := a) iha hn.2.1 (by simp_all) (by omega) hx hB hT; exact ⟨_, _, s, o1, o2, o3, rfl, q1, q2⟩
    | 1, _ => obtain ⟨s, o1, o2, o3, q1, q2⟩ := kidF_of (x := c) ihc hn.2.2 (by simp_all) (by omega) hy hB hT; exact ⟨_, _, s, o1, o2, o3, rfl, q1, q2⟩
    )
  have N1 := Lib.hid (newAtom_b [108, 101, 116] (by decide))
  have N2 := Lib.hid (newAtom_b xn (by omega))
  have hfx := Lib.hid (fun (ok : Nat → Prop) w' => atomFV xn ok w')
  have HW : Hid (wfs (.atom kLet :: .atom xn :: (kidsE (.lete xn a c)).map formOf)) := Lib.hid (by rw [hfo] at hwf; simp only [Tr.wf] at hwf; exact hwf.2)
  have HBy : Hid (bytess (.atom kLet :: .atom xn :: (kidsE (.lete xn a c)).map formOf) ≤ 1000000000) := Lib.hid (by rw [hfo] at hby; simp only [Tr.bytes] at hby; omega)
  have hlen : (kidsE (.lete xn a c)).length = 2 := rfl
  obtain ⟨i0, hi0, hz0, hz1, hz2⟩ := info_parts Tryd.infoI
  rw [hfo]
  generalize hX : kidsE (.lete xn a c) = ks at *
  obtain ⟨kvs, hkvs⟩ : ∃ kvs, kvs = [Value.iface Tx ux, Value.iface Ty uy] := ⟨_, rfl⟩
  rw [← hkvs] at HK
  have Hkv := Lib.hid hkvs
  clear hkvs hn hw hb hfo hwf hby hT hX hx hy iha ihc
  go_enter Tryd.func20, Tryd.ntmps20
  go_wp2_with (first | (go_at_call 90; go_must (refine (head_let_c _ _).mono ?_; rintro e w1 ⟨rfl, hb1⟩; have y1 := below_blk hb1 (by simp) (heap_alloc_new _ _); have k1 : Below w.heap.size w w1 := (below1 w _).trans (hb1.mono (by simp)))) | (go_at_call_of 28 (bs xn); refine (N2.out _).mono ?_; rintro e w4 ⟨rfl, hb4⟩; have I4 := Lib.hid (FmI0.on (FmI0.start (B := B) [108, 101, 116] k2 y2) (((Below.refl _ _).alloc (Nat.le_refl _) _).trans (hb4.mono (by simp)))); have l4 := below_blk hb4 (by simp) (heap_alloc_new _ _); have hs4 := I4.out.below.size) | (go_at_call 28; refine (N1.out _).mono ?_; rintro e w2 ⟨rfl, hb2⟩; have y2 := below_blk hb2 (lt_of_block y1) y1; have k2 : Below w.heap.size w w2 := k1.trans (hb2.mono k1.size)) | (go_at_call 91; go_must (refine (kids_letExpr_c Tx Ty _ ux uy _).mono ?_; rintro e w3 ⟨⟨b, rfl, hbB, hbl, hblk⟩, hb3⟩)) | (at_builtin; go_must (refine wpList_append_one _ rfl _ _ 32 rfl (w.heap.size + 1) 34 i0 (.agg #[.string ⟨#[]⟩, .slice none 0 0, .int .i64 0, .int .i64 0, .int .i64 0]) 5 64 Tryd.underlying32 hi0 hz0 hz1 hz2 rfl (by decide) (.slice (some ⟨w2.heap.size, 0, none⟩) 1 1) 1 _ rfl (I4.out.own.alloc _) ⟨w4.heap.size, 0, none⟩ [.string (bs xn), .slice none 0 0, .int .i64 (bs xn).size, .int .i64 1, .int .i64 0] rfl rfl (news_at (heap_alloc_new _ _)) (by intro u hu; simp at hu; rcases hu with rfl | rfl | rfl | rfl | rfl <;> rfl) (by decide) (by decide) (by simp; omega) ?_; intro g' c' w6 hown' hgrow hgg; have I6 := Lib.hid (I4.out.step (us := [.atom xn]) hB (Below.refl _ _) (hfx.out _ _) hgrow rfl hown' hgg); have hs6 := I6.out.below.size)))
  have hS := Lib.hid (FmI0.kids (I6.out.on hb3) hblk (fun e => by have := own_lt I6.out.own e; omega))
  clear hblk
  rw [← Hkv.out] at hS
  clear Hkv
  have hR := lt_of_block y2
  go_loopw [3, 56] (fun v1 i wr => ∃ (j : Nat) (ts : List Tr) (ys : List Value), j ≤ 2 ∧ i = .int .i64 j ∧ Hid (ts = .atom kLet :: .atom xn :: (ks.take j).map formOf) ∧ 1 ≤ ts.length ∧ ts.length ≤ 2 + j ∧ Hid (FmInv B w b kvs ts ys v1 wr)) (fun _ i _ => 2 - (intOf i).toNat)
  case atStart => exact ⟨0, _, _, Nat.zero_le _, rfl, Lib.hid (by simp [kLet, kFun]), by simp, by simp, hS⟩
  case round =>
    obtain ⟨j, ts, ys, hj, rfl, hts, htl0, htl, hI⟩ := hrel
    have HO := Lib.hid hI.out.own
    obtain ⟨p1, c1, rfl⟩ := owns_slice HO.out
    have hbel := hI.out.below.size
    have hresb := lt_of_block hI.out.res
    by_cases hlt : j < 2
    · have hjl : j < ks.length := by omega
      obtain ⟨T, u, s, o1, o2, o3, hkv, hnI, HC⟩ := HK.out j hjl
      have c0 : wr.cell? ⟨b, j, none⟩ = some (.iface T u) := by rw [cell_of hI.out.blk]; simpa using hkv
      have C := Lib.hid (HC wr hI.out.below)
      have HS := Lib.hid (show ts ++ [formOf ks[j]] = .atom kLet :: .atom xn :: (ks.take (j + 1)).map formOf by rw [hts.out, List.take_succ_eq_append_getElem hjl, List.map_append]; rfl)
      generalize formOf ks[j] = ft at *
      clear HC hkv HK hnI
      go_wp2_with (first | (go_at_call 20; go_must (refine (C.out).mono ?_; rintro e w5 ⟨⟨p5, m5, c5, rfl, hv5⟩, hb5⟩; have hs5 := hb5.size)) | (at_builtin; go_must (refine wpList_append_one _ rfl _ _ 32 rfl (w.heap.size + 1) 34 i0 (.agg #[.string ⟨#[]⟩, .slice none 0 0, .int .i64 0, .int .i64 0, .int .i64 0]) 5 64 Tryd.underlying32 hi0 hz0 hz1 hz2 rfl (by decide) (.slice p1 ts.length c1) ts.length ys rfl ((owns_below HO.out hb5).alloc _) ⟨w5.heap.size, 0, none⟩ [.string s, .slice p5 m5 c5, .int .i64 o1, .int .i64 o2, .int .i64 o3] rfl rfl (news_at (heap_alloc_new _ _)) (by intro u hu; simp at hu; rcases hu with rfl | rfl | rfl | rfl | rfl <;> rfl) (by unfold maxLen; omega) (by omega) (by simp; omega) ?_; intro g' c' w6 hown' hgrow hgg)))
      go_roundw
      case rel => exact ⟨j + 1, ts ++ [ft], _, by omega, by go_num, HS, by simp, by simp; omega, Lib.hid (hI.out.step hB hb5 hv5 hgrow hown' hgg)⟩
      case measure => simp [intOf]; omega
    · have : j = 2 := by omega
      subst this
      have hts2 := hts.out
      rw [List.take_of_length_le (by omega)] at hts2
      obtain ⟨g, rfl⟩ : ∃ g, p1 = some ⟨g, 0, none⟩ := by
        rcases HO.out.2 with ⟨e1, e2⟩ | ⟨g, cap', cur, e1, _⟩
        · omega
        · simp only [Value.slice.injEq] at e1; exact ⟨g, e1.1⟩
      have hown := HO.out
      have hcap := owns_cap hown
      have hlt' := own_lt hown (k := g) rfl
      have NL := Lib.hid (newList_n ts.length ts rfl ys _ g c1 wr hI.out.fv (owns_row hown) (fun k hk => hk.2.1) hlt'.2 (by rw [hts2]; exact HW.out) (by rw [hts2]; have := HBy.out; omega) hcap.2 hcap.1)
      have hres := hI.out.res
      have hFin := Lib.hid (fun w7 (h7 : Below wr.heap.size wr w7) => hI.out.fin hB h7)
      have HEq := Lib.hid (show Tr.list (.atom kLet :: .atom xn :: ks.map formOf) = Tr.list ts by rw [hts2])
      obtain ⟨q1, hq1⟩ : ∃ q : Int, q = (Tr.list ts).bytes := ⟨_, rfl⟩
      obtain ⟨q2, hq2⟩ : ∃ q : Int, q = (Tr.list ts).size := ⟨_, rfl⟩
      obtain ⟨q3, hq3⟩ : ∃ q : Int, q = (Tr.list ts).depth := ⟨_, rfl⟩
      rw [← hq1, ← hq2, ← hq3] at NL hFin
      clear hts2 hq1 hq2 hq3 HK hI HW HBy hown
      go_wp2_with (go_at_call 30; go_must (refine NL.out.mono ?_; rintro e w7 ⟨rfl, hb7⟩; have z := below_blk hb7 (lt_of_block hres) hres; have z0 := cell_of (j := 0) z; have z1 := cell_of (j := 1) z; have z2 := cell_of (j := 2) z; have z3 := cell_of (j := 3) z; have z4 := cell_of (j := 4) z; have f0 := free_of (j := 0) z; have f1 := free_of (j := 1) z; have f2 := free_of (j := 2) z; have f3 := free_of (j := 3) z; have f4 := free_of (j := 4) z))
      refine bodyPost_ret (v := .agg #[.string ⟨#[]⟩, .slice (some ⟨g, 0, none⟩) ts.length c1, .int .i64 q1, .int .i64 q2, .int .i64 q3]) (by simp [results, Tryd.results20, go_sem, z0, z1, z2, z3, z4]) rfl ?_
      rw [HEq.out]
      exact hFin.out w7 hb7 _ _ _ _ _
end Go.Proofs.YtgliggljegghhaaDoor
