/- The program writes expressions as forms: what binds no names, by its heads. -/
import Derived.Test.YtgliggljegghhaaDoorImpl2r
namespace Go.Proofs.YtgliggljegghhaaDoor
open Go.RowKit
set_option maxRecDepth 8000
set_option linter.unusedSimpArgs false
set_option linter.unusedVariables false
set_option maxHeartbeats 1000000 in
theorem fm_pair (a b : Ex) (iha : FmC a) (ihb : FmC b) : FmC (Ex.two Op2.pair a b) := by
  intro v B w hn hw hb hv hB hT
  simp only [EV] at hv
  obtain ⟨x, y, rfl, hx, hy⟩ := hv
  obtain ⟨Tx, ux, rfl⟩ := hx.iface
  obtain ⟨Ty, uy, rfl⟩ := hy.iface
  simp only [exOK] at hn
  have hfo : formOf (Ex.two Op2.pair a b) = .list (.atom [112, 97, 105, 114] :: (kidsE (Ex.two Op2.pair a b)).map formOf) := rfl
  have hwf := hw
  have hby := hb
  simp only [formOf, Tr.wf, wfs, Tr.bytes, bytess] at hw hb
  have HK : Hid (KidCF B w (kidsE (Ex.two Op2.pair a b)) [Value.iface Tx ux, Value.iface Ty uy]) := Lib.hid (by
    intro j hj
    match j, hj with
    | 0, _ => obtain ⟨s, o1, o2, o3, q1, q2⟩ := kidF_of (x := a) iha (by simp_all) (by simp_all) (by omega) hx hB hT; exact ⟨_, _, s, o1, o2, o3, rfl, q1, q2⟩
    | 1, _ => obtain ⟨s, o1, o2, o3, q1, q2⟩ := kidF_of (x := b) ihb (by simp_all) (by simp_all) (by omega) hy hB hT; exact ⟨_, _, s, o1, o2, o3, rfl, q1, q2⟩
    )
  have N1 := Lib.hid (newAtom_b [112, 97, 105, 114] (by decide))
  have HW : Hid (wfs (.atom [112, 97, 105, 114] :: (kidsE (Ex.two Op2.pair a b)).map formOf)) := Lib.hid (by rw [hfo] at hwf; simp only [Tr.wf] at hwf; exact hwf.2)
  have HBy : Hid (bytess (.atom [112, 97, 105, 114] :: (kidsE (Ex.two Op2.pair a b)).map formOf) ≤ 1000000000) := Lib.hid (by rw [hfo] at hby; simp only [Tr.bytes] at hby; omega)
  have hlen : (kidsE (Ex.two Op2.pair a b)).length = 2 := rfl
  obtain ⟨i0, hi0, hz0, hz1, hz2⟩ := info_parts Tryd.infoI
  rw [hfo]
  generalize hX : kidsE (Ex.two Op2.pair a b) = ks at *
  try simp only [op2T, op1T]
  obtain ⟨kvs, hkvs⟩ : ∃ kvs, kvs = [Value.iface Tx ux, Value.iface Ty uy] := ⟨_, rfl⟩
  rw [← hkvs] at HK
  have Hkv := Lib.hid hkvs
  clear hkvs hn hw hb hfo hwf hby hT hX hx hy iha ihb
  go_enter Tryd.func20, Tryd.ntmps20
  go_wp2_with (first | (go_at_call 82; go_must (refine (head_pair_c _ _).mono ?_; rintro e w1 ⟨rfl, hb1⟩; have y1 := below_blk hb1 (by simp) (heap_alloc_new _ _); have k1 : Below w.heap.size w w1 := (below1 w _).trans (hb1.mono (by simp)))) | (go_at_call 28; refine (N1.out _).mono ?_; rintro e w2 ⟨rfl, hb2⟩; have y2 := below_blk hb2 (lt_of_block y1) y1; have k2 : Below w.heap.size w w2 := k1.trans (hb2.mono k1.size)) | (go_at_call 81; go_must (refine (kids_twoKids_c Tx Ty ux uy _).mono ?_; rintro e w3 ⟨⟨b, rfl, hbB, hbl, hblk⟩, hb3⟩)))
  have hS := Lib.hid (FmInv.start (B := B) [112, 97, 105, 114] k2 y2 hb3 hbB hblk)
  clear hblk
  rw [← Hkv.out] at hS
  clear Hkv
  have hR := lt_of_block y2
  go_loopw [3, 56] (fun v1 i wr => ∃ (j : Nat) (ts : List Tr) (ys : List Value), j ≤ 2 ∧ i = .int .i64 j ∧ Hid (ts = .atom [112, 97, 105, 114] :: (ks.take j).map formOf) ∧ 1 ≤ ts.length ∧ ts.length ≤ 1 + j ∧ Hid (FmInv B w b kvs ts ys v1 wr)) (fun _ i _ => 2 - (intOf i).toNat)
  case atStart => exact ⟨0, _, _, Nat.zero_le _, rfl, Lib.hid (by simp), Nat.le_refl _, Nat.le_refl _, hS⟩
  case round =>
    obtain ⟨j, ts, ys, hj, rfl, hts, htl0, htl, hI⟩ := hrel
    have HO := Lib.hid hI.out.own
    obtain ⟨p1, c1, rfl⟩ := owns_slice HO.out
    have hbel := hI.out.below.size
    have hresb := lt_of_block hI.out.res
    by_cases hlt : j < 2
    · have hjl : j < ks.length := by omega
      obtain ⟨T, u, s, o1, o2, o3, hkv, hnI, HC⟩ := HK.out j hjl
      have c0 : wr.cell? ⟨b, j, none⟩ = some (.iface T u) := by rw [cell_of hI.out.blk]; simpa using hkv
      have C := Lib.hid (HC wr hI.out.below)
      have HS := Lib.hid (show ts ++ [formOf ks[j]] = .atom [112, 97, 105, 114] :: (ks.take (j + 1)).map formOf by rw [hts.out, List.take_succ_eq_append_getElem hjl, List.map_append]; rfl)
      generalize formOf ks[j] = ft at *
      clear HC hkv HK hnI
      go_wp2_with (first | (go_at_call 20; go_must (refine (C.out).mono ?_; rintro e w5 ⟨⟨p5, m5, c5, rfl, hv5⟩, hb5⟩; have hs5 := hb5.size)) | (at_builtin; go_must (refine wpList_append_one _ rfl _ _ 32 rfl (w.heap.size + 1) 34 i0 (.agg #[.string ⟨#[]⟩, .slice none 0 0, .int .i64 0, .int .i64 0, .int .i64 0]) 5 64 Tryd.underlying32 hi0 hz0 hz1 hz2 rfl (by decide) (.slice p1 ts.length c1) ts.length ys rfl ((owns_below HO.out hb5).alloc _) ⟨w5.heap.size, 0, none⟩ [.string s, .slice p5 m5 c5, .int .i64 o1, .int .i64 o2, .int .i64 o3] rfl rfl (news_at (heap_alloc_new _ _)) (by intro u hu; simp at hu; rcases hu with rfl | rfl | rfl | rfl | rfl <;> rfl) (by unfold maxLen; omega) (by omega) (by simp; omega) ?_; intro g' c' w6 hown' hgrow hgg)))
      go_roundw
      case rel => exact ⟨j + 1, ts ++ [ft], _, by omega, by go_num, HS, by simp, by simp; omega, Lib.hid (hI.out.step hB hb5 hv5 hgrow hown' hgg)⟩
      case measure => simp [intOf]; omega
    · have : j = 2 := by omega
      subst this
      have hts2 := hts.out
      rw [List.take_of_length_le (by omega)] at hts2
      have HT2 := Lib.hid hts2
      obtain ⟨g, rfl⟩ : ∃ g, p1 = some ⟨g, 0, none⟩ := by
        rcases HO.out.2 with ⟨e1, e2⟩ | ⟨g, cap', cur, e1, _⟩
        · omega
        · simp only [Value.slice.injEq] at e1; exact ⟨g, e1.1⟩
      have hown := HO.out
      have hcap := owns_cap hown
      have hlt' := own_lt hown (k := g) rfl
      have NL := Lib.hid (newList_n ts.length ts rfl ys _ g c1 wr hI.out.fv (owns_row hown) (fun k hk => hk.2.1) hlt'.2 (by rw [hts2]; exact HW.out) (by rw [hts2]; have := HBy.out; omega) hcap.2 hcap.1)
      have hres := hI.out.res
      have hFin := Lib.hid (fun w7 (h7 : Below wr.heap.size wr w7) => hI.out.fin hB h7)
      have HEq := Lib.hid (show Tr.list (.atom [112, 97, 105, 114] :: ks.map formOf) = Tr.list ts by rw [hts2])
      obtain ⟨q1, hq1⟩ : ∃ q : Int, q = (Tr.list ts).bytes := ⟨_, rfl⟩
      obtain ⟨q2, hq2⟩ : ∃ q : Int, q = (Tr.list ts).size := ⟨_, rfl⟩
      obtain ⟨q3, hq3⟩ : ∃ q : Int, q = (Tr.list ts).depth := ⟨_, rfl⟩
      rw [← hq1, ← hq2, ← hq3] at NL hFin
      clear hts2 hq1 hq2 hq3 HK hI HW HBy hown
      go_wp2_with (go_at_call 30; go_must (refine NL.out.mono ?_; rintro e w7 ⟨rfl, hb7⟩; have z := below_blk hb7 (lt_of_block hres) hres; have z0 := cell_of (j := 0) z; have z1 := cell_of (j := 1) z; have z2 := cell_of (j := 2) z; have z3 := cell_of (j := 3) z; have z4 := cell_of (j := 4) z; have f0 := free_of (j := 0) z; have f1 := free_of (j := 1) z; have f2 := free_of (j := 2) z; have f3 := free_of (j := 3) z; have f4 := free_of (j := 4) z))
      refine bodyPost_ret (v := .agg #[.string ⟨#[]⟩, .slice (some ⟨g, 0, none⟩) ts.length c1, .int .i64 q1, .int .i64 q2, .int .i64 q3]) (by simp [results, Tryd.results20, go_sem, z0, z1, z2, z3, z4]) rfl ?_
      rw [HEq.out]
      exact hFin.out w7 hb7 _ _ _ _ _
end Go.Proofs.YtgliggljegghhaaDoor
