/- The program reads an expression. -/
import Derived.Test.YtlinjnflhpldfaaGreatDoorImpl2f
import Derived.Deep.LoopGhost
namespace Go.Proofs.YtlinjnflhpldfaaGreatDoor
open Go.RowKit
set_option maxRecDepth 8000
set_option linter.unusedSimpArgs false
set_option linter.unusedVariables false
theorem row_rest {w : World} {ok : Nat → Prop} {h : Tr} {ps : List Tr} {xs : List Value} {r off : Nat} (h6 : FVs nI w ok (h :: ps) xs) (h5 : hasRow w r off xs) :
    ∃ ys, FVs nI w ok ps ys ∧ hasRow w r (off + 5) ys ∧ w.cell? ⟨r, off, none⟩ = some (.string (bs (atomOf h))) := by
  obtain ⟨cs, g1, g2⟩ := FVs.get nI_len h6 h5 0 (by simp)
  simp only [FVs] at h6
  obtain ⟨a, b, rfl, k2, k3⟩ := h6
  have hla : a.length = 5 := by obtain ⟨p, n, c, rfl⟩ := k2.node; rfl
  refine ⟨b, k3, fun j v hj => ?_, ?_⟩
  · have := h5 (5 + j) v (by rw [List.getElem?_append_right (by omega)]; rw [hla]; simpa using hj)
    rw [show off + 5 + j = off + (5 + j) from by omega]; exact this
  · obtain ⟨p, n, c, rfl⟩ := g1.node
    have := g2 0 _ rfl
    simpa using this
theorem Tryz.infoExpr : (Tryz.prog.info? 41).map (fun i => (i.zero, i.size, i.bytes)) = some (some .nilIface, 1, 16) := by kernel_rfl
theorem kids_none : ∀ {ps : List Tr} {k : Nat} (hk : k < ps.length), asEx ps[k] = none → kidsEx ps = none
  | t :: ts, 0, _, h => by simp only [List.getElem_cons_zero] at h; simp [kidsEx, h]
  | t :: ts, k + 1, hk, h => by
    have := kids_none (ps := ts) (k := k) (by simpa using hk) (by simpa using h)
    simp only [kidsEx, this]
    cases asEx t <;> rfl
theorem kids_snoc : ∀ {ps : List Tr} {es : List Ex} {x : Ex} {t : Tr}, kidsEx ps = some es → asEx t = some x → kidsEx (ps ++ [t]) = some (es ++ [x])
  | [], es, x, t, h, hx => by simp only [kidsEx, Option.some.injEq] at h; subst h; simp [kidsEx, hx]
  | a :: ps, es, x, t, h, hx => by
    simp only [kidsEx, List.cons_append] at h ⊢
    cases ha : asEx a with
    | none => simp [ha] at h
    | some e =>
      simp only [ha] at h ⊢
      cases hk : kidsEx ps with
      | none => simp [hk] at h
      | some es2 =>
        simp only [hk, Option.some.injEq] at h
        subst h
        rw [kids_snoc hk hx]; rfl
theorem kids_step {ps : List Tr} {es : List Ex} {x : Ex} {k : Nat} (hk : k < ps.length) (h : kidsEx (ps.take k) = some es) (hx : asEx ps[k] = some x) : kidsEx (ps.take (k + 1)) = some (es ++ [x]) := by
  rw [List.take_add_one, List.getElem?_eq_getElem hk]; exact kids_snoc h hx
theorem asExs_kids {h : Tr} {ps : List Tr} (h1 : atomOf h ≠ kLet) (h2 : atomOf h ≠ kFun) : asExs (h :: ps) = (kidsEx ps).bind (mkHead (atomOf h)) := by simp only [asExs, if_neg h1, if_neg h2]
theorem headExpr_any (h : List UInt8) (es : List Ex) (vs : List Value) (ok : Nat → Prop) (B : Nat) (p : Option Addr) (n c : Nat) (w : World) (hn : es.length = n) (hev : EVs w ok es vs) (hown : w.ownsRow B 41 1 (.slice p n c) n vs) (hok : ∀ k, ok k → k < w.heap.size) (hl : n ≤ 12000) :
    Calls Tryz.prog 83 #[.string (bs h), .slice p n c] w fun e w' => ExPost ok (mkHead h es) e w' ∧ Below w.heap.size w w' := by
  subst hn
  have hbad : mkHead h es = none → es.length ≠ 1 → es.length ≠ 2 → (es.length = 3 → h ≠ kIf) → Calls Tryz.prog 83 #[.string (bs h), .slice p es.length c] w fun e w' => ExPost ok (mkHead h es) e w' ∧ Below w.heap.size w w' :=
    fun hm a b d => (headExpr_other h p es.length c a b d (by omega) w).mono fun e w' ⟨h1, h2⟩ => ⟨by rw [h1]; exact ExPost.nil hm, h2⟩
  match es, hev, hown, hl, hbad with
  | [], _, _, _, hbad => exact hbad rfl (by simp) (by simp) (by simp)
  | [a], hev, hown, _, _ =>
    simp only [EVs] at hev
    obtain ⟨v, us, rfl, h1, rfl⟩ := hev
    have hcap := owns_cap hown
    rcases hown.2 with ⟨hx, hy⟩ | ⟨g, cap, cur, hx, _⟩
    · simp at hy
    · simp only [Value.slice.injEq] at hx
      obtain ⟨rfl, _, rfl⟩ := hx
      have hr := owns_row hown
      exact headExpr_1 h a v ok c g 0 w h1 hok (hr 0 v rfl) (by simpa using hcap.1) hcap.2
  | [a, b], hev, hown, _, _ =>
    simp only [EVs] at hev
    obtain ⟨v, us, rfl, h1, v2, us2, rfl, h2, rfl⟩ := hev
    have hcap := owns_cap hown
    rcases hown.2 with ⟨hx, hy⟩ | ⟨g, cap, cur, hx, _, hg, _⟩
    · simp at hy
    · simp only [Value.slice.injEq] at hx
      obtain ⟨rfl, _, rfl⟩ := hx
      have hr := owns_row hown
      exact headExpr_2 h a b v v2 ok c g 0 w h1 h2 hok (lt_of_block hg) (hr 0 v rfl) (hr 1 v2 rfl) (by simpa using hcap.1) hcap.2
  | [a, b, d], hev, hown, _, hbad =>
    by_cases hif : h = kIf
    · subst hif
      simp only [EVs] at hev
      obtain ⟨v, us, rfl, h1, v2, us2, rfl, h2, v3, us3, rfl, h3, rfl⟩ := hev
      have hcap := owns_cap hown
      rcases hown.2 with ⟨hx, hy⟩ | ⟨g, cap, cur, hx, _, hg, _⟩
      · simp at hy
      · simp only [Value.slice.injEq] at hx
        obtain ⟨rfl, _, rfl⟩ := hx
        have hr := owns_row hown
        exact headExpr_3 a b d v v2 v3 ok c g 0 w h1 h2 h3 hok (lt_of_block hg) (hr 0 v rfl) (hr 1 v2 rfl) (hr 2 v3 rfl) (by simpa using hcap.1) hcap.2
    · exact hbad (by simp [mkHead, hif]) (by simp) (by simp) (fun _ => hif)
  | _ :: _ :: _ :: _ :: _, _, _, _, hbad => exact hbad rfl (by simp) (by simp) (by simp)
set_option maxHeartbeats 4000000 in
theorem asExpr_list (n : Nat) (ih : AsExC n) (h : Tr) (ps : List Tr) (cap : Nat) (ok : Nat → Prop) (w : World) (r off : Nat) (xs : List Value) (b z d : Int) (hd : ∀ t ∈ ps, t.depth < n) (hw : ∀ t ∈ ps, t.wf) (hbt : ∀ t ∈ ps, t.bytes ≤ 12000)
    (h5 : hasRow w r off xs) (h6 : FVs nI w ok (h :: ps) xs) (hrlt : r < w.heap.size) (hok : ∀ k, ok k → k < w.heap.size) (hc : ps.length + 1 ≤ cap) (hc2 : cap ≤ maxLen) (hl : ps.length ≤ 12000) (hcap : ¬ cap = 1) :
    Calls Tryz.prog 58 #[.agg #[.string (bs []), .slice (some ⟨r, off, none⟩) (ps.length + 1) cap, .int .i64 b, .int .i64 z, .int .i64 d]] w fun e w' => ExPost ok (asExs (h :: ps)) e w' ∧ Below w.heap.size w w' := by
  obtain ⟨ys, h6', h5', e0⟩ := row_rest h6 h5
  clear h5 h6
  have hc3 := maxLen_le hc2
  have CL : Hid (∀ W, Below w.heap.size w W → Calls Tryz.prog 81 #[.slice (some ⟨r, off + 5, none⟩) ps.length (cap - 1)] W fun e w' => ExPost ok (asLetE ps) e w' ∧ Below W.heap.size W w') :=
    Lib.hid (fun W hW => asLet_any n ih ps (cap - 1) ok W r (off + 5) ys hd hw hbt (h5'.move (hW.block r hrlt)) (h6'.below hW hok) (Nat.lt_of_lt_of_le hrlt hW.size) (size_ofI hok hW) (by omega) (by omega) (by omega))
  have CF : Hid (∀ W, Below w.heap.size w W → Calls Tryz.prog 82 #[.slice (some ⟨r, off + 5, none⟩) ps.length (cap - 1)] W fun e w' => ExPost ok (asFunE ps) e w' ∧ Below W.heap.size W w') :=
    Lib.hid (fun W hW => asFun_any n ih ps (cap - 1) ok W r (off + 5) ys hd hw hbt (h5'.move (hW.block r hrlt)) (h6'.below hW hok) (Nat.lt_of_lt_of_le hrlt hW.size) (size_ofI hok hW) (by omega) (by omega) (by omega))
  by_cases hlet : atomOf h = kLet
  · have HA : Hid (asExs (h :: ps) = asLetE ps) := Lib.hid (by simp only [asExs, if_pos hlet])
    rw [HA.out]
    have s1 : ((bs (atomOf h)).toList == [108, 101, 116]) = true := by rw [bs_toList, hlet]; rfl
    generalize atomOf h = hd0 at *
    generalize asLetE ps = R at *
    generalize ps.length = L at *
    clear hlet CF ih hd hw hbt h5' h6' hok
    go_enter Tryz.func58, Tryz.ntmps58
    go_wp2_with (go_at_call 79; go_must (refine (isAtom_no _ _ _ _ (Nat.succ_ne_zero _) _ _ _ _).mono ?_; rintro e w1 ⟨rfl, hb1⟩; have c1 := below_blk hb1 (by simp) (heap_alloc_new _ _); have d0 := cell_of (j := 0) c1; have d1 := cell_of (j := 1) c1; have hw1 := (below1 w _).trans (hb1.mono (by simp)); have g0 := (hw1.cell (p := ⟨r, off, none⟩) hrlt).trans e0))
    go_quiet (fail)
    have hwq := hw1.trans ((below_drewI w1 nq).mono hw1.size)
    go_wp2_with (go_at_call 81; go_must (refine (CL.out _ hwq).mono ?_; rintro e w2 ⟨hp, hb2⟩; obtain ⟨x, y, rfl⟩ := exPost_shape hp))
    go_ret2
    exact ⟨hp, hwq.trans (hb2.mono hwq.size)⟩
  have s1 : ((bs (atomOf h)).toList == [108, 101, 116]) = false := by rw [bs_toList]; simpa [kLet] using hlet
  by_cases hfun : atomOf h = kFun
  · have HA : Hid (asExs (h :: ps) = asFunE ps) := Lib.hid (by simp only [asExs, if_neg hlet, if_pos hfun])
    rw [HA.out]
    have s2 : ((bs (atomOf h)).toList == [102, 117, 110]) = true := by rw [bs_toList, hfun]; rfl
    generalize atomOf h = hd0 at *
    generalize asFunE ps = R at *
    generalize ps.length = L at *
    clear hlet hfun CL ih hd hw hbt h5' h6' hok
    go_enter Tryz.func58, Tryz.ntmps58
    go_wp2_with (go_at_call 79; go_must (refine (isAtom_no _ _ _ _ (Nat.succ_ne_zero _) _ _ _ _).mono ?_; rintro e w1 ⟨rfl, hb1⟩; have c1 := below_blk hb1 (by simp) (heap_alloc_new _ _); have d0 := cell_of (j := 0) c1; have d1 := cell_of (j := 1) c1; have hw1 := (below1 w _).trans (hb1.mono (by simp)); have g0 := (hw1.cell (p := ⟨r, off, none⟩) hrlt).trans e0))
    go_quiet (fail)
    have hwq := hw1.trans ((below_drewI w1 nq).mono hw1.size)
    go_wp2_with (go_at_call 82; go_must (refine (CF.out _ hwq).mono ?_; rintro e w2 ⟨hp, hb2⟩; obtain ⟨x, y, rfl⟩ := exPost_shape hp))
    go_ret2
    exact ⟨hp, hwq.trans (hb2.mono hwq.size)⟩
  have s2 : ((bs (atomOf h)).toList == [102, 117, 110]) = false := by rw [bs_toList]; simpa [kFun] using hfun
  clear CL CF
  have HA := Lib.hid (asExs_kids (ps := ps) hlet hfun)
  have hok2 := fun (W : World) (hW : Below w.heap.size w W) => size_ofI hok hW
  obtain ⟨L, hL⟩ : ∃ L, ps.length = L := ⟨_, rfl⟩
  obtain ⟨hd0, hhd⟩ : ∃ hd0, hd0 = atomOf h := ⟨_, rfl⟩
  have HH := Lib.hid (fun (W : World) (es : List Ex) (vs : List Value) (p : Option Addr) (c : Nat) (hW : Below w.heap.size w W) (hn : es.length = L) (hev : EVs W ok es vs) (hown : W.ownsRow w.heap.size 41 1 (.slice p L c) L vs) => headExpr_any hd0 es vs ok w.heap.size p L c W hn hev hown (size_ofI hok hW) (by omega))
  rw [← hhd] at e0 s1 s2 HA
  rw [hL]
  have hll : L + 1 ≤ cap := by omega
  have hl3 : L ≤ 12000 := by omega
  obtain ⟨i0, hi0, hz0, hz1, hz2⟩ := info_parts Tryz.infoExpr
  clear hlet hfun hhd
  go_enter Tryz.func58, Tryz.ntmps58
  go_wp2_with (go_at_call 79; go_must (refine (isAtom_no _ _ _ _ (Nat.succ_ne_zero _) _ _ _ _).mono ?_; rintro e w1 ⟨rfl, hb1⟩; have c1 := below_blk hb1 (by simp) (heap_alloc_new _ _); have d0 := cell_of (j := 0) c1; have d1 := cell_of (j := 1) c1; have hw1 := (below1 w _).trans (hb1.mono (by simp)); have g0 := (hw1.cell (p := ⟨r, off, none⟩) hrlt).trans e0))
  go_quiet (fail)
  have hwq := hw1.trans ((below_drewI w1 nq).mono hw1.size)
  go_wp2_with fail
  have HW := Lib.hid hwq
  clear hwq hw1 hb1 c1 d0 d1 g0
  go_loopg [6, 41] L (fun q v i wr => ∃ (k : Nat) (es : List Ex) (vs : List Value), q + k = L ∧ i = .int .i64 k ∧ Hid (kidsEx (ps.take k) = some es ∧ es.length = k) ∧ Hid (EVs wr ok es vs) ∧ Hid (wr.ownsRow w.heap.size 41 1 v k vs) ∧ Hid (Below w.heap.size w wr))
  case atStart => exact ⟨0, [], [], by omega, rfl, Lib.hid ⟨rfl, rfl⟩, Lib.hid rfl, Lib.hid (World.ownsRow_nil _ _ _ _), HW⟩
  case round =>
    obtain ⟨k, es, vs, hq, rfl, hks, hev, ho, hb⟩ := hrel
    obtain ⟨vp, vc, rfl⟩ := owns_slice ho.out
    by_cases hlt : k < L
    · have hltt : k < ps.length := by omega
      obtain ⟨cs, g1, g2⟩ := FVs.get nI_len h6' h5' k hltt
      obtain ⟨p, pn, pc, rfl⟩ := g1.node
      obtain ⟨tk, htk⟩ : ∃ tk, tk = ps[k] := ⟨_, rfl⟩
      have hmem : tk ∈ ps := by rw [htk]; exact List.getElem_mem hltt
      rw [← htk] at g1 g2
      have e0 : wr.cell? ⟨r, off + 5 + k * 5, none⟩ = some (.string (bs (atomOf tk))) := by rw [hb.out.cell (by exact hrlt)]; exact g2 0 _ rfl
      have e1 : wr.cell? ⟨r, off + 5 + k * 5 + 1, none⟩ = some (.slice p pn pc) := by rw [hb.out.cell (by exact hrlt)]; exact g2 1 _ rfl
      have e2 : wr.cell? ⟨r, off + 5 + k * 5 + 2, none⟩ = some (.int .i64 tk.bytes) := by rw [hb.out.cell (by exact hrlt)]; exact g2 2 _ rfl
      have e3 : wr.cell? ⟨r, off + 5 + k * 5 + 3, none⟩ = some (.int .i64 tk.size) := by rw [hb.out.cell (by exact hrlt)]; exact g2 3 _ rfl
      have e4 : wr.cell? ⟨r, off + 5 + k * 5 + 4, none⟩ = some (.int .i64 tk.depth) := by rw [hb.out.cell (by exact hrlt)]; exact g2 4 _ rfl
      cases he : asEx tk with
      | none =>
        have CE := asEx_none ih (hd tk hmem) (hw tk hmem) (hbt tk hmem) g1 hok he
        have HN := Lib.hid (kids_none hltt (by rw [← htk]; exact he))
        clear g1 g2 htk hmem he hd hw hbt h5' h6' ih
        go_wp2_with (go_at_call 58; refine (CE.out _ (hb.out.alloc hb.out.size _)).mono ?_; rintro e w4 ⟨(rfl | ⟨T5, u5, rfl⟩), hb4⟩)
        all_goals
          go_ret2
          exact ⟨ExPost.nil (by rw [HA.out, HN.out]; rfl), (hb.out.alloc hb.out.size _).trans (hb4.mono (hb.out.alloc hb.out.size _).size)⟩
      | some x =>
        have CE := asEx_some ih (hd tk hmem) (hw tk hmem) (hbt tk hmem) g1 hok he
        have HN := Lib.hid (⟨kids_step hltt hks.out.1 (by rw [← htk]; exact he), by simp [hks.out.2]⟩ : kidsEx (ps.take (k + 1)) = some (es ++ [x]) ∧ (es ++ [x]).length = k + 1)
        clear g1 g2 htk hmem he
        go_wp2_with (first | (go_at_call 58; refine (CE.out _ (hb.out.alloc hb.out.size _)).mono ?_; rintro e w4 ⟨⟨v5, rfl, hev5⟩, hb4⟩; obtain ⟨T5, u5, rfl⟩ := hev5.iface) | (at_builtin; go_must (refine wpList_append_one _ rfl _ _ 63 rfl w.heap.size 41 i0 .nilIface 1 16 Tryz.underlying63 hi0 hz0 hz1 hz2 rfl (by decide) _ _ _ rfl ((owns_below (ho.out.alloc _) hb4).alloc _) ⟨w4.heap.size, 0, none⟩ [.iface T5 u5] rfl rfl (news_at (heap_alloc_new _ _)) (by intro u hu; simp at hu; subst hu; rfl) (by unfold maxLen; omega) (by omega) (by have := hb4.size; have := hb.out.size; simp at *; omega) ?_; intro g' c' w5 hown' hgrow hgg)))
        go_roundg (gk - 1)
        case measure => omega
        case rel =>
          have hw4 := (hb.out.alloc hb.out.size _).trans (hb4.mono (hb.out.alloc hb.out.size _).size)
          have hw5 := (hw4.alloc hw4.size _).grown hgrow (by have := hw4.size; simp; omega) (fun q hq => by have := (ho.out.lt q hq).1; omega)
          have hpost : Below w.heap.size w4 w5 := ((Below.refl w.heap.size w4).alloc hw4.size _).grown hgrow (by have := hw4.size; simp; omega) (fun q hq => by have := (ho.out.lt q hq).1; omega)
          refine ⟨k + 1, es ++ [x], vs ++ [.iface T5 u5], by omega, by go_num, HN, Lib.hid (EVs.snoc (hev5.below hpost hok) ?_), Lib.hid hown', Lib.hid hw5⟩
          exact EVs.move (fun _ h => h) (fun j hj => (hw5.block j (hok j hj)).trans (hb.out.block j (hok j hj)).symm) _ _ hev.out
    · have : k = L := by omega
      subst this
      have hfull : kidsEx ps = some es := by have := hks.out.1; rw [List.take_of_length_le (by omega)] at this; exact this
      have HN := Lib.hid (show asExs (h :: ps) = mkHead hd0 es by rw [HA.out, hfull]; rfl)
      have C := Lib.hid (HH.out wr es vs vp vc hb.out hks.out.2 hev.out ho.out)
      clear hfull ih hd hw hbt h5' h6'
      go_wp2_with (go_at_call 83; go_must (refine (C.out).mono ?_; rintro e w2 ⟨hp, hb2⟩; obtain ⟨x, y, rfl⟩ := exPost_shape hp))
      go_ret2
      exact ⟨by rw [HN.out]; exact hp, hb.out.trans (hb2.mono hb.out.size)⟩
end Go.Proofs.YtlinjnflhpldfaaGreatDoor
