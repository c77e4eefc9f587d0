/- Instructions: the reference. -/
import Derived.Test.YtfknoigbkleanaaGreatDoorIn3
namespace Go.Proofs.YtfknoigbkleanaaGreatDoor
open Go.RowKit
set_option maxRecDepth 8000
set_option linter.unusedSimpArgs false
set_option linter.unusedVariables false
theorem shape_len (h : List UInt8) : (shapeOf h).length ≤ 4 := by
  unfold shapeOf
  repeat' split
  all_goals simp
theorem shape_mem (h : List UInt8) : ∀ c ∈ shapeOf h, c = 114 ∨ c = 42 ∨ c = 110 ∨ c = 108 ∨ c = 101 ∨ c = 119 := by
  unfold shapeOf
  repeat' split
  all_goals simp
theorem shape_get {h : List UInt8} (e : h = kGet) : shapeOf h = [114, 114, 110] := by subst e; rfl
theorem kindAt_mem {sh : List UInt8} (h : sh ≠ []) (j : Nat) : kindAt sh j ∈ sh := by
  unfold kindAt
  have h1 : 0 < sh.length := by cases sh with | nil => exact absurd rfl h | cons a b => simp
  have h2 : min (j + 1) sh.length - 1 < sh.length := by omega
  rw [List.getD_eq_getElem?_getD, List.getElem?_eq_getElem h2]
  exact List.getElem_mem h2
theorem memI_bytess {t : Tr} : ∀ {ts : List Tr}, t ∈ ts → t.bytes < bytess ts
  | a :: ts, h => by
    simp only [bytess]
    rcases List.mem_cons.1 h with rfl | h
    · omega
    · have := memI_bytess h; omega
theorem memI_depths {t : Tr} : ∀ {ts : List Tr}, t ∈ ts → t.depth < depths ts
  | a :: ts, h => by
    simp only [depths]
    rcases List.mem_cons.1 h with rfl | h
    · omega
    · have := memI_depths h; omega
theorem memI_wfs {t : Tr} : ∀ {ts : List Tr}, wfs ts → t ∈ ts → t.wf
  | a :: ts, hw, h => by
    rcases List.mem_cons.1 h with rfl | h
    · exact hw.1
    · exact memI_wfs hw.2 h
set_option maxHeartbeats 8000000 in
theorem l6tInstr_c (h : Tr) (ts : List Tr) (r off cap : Nat) (xs : List Value) (ok : Nat → Prop) (w : World) (hwf : (Tr.list (h :: ts)).wf) (hbt : (Tr.list (h :: ts)).bytes ≤ 12000) (hdt : (Tr.list (h :: ts)).depth ≤ 60)
    (hv : FV nS w ok (.list (h :: ts)) (nS (.list (h :: ts)) (.slice (some ⟨r, off, none⟩) (h :: ts).length cap))) (hrlt : r < w.heap.size) (hcl : (h :: ts).length ≤ cap) (hc : cap ≤ maxLen) (h5 : hasRow w r off xs) (h6 : FVs nS w ok (h :: ts) xs) (hok : ∀ k, ok k → k < w.heap.size) :
    Calls Tryz.prog 72 #[.agg #[.string (bs []), .slice (some ⟨r, off, none⟩) (h :: ts).length cap]] w fun e w' => e = .returned (.bool (refT (atomOf h) ts)) ∧ Below w.heap.size w w' := by
  have hm := maxLen_le hc
  have hlb : ts.length ≤ 12000 := by have := length_le_bytess (h :: ts); simp only [Tr.bytes, List.length_cons] at *; omega
  have e0 : w.cell? ⟨r, off, none⟩ = some (.string (bs (atomOf h))) := by
    obtain ⟨cs, g1, g2⟩ := FVs.get nS_len h6 h5 0 (by simp)
    obtain ⟨p, pn, pc, rfl⟩ := g1.node
    have := g2 0 _ rfl
    simpa using this
  have CH : Hid (∀ W, Below w.heap.size w W → Calls Tryz.prog 120 #[.agg #[.string (bs []), .slice (some ⟨r, off, none⟩) (h :: ts).length cap]] W fun e w' => e = .returned (.string (bs (atomOf h))) ∧ Below W.heap.size W w') := Lib.hid (fun W hW => l4HeadI_c (.list (h :: ts)) (some ⟨r, off, none⟩) (h :: ts).length cap ok W hwf (hv.below hW hok) (fun j hj => Nat.lt_of_lt_of_le (hok j hj) hW.size))
  obtain ⟨H, hH⟩ : ∃ H, H = atomOf h := ⟨_, rfl⟩
  rw [← hH] at CH e0 ⊢
  have CS : Hid (∀ W, Calls Tryz.prog 119 #[.string (bs H)] W fun e w' => e = .returned (.string (bs (shapeOf H))) ∧ w' = W) := Lib.hid (fun W => l6tShape_c H W)
  have hsl := shape_len H
  have hsm := shape_mem H
  have hsg := fun e => shape_get (h := H) e
  obtain ⟨R, hR⟩ : ∃ R, R = refT H ts := ⟨_, rfl⟩
  rw [← hR]
  unfold refT at hR
  obtain ⟨sh, hsh⟩ : ∃ sh, sh = shapeOf H := ⟨_, rfl⟩
  rw [← hsh] at CS hsl hsm hR
  have HSG := Lib.hid hsg
  have HSH := Lib.hid hsh
  have HR := Lib.hid hR
  have CP : Hid (∀ (j : Nat) (hj : j < ts.length), ∃ (p : Option Addr) (m c : Nat) (A : ByteArray), w.cell? ⟨r, off + (j + 1) * 2, none⟩ = some (.string A) ∧ w.cell? ⟨r, off + (j + 1) * 2 + 1, none⟩ = some (.slice p m c) ∧ A = bs (atomOf ts[j]) ∧ (sh ≠ [] → ∀ W, Below w.heap.size w W → Calls Tryz.prog 121 #[.agg #[.string A, .slice p m c], .int .u8 (kindAt sh j).toNat] W fun e w' => e = .returned (.bool (okR sh ts j)) ∧ Below W.heap.size W w')) := Lib.hid (fun j hj => by
    obtain ⟨cs, g1, g2⟩ := FVs.get nS_len h6 h5 (j + 1) (by simpa using hj)
    obtain ⟨p, m, c, rfl⟩ := g1.node
    have hk0 : w.cell? ⟨r, off + (j + 1) * 2, none⟩ = some (.string (bs (atomOf ts[j]))) := by have := g2 0 _ rfl; simpa using this
    have hk1 : w.cell? ⟨r, off + (j + 1) * 2 + 1, none⟩ = some (.slice p m c) := by have := g2 1 _ rfl; simpa using this
    have hmem : ts[j] ∈ h :: ts := List.mem_cons_of_mem _ (List.getElem_mem hj)
    refine ⟨p, m, c, bs (atomOf ts[j]), hk0, hk1, rfl, fun hne W hW => ?_⟩
    have hb1 : ts[j].bytes ≤ 12000 := by
      have := (memI_bytess hmem)
      simp only [Tr.bytes] at hbt
      omega
    have hd1 : ts[j].depth ≤ 60 := by
      have := (memI_depths hmem)
      simp only [Tr.depth] at hdt
      omega
    have := l6tPart_c (kindAt sh j) (hsm _ (kindAt_mem hne j)) ts[j] p m c ok W (memI_wfs hwf.2 hmem) hb1 hd1 ((show FV nS w ok ts[j] (nS ts[j] (.slice p m c)) from g1).below hW hok) (fun k hk => Nat.lt_of_lt_of_le (hok k hk) hW.size)
    unfold okR
    rw [List.getD_eq_getElem?_getD, List.getElem?_eq_getElem hj, Option.getD_some]
    exact this)
  have HN : Hid (∀ (A : ByteArray) (j : Nat) (hj : j < ts.length), A = bs (atomOf ts[j]) → ∀ W, Calls Tryz.prog 122 #[.string A] W fun e w' => (∃ z y, e = .returned (.tuple #[.int .i64 z, .bool y]) ∧ (numB (ts.getD j (.atom [])) = true → decide (0 ≤ z) = idxB (ts.getD j (.atom [])))) ∧ w' = W) := Lib.hid (fun A j hj hA W => by
    have hmem : ts[j] ∈ h :: ts := List.mem_cons_of_mem _ (List.getElem_mem hj)
    have hb1 : ts[j].bytes ≤ 12000 := by
      have := (memI_bytess hmem)
      simp only [Tr.bytes] at hbt
      omega
    rw [hA]
    refine (l2Number_c (atomOf ts[j]) (by have := atomI_len hb1; omega) W).mono fun e w' ⟨h1, h2⟩ => ⟨⟨_, _, h1, ?_⟩, h2⟩
    rw [List.getD_eq_getElem?_getD, List.getElem?_eq_getElem hj, Option.getD_some]
    unfold numB idxB
    cases numOf (atomOf ts[j]) <;> simp)
  obtain ⟨L, hL⟩ : ∃ L, L = ts.length + 1 := ⟨_, rfl⟩
  have hLL : (h :: ts).length = L := by rw [hL]; rfl
  rw [hLL] at CH hcl ⊢
  obtain ⟨S, hS⟩ : ∃ S, S = bs sh := ⟨_, rfl⟩
  rw [← hS] at CS
  have hSs : S.size = sh.length := by rw [hS, bs_size]
  have hSl : S.toList = sh := by rw [hS, bs_toList]
  have HSat : Hid (∀ q (hq : q < S.size), S[q] = sh.getD q 0) := Lib.hid (fun q hq => by
    have h2 : q < sh.length := by omega
    subst hS
    rw [List.getD_eq_getElem?_getD, List.getElem?_eq_getElem h2]
    rfl)
  have hx := heap_alloc_new w (.cells #[.string (bs []), .slice (some ⟨r, off, none⟩) L cap] 62)
  have hemp := emptyne
  obtain ⟨HB, hHB⟩ : ∃ HB, HB = bs H := ⟨_, rfl⟩
  have hHl : HB.toList = H := by rw [hHB, bs_toList]
  rw [← hHB] at CH CS e0
  have HL := Lib.hid hL
  have HSs := Lib.hid hSs
  have HHl := Lib.hid hHl
  have hLb : L ≤ 12001 := by omega
  have hL0 : 1 ≤ L := by omega
  have hSb : S.size ≤ 4 := by omega
  clear hv h5 h6 hwf hbt hdt hH hR hsh hS hsm hsg hHB hL hLL hHl
  by_cases hz : sh = []
  · clear hSs hsl
    have f1 : (S.toList == ([] : List UInt8)) = true := by rw [hSl, hz]; rfl
    have f2 : S.toList = [] := by rw [hSl, hz]
    have f3 : S.toList.isEmpty = true := by rw [f2]; rfl
    have hRf : R = false := by rw [HR.out, hz]; rfl
    subst hRf
    clear CP HN HSat HR HSG HSH hSl HSs hz
    go_enter Tryz.func72, Tryz.ntmps72
    go_wp2_with (first | (go_at_call 120; go_must (refine (CH.out _ (below1 _ _)).mono ?_; rintro e w1 ⟨rfl, hb1⟩)) | (go_at_call 119; go_must (refine (CS.out _).mono ?_; rintro e w2 ⟨rfl, rfl⟩)))
    go_ret
    exact ⟨rfl, (below1 w _).trans (hb1.mono (by simp))⟩
  · have f1 : (S.toList == ([] : List UInt8)) = false := by rw [hSl]; cases sh with | nil => exact absurd rfl hz | cons a b => rfl
    have f2 : ¬ S.toList = [] := by rw [hSl]; exact hz
    have f3 : S.toList.isEmpty = false := by rw [hSl]; cases sh with | nil => exact absurd rfl hz | cons a b => rfl
    have hsh1 : 1 ≤ sh.length := by cases sh with | nil => exact absurd rfl hz | cons a b => simp
    have hS1 : 1 ≤ S.size := by omega
    have HSl := Lib.hid hSl
    have HZ := Lib.hid hz
    by_cases hok2 : (sh = [114, 42] ∨ ts.length = sh.length) ∧ 1 ≤ ts.length
    · have hD : Hid (((S.toList == [114, 42]) = true ∧ S.toList = [114, 42]) ∨ ((S.toList == [114, 42]) = false ∧ ¬ S.toList = [114, 42] ∧ (L : Int) = (S.size : Int) + 1)) := Lib.hid (by
        rw [hSl]
        by_cases e : sh = [114, 42]
        · exact .inl ⟨by simpa using e, e⟩
        · exact .inr ⟨by simpa using e, e, by have := hok2.1.resolve_left e; have := HL.out; omega⟩)
      have hL2 : ¬ (L : Int) < 2 := by have := HL.out; omega
      have hL2' : 2 ≤ L := by have := HL.out; omega
      have HRR : Hid (R = (allB (okR sh ts) ts.length && (!decide (H = kGet) || idxB (ts.getD 2 (.atom []))))) := Lib.hid (by
        rw [HR.out]
        have e1 : sh.isEmpty = false := by cases sh with | nil => exact absurd rfl hz | cons a b => rfl
        have e2 : decide (1 ≤ ts.length) = true := by simpa using hok2.2
        rw [e1, e2]
        rcases hok2.1 with e | e
        · simp [e]
        · simp [e])
      have hok3 : Hid (sh = [114, 42] ∨ ts.length = sh.length) := Lib.hid hok2.1
      clear hsl hSs hSl hz hok2 HR hsh1
      have HK : Hid (H = kGet → ts.length = 3 ∧ okR sh ts 2 = numB (ts.getD 2 (.atom []))) := Lib.hid (fun e => by
        have e1 := HSG.out e
        rw [← HSH.out] at e1
        rcases hok3.out with e2 | e2
        · rw [e1] at e2; cases e2
        · refine ⟨by rw [e2, e1]; rfl, ?_⟩
          rw [e1]; unfold okR kindAt partB; rfl)
      rcases hD.out with ⟨d1, d2⟩ | ⟨d1, d2, d3⟩
      · clear hD
        go_enter Tryz.func72, Tryz.ntmps72
        go_wp2_with (first | (go_at_call 120; go_must (refine (CH.out _ (below1 _ _)).mono ?_; rintro e w1 ⟨rfl, hb1⟩; have X1 := below_blk hb1 (by simp) hx; have x0 := cell_of (j := 0) X1; have x1 := cell_of (j := 1) X1)) | (go_at_call 119; go_must (refine (CS.out _).mono ?_; rintro e w2 ⟨rfl, rfl⟩)))
        go_loopw [4] (fun i wr => ∃ k : Nat, 1 ≤ k ∧ k ≤ L ∧ i = .int .i64 k ∧ Hid (∀ j, j + 1 < k → okR sh ts j = true) ∧ wr.heap[w.heap.size]? = some (.cells #[.string (bs []), .slice (some ⟨r, off, none⟩) L cap] 62 (0, 0)) ∧ Hid (Below w.heap.size w wr)) (fun i _ => L - (intOf i).toNat)
        case atStart => exact ⟨1, Nat.le_refl _, hL0, rfl, Lib.hid (fun j hj => by omega), X1, Lib.hid ((below1 w _).trans (hb1.mono (by simp)))⟩
        case round =>
          obtain ⟨k, hk1, hk, rfl, hp, hblk, hB⟩ := hrel
          have y0 := cell_of (j := 0) hblk
          have y1 := cell_of (j := 1) hblk
          have hN0 := lt_of_block hblk
          by_cases hlt : k < L
          · obtain ⟨j, hj⟩ : ∃ j, k = j + 1 := ⟨k - 1, by omega⟩
            have hjl : j < ts.length := by have := HL.out; omega
            obtain ⟨p, m, c, A, a0, a1, -, cP⟩ := CP.out j hjl
            rw [← hj] at a0 a1
            have CPj : Hid (∀ W, Below wr.heap.size wr W → Calls Tryz.prog 121 #[.agg #[.string A, .slice p m c], .int .u8 (kindAt sh j).toNat] W fun e w' => e = .returned (.bool (okR sh ts j)) ∧ Below W.heap.size W w') := Lib.hid (fun W hW => cP HZ.out W (hB.out.trans (hW.mono hB.out.size)))
            have b0 : wr.cell? ⟨r, off + k * 2, none⟩ = some (.string A) := (hB.out.cell (p := ⟨r, off + k * 2, none⟩) hrlt).trans a0
            have b1 : wr.cell? ⟨r, off + k * 2 + 1, none⟩ = some (.slice p m c) := (hB.out.cell (p := ⟨r, off + k * 2 + 1, none⟩) hrlt).trans a1
            obtain ⟨q, hq⟩ : ∃ q, q = min k S.size - 1 := ⟨_, rfl⟩
            have hq1 : q < S.size := by omega
            have hqb : S[q] = kindAt sh j := by rw [HSat.out q hq1]; unfold kindAt; rw [← HSs.out, hq, hj]
            obtain ⟨cb, hcb⟩ : ∃ cb, cb = kindAt sh j := ⟨_, rfl⟩
            rw [← hcb] at hqb CPj
            have hkI : (k : Int) < (L : Int) := by omega
            have hk0 : (0 : Int) ≤ (k : Int) := by omega
            have hw : IntKind.i64.wrap (min (k : Int) (S.size : Int) - 1) = (q : Int) := by rw [IntKind.wrap_i64]; omega
            have hqI : (q : Int) < (S.size : Int) := by omega
            have hq0 : (0 : Int) ≤ (q : Int) := by omega
            have HOK : Hid (okR sh ts j = true → ∀ i, i + 1 < k + 1 → okR sh ts i = true) := Lib.hid (fun h i hi => by
              by_cases e : i = j
              · subst e; exact h
              · exact hp.out i (by omega))
            have HBAD : Hid (okR sh ts j = false → R = false) := Lib.hid (fun h => by rw [HRR.out, allB_bad hjl h]; rfl)
            have HJ := Lib.hid hj
            clear cP a0 a1 hq hcb hp hj hjl
            cases hok4 : okR sh ts j with
            | true =>
              rw [hok4] at CPj
              have HP2 := Lib.hid (HOK.out hok4)
              clear HOK HBAD hok4
              have hD5 : Below wr.heap.size wr wr.drew := (Below.refl _ _).drew
              go_wp2_with fail
              go_region_with (first | (go_at_call 121; (with_reducible refine (CPj.out _ hD5).mono ?_); rintro e w5 ⟨rfl, hb5⟩) | fail)
              all_goals
                have hB5 := hD5.trans (hb5.mono hD5.size)
                go_wp2_with fail
                go_roundw
                case rel => exact ⟨k + 1, by omega, by omega, by go_num, HP2, below_blk hB5 hN0 hblk, Lib.hid (hB.out.trans (hB5.mono hB.out.size))⟩
                case measure => simp [intOf]; omega
            | false =>
              rw [hok4] at CPj
              have hRf := HBAD.out hok4
              subst hRf
              clear HOK HBAD hok4 HRR
              have hD5 : Below wr.heap.size wr wr.drew := (Below.refl _ _).drew
              go_wp2_with fail
              go_region_with (first | (go_at_call 121; (with_reducible refine (CPj.out _ hD5).mono ?_); rintro e w5 ⟨rfl, hb5⟩) | fail)
              all_goals
                have hB5 := hD5.trans (hb5.mono hD5.size)
                go_wp2_with fail
                go_ret
                exact ⟨rfl, hB.out.trans (hB5.mono hB.out.size)⟩
          · have hkL : k = L := by omega
            have HA : Hid (allB (okR sh ts) ts.length = true) := Lib.hid (allB_all (fun j hj => hp.out j (by have := HL.out; omega)))
            have b0 : wr.cell? ⟨r, off, none⟩ = some (.string HB) := (hB.out.cell (p := ⟨r, off, none⟩) hrlt).trans e0
            by_cases hg : H = kGet
            · have s1 : (HB.toList == [103, 101, 116]) = true := by rw [HHl.out, hg]; rfl
              have s2 : HB.toList = [103, 101, 116] := by rw [HHl.out, hg]; rfl
              obtain ⟨hl3, hok3'⟩ := HK.out hg
              obtain ⟨p, m, c, A, a0, a1, hA, -⟩ := CP.out 2 (by omega)
              have hnum : numB (ts.getD 2 (.atom [])) = true := by rw [← hok3']; exact hp.out 2 (by have := HL.out; omega)
              have CN : Hid (∀ W, Calls Tryz.prog 122 #[.string A] W fun e w' => (∃ z y, e = .returned (.tuple #[.int .i64 z, .bool y]) ∧ decide (0 ≤ z) = idxB (ts.getD 2 (.atom []))) ∧ w' = W) := Lib.hid (fun W => (HN.out A 2 (by omega) hA W).mono fun e w' ⟨⟨z, y, h1, h2⟩, h3⟩ => ⟨⟨z, y, h1, h2 hnum⟩, h3⟩)
              have b1 : wr.cell? ⟨r, off + 6, none⟩ = some (.string A) := (hB.out.cell (p := ⟨r, off + 6, none⟩) hrlt).trans a0
              have HRi : Hid (R = idxB (ts.getD 2 (.atom []))) := Lib.hid (by rw [HRR.out, HA.out, hg]; simp)
              have hL4 : L = 4 := by have := HL.out; omega
              subst hL4
              clear HN CP HK HRR HA hp hnum hok3' hA a0 a1
              go_wp2_with (go_at_call 122; go_must (refine (CN.out _).mono ?_; rintro e w5 ⟨⟨z, y, rfl, hz⟩, rfl⟩; have HZ9 := Lib.hid hz; clear hz))
              go_ret
              exact ⟨ret_bool (by rw [HRi.out]; exact HZ9.out), hB.out⟩
            · have s1 : (HB.toList == [103, 101, 116]) = false := by rw [HHl.out]; exact beq_eq_false_iff_ne.2 hg
              have s2 : ¬ HB.toList = [103, 101, 116] := by rw [HHl.out]; exact hg
              have hRf : R = true := by rw [HRR.out, HA.out, decide_eq_false hg]; rfl
              subst hRf
              clear HN CP HK HRR HA hp
              go_wp2_with fail
              go_ret
              exact ⟨rfl, hB.out⟩
      · clear hD
        have d5 : ((L : Int) == (S.size : Int) + 1) = true := beq_iff_eq.2 d3
        have D3 := Lib.hid d3
        clear d3
        go_enter Tryz.func72, Tryz.ntmps72
        go_wp2_with (first | (go_at_call 120; go_must (refine (CH.out _ (below1 _ _)).mono ?_; rintro e w1 ⟨rfl, hb1⟩; have X1 := below_blk hb1 (by simp) hx; have x0 := cell_of (j := 0) X1; have x1 := cell_of (j := 1) X1)) | (go_at_call 119; go_must (refine (CS.out _).mono ?_; rintro e w2 ⟨rfl, rfl⟩)))
        go_loopw [4] (fun i wr => ∃ k : Nat, 1 ≤ k ∧ k ≤ L ∧ i = .int .i64 k ∧ Hid (∀ j, j + 1 < k → okR sh ts j = true) ∧ wr.heap[w.heap.size]? = some (.cells #[.string (bs []), .slice (some ⟨r, off, none⟩) L cap] 62 (0, 0)) ∧ Hid (Below w.heap.size w wr)) (fun i _ => L - (intOf i).toNat)
        case atStart => exact ⟨1, Nat.le_refl _, hL0, rfl, Lib.hid (fun j hj => by omega), X1, Lib.hid ((below1 w _).trans (hb1.mono (by simp)))⟩
        case round =>
          obtain ⟨k, hk1, hk, rfl, hp, hblk, hB⟩ := hrel
          have y0 := cell_of (j := 0) hblk
          have y1 := cell_of (j := 1) hblk
          have hN0 := lt_of_block hblk
          by_cases hlt : k < L
          · obtain ⟨j, hj⟩ : ∃ j, k = j + 1 := ⟨k - 1, by omega⟩
            have hjl : j < ts.length := by have := HL.out; omega
            obtain ⟨p, m, c, A, a0, a1, -, cP⟩ := CP.out j hjl
            rw [← hj] at a0 a1
            have CPj : Hid (∀ W, Below wr.heap.size wr W → Calls Tryz.prog 121 #[.agg #[.string A, .slice p m c], .int .u8 (kindAt sh j).toNat] W fun e w' => e = .returned (.bool (okR sh ts j)) ∧ Below W.heap.size W w') := Lib.hid (fun W hW => cP HZ.out W (hB.out.trans (hW.mono hB.out.size)))
            have b0 : wr.cell? ⟨r, off + k * 2, none⟩ = some (.string A) := (hB.out.cell (p := ⟨r, off + k * 2, none⟩) hrlt).trans a0
            have b1 : wr.cell? ⟨r, off + k * 2 + 1, none⟩ = some (.slice p m c) := (hB.out.cell (p := ⟨r, off + k * 2 + 1, none⟩) hrlt).trans a1
            obtain ⟨q, hq⟩ : ∃ q, q = min k S.size - 1 := ⟨_, rfl⟩
            have hq1 : q < S.size := by omega
            have hqb : S[q] = kindAt sh j := by rw [HSat.out q hq1]; unfold kindAt; rw [← HSs.out, hq, hj]
            obtain ⟨cb, hcb⟩ : ∃ cb, cb = kindAt sh j := ⟨_, rfl⟩
            rw [← hcb] at hqb CPj
            have hkI : (k : Int) < (L : Int) := by omega
            have hk0 : (0 : Int) ≤ (k : Int) := by omega
            have hw : IntKind.i64.wrap (min (k : Int) (S.size : Int) - 1) = (q : Int) := by rw [IntKind.wrap_i64]; omega
            have hqI : (q : Int) < (S.size : Int) := by omega
            have hq0 : (0 : Int) ≤ (q : Int) := by omega
            have HOK : Hid (okR sh ts j = true → ∀ i, i + 1 < k + 1 → okR sh ts i = true) := Lib.hid (fun h i hi => by
              by_cases e : i = j
              · subst e; exact h
              · exact hp.out i (by omega))
            have HBAD : Hid (okR sh ts j = false → R = false) := Lib.hid (fun h => by rw [HRR.out, allB_bad hjl h]; rfl)
            have HJ := Lib.hid hj
            clear cP a0 a1 hq hcb hp hj hjl
            cases hok4 : okR sh ts j with
            | true =>
              rw [hok4] at CPj
              have HP2 := Lib.hid (HOK.out hok4)
              clear HOK HBAD hok4
              have hD5 : Below wr.heap.size wr wr.drew := (Below.refl _ _).drew
              go_wp2_with fail
              go_region_with (first | (go_at_call 121; (with_reducible refine (CPj.out _ hD5).mono ?_); rintro e w5 ⟨rfl, hb5⟩) | fail)
              all_goals
                have hB5 := hD5.trans (hb5.mono hD5.size)
                go_wp2_with fail
                go_roundw
                case rel => exact ⟨k + 1, by omega, by omega, by go_num, HP2, below_blk hB5 hN0 hblk, Lib.hid (hB.out.trans (hB5.mono hB.out.size))⟩
                case measure => simp [intOf]; omega
            | false =>
              rw [hok4] at CPj
              have hRf := HBAD.out hok4
              subst hRf
              clear HOK HBAD hok4 HRR
              have hD5 : Below wr.heap.size wr wr.drew := (Below.refl _ _).drew
              go_wp2_with fail
              go_region_with (first | (go_at_call 121; (with_reducible refine (CPj.out _ hD5).mono ?_); rintro e w5 ⟨rfl, hb5⟩) | fail)
              all_goals
                have hB5 := hD5.trans (hb5.mono hD5.size)
                go_wp2_with fail
                go_ret
                exact ⟨rfl, hB.out.trans (hB5.mono hB.out.size)⟩
          · have hkL : k = L := by omega
            have HA : Hid (allB (okR sh ts) ts.length = true) := Lib.hid (allB_all (fun j hj => hp.out j (by have := HL.out; omega)))
            have b0 : wr.cell? ⟨r, off, none⟩ = some (.string HB) := (hB.out.cell (p := ⟨r, off, none⟩) hrlt).trans e0
            by_cases hg : H = kGet
            · have s1 : (HB.toList == [103, 101, 116]) = true := by rw [HHl.out, hg]; rfl
              have s2 : HB.toList = [103, 101, 116] := by rw [HHl.out, hg]; rfl
              obtain ⟨hl3, hok3'⟩ := HK.out hg
              obtain ⟨p, m, c, A, a0, a1, hA, -⟩ := CP.out 2 (by omega)
              have hnum : numB (ts.getD 2 (.atom [])) = true := by rw [← hok3']; exact hp.out 2 (by have := HL.out; omega)
              have CN : Hid (∀ W, Calls Tryz.prog 122 #[.string A] W fun e w' => (∃ z y, e = .returned (.tuple #[.int .i64 z, .bool y]) ∧ decide (0 ≤ z) = idxB (ts.getD 2 (.atom []))) ∧ w' = W) := Lib.hid (fun W => (HN.out A 2 (by omega) hA W).mono fun e w' ⟨⟨z, y, h1, h2⟩, h3⟩ => ⟨⟨z, y, h1, h2 hnum⟩, h3⟩)
              have b1 : wr.cell? ⟨r, off + 6, none⟩ = some (.string A) := (hB.out.cell (p := ⟨r, off + 6, none⟩) hrlt).trans a0
              have HRi : Hid (R = idxB (ts.getD 2 (.atom []))) := Lib.hid (by rw [HRR.out, HA.out, hg]; simp)
              have hL4 : L = 4 := by have := HL.out; omega
              subst hL4
              clear HN CP HK HRR HA hp hnum hok3' hA a0 a1
              go_wp2_with (go_at_call 122; go_must (refine (CN.out _).mono ?_; rintro e w5 ⟨⟨z, y, rfl, hz⟩, rfl⟩; have HZ9 := Lib.hid hz; clear hz))
              go_ret
              exact ⟨ret_bool (by rw [HRi.out]; exact HZ9.out), hB.out⟩
            · have s1 : (HB.toList == [103, 101, 116]) = false := by rw [HHl.out]; exact beq_eq_false_iff_ne.2 hg
              have s2 : ¬ HB.toList = [103, 101, 116] := by rw [HHl.out]; exact hg
              have hRf : R = true := by rw [HRR.out, HA.out, decide_eq_false hg]; rfl
              subst hRf
              clear HN CP HK HRR HA hp
              go_wp2_with fail
              go_ret
              exact ⟨rfl, hB.out⟩
    · have hRf : R = false := by
        rw [HR.out]
        by_cases e3 : 1 ≤ ts.length
        · have e4 : ¬ (sh = [114, 42] ∨ ts.length = sh.length) := fun q => hok2 ⟨q, e3⟩
          rw [not_or] at e4
          rw [decide_eq_false e4.1, decide_eq_false e4.2]
          simp
        · rw [decide_eq_false e3]
          simp
      subst hRf
      have hD : Hid (((S.toList == [114, 42]) = false ∧ ¬ S.toList = [114, 42] ∧ ¬ (L : Int) = (S.size : Int) + 1) ∨ ((S.toList == [114, 42]) = true ∧ S.toList = [114, 42] ∧ (L : Int) < 2) ∨ ((S.toList == [114, 42]) = false ∧ ¬ S.toList = [114, 42] ∧ (L : Int) = (S.size : Int) + 1 ∧ (L : Int) < 2)) := Lib.hid (by
        rw [hSl]
        have hL3 := HL.out
        by_cases e : sh = [114, 42]
        · refine .inr (.inl ⟨by simpa using e, e, ?_⟩)
          by_cases e3 : 1 ≤ ts.length
          · exact absurd ⟨.inl e, e3⟩ hok2
          · omega
        · by_cases e4 : ts.length = sh.length
          · refine .inr (.inr ⟨by simpa using e, e, by omega, ?_⟩)
            by_cases e3 : 1 ≤ ts.length
            · exact absurd ⟨.inr e4, e3⟩ hok2
            · omega
          · exact .inl ⟨by simpa using e, e, by omega⟩)
      clear CP HN HSat HR HSG HSH hsl hSs hSl hz hok2 hsh1 HSs HSl HZ
      rcases hD.out with ⟨d1, d2, d3⟩ | ⟨d1, d2, d3⟩ | ⟨d1, d2, d3, d4⟩
      · have d5 : ((L : Int) == (S.size : Int) + 1) = false := beq_eq_false_iff_ne.2 d3
        clear hD
        go_enter Tryz.func72, Tryz.ntmps72
        go_wp2_with (first | (go_at_call 120; go_must (refine (CH.out _ (below1 _ _)).mono ?_; rintro e w1 ⟨rfl, hb1⟩; have X1 := below_blk hb1 (by simp) hx; have x0 := cell_of (j := 0) X1; have x1 := cell_of (j := 1) X1)) | (go_at_call 119; go_must (refine (CS.out _).mono ?_; rintro e w2 ⟨rfl, rfl⟩)))
        go_ret
        exact ⟨rfl, (below1 w _).trans (hb1.mono (by simp))⟩
      · clear hD
        go_enter Tryz.func72, Tryz.ntmps72
        go_wp2_with (first | (go_at_call 120; go_must (refine (CH.out _ (below1 _ _)).mono ?_; rintro e w1 ⟨rfl, hb1⟩; have X1 := below_blk hb1 (by simp) hx; have x0 := cell_of (j := 0) X1; have x1 := cell_of (j := 1) X1)) | (go_at_call 119; go_must (refine (CS.out _).mono ?_; rintro e w2 ⟨rfl, rfl⟩)))
        go_ret
        exact ⟨rfl, (below1 w _).trans (hb1.mono (by simp))⟩
      · have d5 : ((L : Int) == (S.size : Int) + 1) = true := beq_iff_eq.2 d3
        have D3 := Lib.hid d3
        clear hD d3
        go_enter Tryz.func72, Tryz.ntmps72
        go_wp2_with (first | (go_at_call 120; go_must (refine (CH.out _ (below1 _ _)).mono ?_; rintro e w1 ⟨rfl, hb1⟩; have X1 := below_blk hb1 (by simp) hx; have x0 := cell_of (j := 0) X1; have x1 := cell_of (j := 1) X1)) | (go_at_call 119; go_must (refine (CS.out _).mono ?_; rintro e w2 ⟨rfl, rfl⟩)))
        all_goals go_ret
        all_goals exact ⟨rfl, (below1 w _).trans (hb1.mono (by simp))⟩
end Go.Proofs.YtfknoigbkleanaaGreatDoor
