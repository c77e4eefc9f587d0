/- Instructions: the program reads a list. -/
import Derived.Test.YtfknoigbkleanaaGreatDoorInA
import Derived.Test.YtfknoigbkleanaaGreatDoorIn8
namespace Go.Proofs.YtfknoigbkleanaaGreatDoor
open Go.RowKit
set_option maxRecDepth 8000
set_option linter.unusedSimpArgs false
set_option linter.unusedVariables false
theorem two_bytess : ∀ {ts : List Tr}, wfs ts → 2 * ts.length ≤ bytess ts
  | [], _ => by simp [bytess]
  | t :: ts, h => by
    have h1 := two_bytess h.2
    have h2 : 1 ≤ t.bytes := by
      have hw := h.1
      cases t with
      | atom a =>
        have := hw.1
        simp only [Tr.bytes]
        cases a with | nil => exact absurd rfl this | cons b r => simp
      | list l => simp only [Tr.bytes]; omega
    simp only [List.length_cons, bytess]; omega
set_option maxHeartbeats 8000000 in
theorem readInstr_good (s : ByteArray) (hs : s.size ≤ 1048576) (h : Tr) (ts : List Tr) (hp : parse s.data.toList = some (.list (h :: ts))) (w : World) (hgood : lettersOf (atomOf h) ts.length ≠ [] ∧ (lettersOf (atomOf h) ts.length).length = ts.length) :
    Calls Tryz.prog 71 #[.string s] w fun e w' => RiPost s.data.toList e ∧ Below w.heap.size w w' := by
  obtain ⟨hwf, hbt, hdt, -⟩ := parse_got hp
  obtain ⟨t1, ht1⟩ : ∃ t1, t1 = (Tr.list (h :: ts)).bytes := ⟨_, rfl⟩
  obtain ⟨t2, ht2⟩ : ∃ t2, t2 = (Tr.list (h :: ts)).size := ⟨_, rfl⟩
  obtain ⟨t3, ht3⟩ : ∃ t3, t3 = (Tr.list (h :: ts)).depth := ⟨_, rfl⟩
  obtain ⟨L, hL⟩ : ∃ L, L = (h :: ts).length := ⟨_, rfl⟩
  obtain ⟨HS, hHS⟩ : ∃ HS, HS = bs (atomOf h) := ⟨_, rfl⟩
  have hn6 : ts.length ≤ 5999 := by
    have := two_bytess hwf.2
    simp only [Tr.bytes, List.length_cons] at *
    omega
  have C : Hid (∀ W, Calls Tryz.prog 61 #[.string s] W fun e w' => (∃ r off cap, e = .returned (.tuple #[.agg #[.string (bs []), .slice (some ⟨r, off, none⟩) L cap, .int .i64 t1, .int .i64 t2, .int .i64 t3], .bool true]) ∧ r < w'.heap.size ∧ (L ≤ cap ∧ cap ≤ maxLen ∧ w'.cell? ⟨r, off, none⟩ = some (.string HS) ∧ Hid (∃ xs, hasRow w' r off xs ∧ FVs nI w' (fun k => k < w'.heap.size) (h :: ts) xs))) ∧ Below W.heap.size W w') := Lib.hid (fun W => (readForm_some hs hp W).mono fun e w' ⟨⟨p, n, c, h1, h2⟩, h3⟩ => ⟨by
    obtain ⟨r, off, cap, xs, he, g2, g3, g4, g5, g6⟩ := h2.list_cells
    have hh := nI_inj _ _ _ he
    simp only [Value.slice.injEq] at hh
    obtain ⟨rfl, rfl, rfl⟩ := hh
    obtain ⟨cs, q1, q2⟩ := FVs.get nI_len g6 g5 0 (by simp)
    obtain ⟨p', m', c', rfl⟩ := q1.node
    have k0 : w'.cell? ⟨r, off, none⟩ = some (.string (bs (atomOf h))) := by have := q2 0 _ rfl; simpa using this
    refine ⟨r, off, _, by rw [h1, ht1, ht2, ht3, hL]; rfl, g2.2, by rw [hL]; exact g3, g4, by rw [hHS]; exact k0, Lib.hid ⟨xs, g5, FVs.move (fun k hk => hk.2) (fun _ _ => rfl) _ _ g6⟩⟩, h3⟩)
  have CO : Hid (∀ W, Calls Tryz.prog 117 #[.string HS, .int .i64 ts.length] W fun e w' => e = .returned (.string (bs (lettersOf (atomOf h) ts.length))) ∧ Below W.heap.size W w') := Lib.hid (fun W => by rw [hHS]; exact operandsOf_c (atomOf h) ts.length (by omega) W)
  have HI : Hid (insOf s.data.toList = insT (atomOf h) ts) := Lib.hid (by simp [insOf, hp, insF])
  have HP := Lib.hid hp
  obtain ⟨S, hS⟩ : ∃ S, S = bs (lettersOf (atomOf h) ts.length) := ⟨_, rfl⟩
  rw [← hS] at CO
  have hSs : S.size = (lettersOf (atomOf h) ts.length).length := by rw [hS, bs_size]
  have hSl : S.toList = lettersOf (atomOf h) ts.length := by rw [hS, bs_toList]
  have hLn : L = ts.length + 1 := by rw [hL]; rfl
  obtain ⟨n, hn⟩ : ∃ n, n = ts.length := ⟨_, rfl⟩
  have hL0 : L ≠ 0 := by omega
  have hLb : L ≤ 6000 := by omega
  have y0 := heap_alloc_new w (.cells #[.string ⟨#[]⟩, .int .i64 0, .slice none 0 0, .int .i64 0, .string ⟨#[]⟩, .string ⟨#[]⟩, .slice none 0 0, .int .i64 0, .int .i64 0, .int .i64 0, .string ⟨#[]⟩, .slice none 0 0, .int .i64 0, .int .i64 0, .int .i64 0] 78)
  have HL := Lib.hid hLn
  have HN := Lib.hid hn
  have hLI : (L : Int) - 1 = (n : Int) := by omega
  have hLN : L - 1 = n := by omega
  rw [← hn] at CO
  obtain ⟨hg1, hg2⟩ := hgood
  obtain ⟨LS, hLS⟩ : ∃ LS, LS = lettersOf (atomOf h) ts.length := ⟨_, rfl⟩
  have hmem := letters_mem (atomOf h) ts.length
  rw [← hLS] at hg1 hg2 hSs hSl hmem hS
  have d1 : (S.toList == ([] : List UInt8)) = false := by rw [hSl]; simpa using hg1
  have d2 : ¬ S.toList = [] := by rw [hSl]; exact hg1
  have d3 : S.toList.isEmpty = false := by rw [hSl]; cases LS with | nil => exact absurd rfl hg1 | cons a b => rfl
  have d4 : ((S.size : Int) == (n : Int)) = true := by rw [beq_iff_eq, hSs, hn]; omega
  have d5 : ((S.size : Int) != (n : Int)) = false := by rw [bne_eq_false_iff_eq, hSs, hn]; omega
  have hL2 : 2 ≤ L := by have : 0 < LS.length := List.length_pos_iff.2 hg1; omega
  have hnb : n ≤ 6000 := by omega
  have HSn : Hid (S.size = n) := Lib.hid (by rw [hSs, hn]; exact hg2)
  have HIT : Hid (insT (atomOf h) ts = allB (okI LS ts) ts.length) := Lib.hid (by
    unfold insT
    rw [← hLS, decide_eq_true hg2]
    have : LS.isEmpty = false := by cases LS with | nil => exact absurd rfl hg1 | cons a b => rfl
    rw [this]; simp)
  have HSat : Hid (∀ q (hq : q < S.size), S[q] = LS.getD q 0) := Lib.hid (fun q hq => by
    have h2 : q < LS.length := by omega
    subst hS
    rw [List.getD_eq_getElem?_getD, List.getElem?_eq_getElem h2]
    rfl)
  have HMm : Hid (∀ q, q < n → (LS.getD q 0 = 100 ∨ LS.getD q 0 = 115 ∨ LS.getD q 0 = 110 ∨ LS.getD q 0 = 120 ∨ LS.getD q 0 = 108 ∨ LS.getD q 0 = 69 ∨ LS.getD q 0 = 87)) := Lib.hid (fun q hq => by
    have h2 : q < LS.length := by omega
    rw [List.getD_eq_getElem?_getD, List.getElem?_eq_getElem h2]
    exact hmem _ (List.getElem_mem h2))
  have HWF := Lib.hid hwf.2
  have HBT : Hid (bytess (h :: ts) ≤ 11999) := Lib.hid (by simp only [Tr.bytes] at hbt; omega)
  have HHS := Lib.hid hHS
  clear hp hwf hbt hdt ht1 ht2 ht3 hL hHS hn6 hSs hSl hLn hS hn HL hg1 hg2 hLS hmem
  go_enter Tryz.func71, Tryz.ntmps71
  go_wp2_with (first | (go_at_call 61; go_must (refine (C.out _).mono ?_; rintro e w1 ⟨⟨r, off, cap, rfl, hr, hK⟩, hb1⟩; have y1 := below_blk hb1 (by simp) y0; have hs1 := hb1.size; have hs4 : w.heap.size < w1.heap.size := (by simp at hs1; omega); obtain ⟨hcl, hc, e0, hrest⟩ := hK; have HB1 := Lib.hid ((below1 w (.cells #[.string ⟨#[]⟩, .int .i64 0, .slice none 0 0, .int .i64 0, .string ⟨#[]⟩, .string ⟨#[]⟩, .slice none 0 0, .int .i64 0, .int .i64 0, .int .i64 0, .string ⟨#[]⟩, .slice none 0 0, .int .i64 0, .int .i64 0, .int .i64 0] 78)).trans (hb1.mono (by simp))); have x1 := heap_alloc_new w1 (.cells #[.string (bs []), .slice (some ⟨r, off, none⟩) L cap, .int .i64 t1, .int .i64 t2, .int .i64 t3] 56); have y2 := blk_alloc (o' := (.cells #[.string (bs []), .slice (some ⟨r, off, none⟩) L cap, .int .i64 t1, .int .i64 t2, .int .i64 t3] 56)) y1; have hcp := maxLen_le hc; have hc1 : ¬ cap = 1 := (by omega))) | (go_at_call 73; go_must (refine (isAtom_no _ _ _ _ hL0 _ _ _ _).mono ?_; rintro e w2 ⟨rfl, hb2⟩; have hs2 := hb2.size; have hs5 : w1.heap.size < w2.heap.size := (by simp at hs2; omega); have y3 := below_blk hb2 (by simp; omega) y2; have X1 := below_blk hb2 (by simp) x1; have g0 := cell_of (j := 0) X1; have g1 := cell_of (j := 1) X1; have hB12 : Below w1.heap.size w1 w2 := (below1 w1 (.cells #[.string (bs []), .slice (some ⟨r, off, none⟩) L cap, .int .i64 t1, .int .i64 t2, .int .i64 t3] 56)).trans (hb2.mono (by simp)); have e1 : w2.cell? ⟨r, off, none⟩ = some (.string HS) := (hB12.cell (p := ⟨r, off, none⟩) hr).trans e0)) | (go_at_call 117; go_must (refine (CO.out _).mono ?_; rintro e w3 ⟨rfl, hb3⟩; have HB2 := HB1.out.trans (hB12.mono HB1.out.size); have HB3 := Lib.hid ((HB2.alloc HB2.size (.cells #[.string HS, .int .i64 0, .slice none 0 0, .int .i64 0, .string ⟨#[]⟩, .string ⟨#[]⟩, .slice none 0 0, .int .i64 0, .int .i64 0, .int .i64 0, .string ⟨#[]⟩, .slice none 0 0, .int .i64 0, .int .i64 0, .int .i64 0] 78)).trans (hb3.mono (by have := HB2.size; simp; omega))); have hs3 := hb3.size; have hs6 : w2.heap.size < w3.heap.size := (by simp at hs3; omega); have y4 := below_blk hb3 (by simp; omega) (blk_alloc (o' := (.cells #[.string HS, .int .i64 0, .slice none 0 0, .int .i64 0, .string ⟨#[]⟩, .string ⟨#[]⟩, .slice none 0 0, .int .i64 0, .int .i64 0, .int .i64 0, .string ⟨#[]⟩, .slice none 0 0, .int .i64 0, .int .i64 0, .int .i64 0] 78)) y3); have i1 := below_blk hb3 (by simp) (heap_alloc_new w2 (.cells #[.string HS, .int .i64 0, .slice none 0 0, .int .i64 0, .string ⟨#[]⟩, .string ⟨#[]⟩, .slice none 0 0, .int .i64 0, .int .i64 0, .int .i64 0, .string ⟨#[]⟩, .slice none 0 0, .int .i64 0, .int .i64 0, .int .i64 0] 78)); have z0 := cell_of (j := 0) y4; have f0 := free_of (j := 0) y4; have z1 := cell_of (j := 1) y4; have f1 := free_of (j := 1) y4; have z2 := cell_of (j := 2) y4; have f2 := free_of (j := 2) y4; have z3 := cell_of (j := 3) y4; have f3 := free_of (j := 3) y4; have z4 := cell_of (j := 4) y4; have f4 := free_of (j := 4) y4; have z5 := cell_of (j := 5) y4; have f5 := free_of (j := 5) y4; have z6 := cell_of (j := 6) y4; have f6 := free_of (j := 6) y4; have z7 := cell_of (j := 7) y4; have f7 := free_of (j := 7) y4; have z8 := cell_of (j := 8) y4; have f8 := free_of (j := 8) y4; have z9 := cell_of (j := 9) y4; have f9 := free_of (j := 9) y4; have z10 := cell_of (j := 10) y4; have f10 := free_of (j := 10) y4; have z11 := cell_of (j := 11) y4; have f11 := free_of (j := 11) y4; have z12 := cell_of (j := 12) y4; have f12 := free_of (j := 12) y4; have z13 := cell_of (j := 13) y4; have f13 := free_of (j := 13) y4; have z14 := cell_of (j := 14) y4; have f14 := free_of (j := 14) y4)))
  have HR0 := Lib.hid hrest
  have hr2 : r < w2.heap.size := Nat.lt_trans hr hs5
  have HB13 := Lib.hid (((hB12.alloc hB12.size (.cells #[.string HS, .int .i64 0, .slice none 0 0, .int .i64 0, .string ⟨#[]⟩, .string ⟨#[]⟩, .slice none 0 0, .int .i64 0, .int .i64 0, .int .i64 0, .string ⟨#[]⟩, .slice none 0 0, .int .i64 0, .int .i64 0, .int .i64 0] 78))).trans (hb3.mono (by have := hB12.size; simp; omega)))
  have HIn : Hid (InB w3 w2.heap.size w2.heap.size HS 0) := Lib.hid (by
    refine ⟨_, .slice none 0 0, 0, [], i1, rfl, rfl, rfl, ⟨rfl, .inl ⟨rfl, rfl⟩⟩, Nat.le_refl _, ?_⟩
    intro k u hk
    match k with
    | 0 | 1 | 2 | 3 | 4 | 5 | 6 | 7 | 8 | 9 | 10 | 11 | 12 | 13 | 14 => simp at hk; subst hk; simp [okC]
    | k + 15 => simp at hk)
  have hs36 : w2.heap.size ≤ w3.heap.size := Nat.le_of_lt hs6
  clear hLI hLN
  go_loopw [49] (fun i wr => ∃ k : Nat, k ≤ n ∧ i = .int .i64 k ∧ Hid (∀ j, j < k → okI LS ts j = true) ∧ Hid (InB wr w2.heap.size w2.heap.size HS k) ∧ Hid (Below w2.heap.size w3 wr)) (fun i _ => n - (intOf i).toNat)
  case atStart => exact ⟨0, Nat.zero_le _, rfl, Lib.hid (fun j hj => by omega), HIn, Lib.hid (Below.refl _ _)⟩
  case round =>
    obtain ⟨k, hk, rfl, hp, hin, hB⟩ := hrel
    have hsr : w2.heap.size ≤ wr.heap.size := Nat.le_trans hs36 hB.out.size
    have hblk : ∀ q, q < w2.heap.size → wr.heap[q]? = w3.heap[q]? := fun q hq => hB.out.block q hq
    by_cases hlt : k < n
    · have hkt : k < ts.length := by have := HN.out; omega
      have hkI : (k : Int) < (n : Int) := by omega
      have hk0 : (0 : Int) ≤ (k : Int) := by omega
      obtain ⟨xs, hrow, hfvs⟩ := HR0.out
      obtain ⟨cs, q1, q2⟩ := FVs.get nI_len hfvs hrow (k + 1) (by simpa using hkt)
      obtain ⟨p, m, c, rfl⟩ := q1.node
      have hcell : ∀ j u, (nI ts[k] (.slice p m c))[j]? = some u → wr.cell? ⟨r, off + 5 + k * 5 + j, none⟩ = some u := fun j u hj => by
        have h1 := q2 j u hj
        rw [show off + (k + 1) * 5 + j = off + 5 + k * 5 + j by omega] at h1
        exact ((hB.out.cell (p := ⟨r, off + 5 + k * 5 + j, none⟩) hr2).trans (HB13.out.cell (p := ⟨r, off + 5 + k * 5 + j, none⟩) hr)).trans h1
      obtain ⟨At, hAt⟩ : ∃ At, At = bs (atomOf ts[k]) := ⟨_, rfl⟩
      obtain ⟨u1, hu1⟩ : ∃ u, u = ts[k].bytes := ⟨_, rfl⟩
      obtain ⟨u2, hu2⟩ : ∃ u, u = ts[k].size := ⟨_, rfl⟩
      obtain ⟨u3, hu3⟩ : ∃ u, u = ts[k].depth := ⟨_, rfl⟩
      have k0 : wr.cell? ⟨r, off + 5 + k * 5, none⟩ = some (.string At) := by rw [hAt]; exact hcell 0 _ rfl
      have k1 : wr.cell? ⟨r, off + 5 + k * 5 + 1, none⟩ = some (.slice p m c) := hcell 1 _ rfl
      have k2 : wr.cell? ⟨r, off + 5 + k * 5 + 2, none⟩ = some (.int .i64 u1) := by rw [hu1]; exact hcell 2 _ rfl
      have k3 : wr.cell? ⟨r, off + 5 + k * 5 + 3, none⟩ = some (.int .i64 u2) := by rw [hu2]; exact hcell 3 _ rfl
      have k4 : wr.cell? ⟨r, off + 5 + k * 5 + 4, none⟩ = some (.int .i64 u3) := by rw [hu3]; exact hcell 4 _ rfl
      obtain ⟨BX, hBX⟩ : ∃ BX : Obj, BX = (.cells #[.string At, .slice p m c, .int .i64 u1, .int .i64 u2, .int .i64 u3] 56) := ⟨_, rfl⟩
      have hbW : Below wr.heap.size wr (wr.alloc BX).drew := (below1 wr BX).drew
      have hmemk : ts[k] ∈ h :: ts := List.mem_cons_of_mem _ (List.getElem_mem hkt)
      have hfv : FV nI wr (fun q => q < w1.heap.size) ts[k] (nI ts[k] (.slice p m c)) := FV.move (fun _ hq => hq) (fun q hq => (hblk q (Nat.lt_trans hq hs5)).trans (HB13.out.block q hq)) _ _ q1
      have hb1k : ts[k].bytes ≤ 12000 := by have := memI_bytess hmemk; have := HBT.out; omega
      obtain ⟨cb, hcb⟩ : ∃ cb, cb = LS.getD k 0 := ⟨_, rfl⟩
      have hkS : k < S.size := by have := HSn.out; omega
      have hqb : S[k] = cb := by rw [HSat.out k hkS, hcb]
      have CT : Hid (Calls Tryz.prog 118 #[.pointer (some ⟨w2.heap.size, 0, none⟩), .int .u8 cb.toNat, .agg #[.string At, .slice p m c, .int .i64 u1, .int .i64 u2, .int .i64 u3]] (wr.alloc BX).drew fun e w' => e = .returned (.bool (okI LS ts k)) ∧ InB w' w2.heap.size w2.heap.size HS (k + 1) ∧ Below w2.heap.size (wr.alloc BX).drew w') := Lib.hid (by
        have := take_c cb (by rw [hcb]; exact HMm.out k hlt) ts[k] p m c (fun q => q < w1.heap.size) w2.heap.size w2.heap.size HS k (wr.alloc BX).drew (memI_wfs HWF.out hmemk) hb1k (hfv.below hbW (fun q hq => Nat.lt_of_lt_of_le (Nat.lt_trans hq hs5) hsr)) (fun q hq => Nat.lt_of_lt_of_le (Nat.lt_of_lt_of_le (Nat.lt_trans hq hs5) hsr) hbW.size) (hin.out.below hbW) (Nat.le_refl _) (Nat.le_trans hsr hbW.size) (by omega)
        unfold okI
        rw [List.getD_eq_getElem?_getD (l := ts), List.getElem?_eq_getElem hkt, Option.getD_some, ← hcb, hAt, hu1, hu2, hu3]
        exact this)
      have HB5 : Hid (∀ w5, Below w2.heap.size (wr.alloc BX).drew w5 → Below w2.heap.size w3 w5) := Lib.hid (fun w5 h5 => (hB.out.trans ((hbW.mono hsr))).trans h5)
      have HNX : Hid (okI LS ts k = true → ∀ j, j < k + 1 → okI LS ts j = true) := Lib.hid (fun e j hj => by
        by_cases e2 : j = k
        · subst e2; exact e
        · exact hp.out j (by omega))
      have HBAD : Hid (okI LS ts k = false → insOf s.data.toList = false) := Lib.hid (fun e => by rw [HI.out, HIT.out]; exact allB_bad hkt e)
      subst hBX
      clear hcell q1 q2 hrow hfvs hAt hu1 hu2 hu3 hfv hb1k hcb hmemk
      cases hok4 : okI LS ts k with
      | true =>
        rw [hok4] at CT
        have HP2 := Lib.hid (HNX.out hok4)
        clear HNX HBAD hok4
        go_wp2_with fail
        go_region_with (first | (go_at_call 118; (with_reducible refine (CT.out).mono ?_); rintro e w5 ⟨rfl, hin5, hb5⟩) | fail)
        all_goals
          go_wp2_with fail
          go_roundw
          case rel => first
            | exact ⟨k + 1, by omega, by go_num, HP2, Lib.hid hin5, Lib.hid (HB5.out _ hb5)⟩
            | (refine ⟨_, _, _, _, _, _, _, _, _, _, _, _, _, _, _, _, ⟨k + 1, ?_, ?_, HP2, Lib.hid hin5, Lib.hid (HB5.out _ hb5)⟩, rfl⟩
               · omega
               · go_num)
          case measure => simp [intOf]; omega
      | false =>
        rw [hok4] at CT
        have HBd := Lib.hid (HBAD.out hok4)
        clear HNX HBAD hok4
        go_wp2_with fail
        go_region_with (first | (go_at_call 118; (with_reducible refine (CT.out).mono ?_); rintro e w5 ⟨rfl, hin5, hb5⟩; have hb35 := HB5.out _ hb5; have y5 : w5.heap[w.heap.size]? = some (.cells #[.string ⟨#[]⟩, .int .i64 0, .slice none 0 0, .int .i64 0, .string ⟨#[]⟩, .string ⟨#[]⟩, .slice none 0 0, .int .i64 0, .int .i64 0, .int .i64 0, .string ⟨#[]⟩, .slice none 0 0, .int .i64 0, .int .i64 0, .int .i64 0] 78 (0, 0)) := (hb35.block _ (Nat.lt_trans hs4 hs5)).trans y4; have z0 := cell_of (j := 0) y5; have f0 := free_of (j := 0) y5; have z1 := cell_of (j := 1) y5; have f1 := free_of (j := 1) y5; have z2 := cell_of (j := 2) y5; have f2 := free_of (j := 2) y5; have z3 := cell_of (j := 3) y5; have f3 := free_of (j := 3) y5; have z4 := cell_of (j := 4) y5; have f4 := free_of (j := 4) y5; have z5 := cell_of (j := 5) y5; have f5 := free_of (j := 5) y5; have z6 := cell_of (j := 6) y5; have f6 := free_of (j := 6) y5; have z7 := cell_of (j := 7) y5; have f7 := free_of (j := 7) y5; have z8 := cell_of (j := 8) y5; have f8 := free_of (j := 8) y5; have z9 := cell_of (j := 9) y5; have f9 := free_of (j := 9) y5; have z10 := cell_of (j := 10) y5; have f10 := free_of (j := 10) y5; have z11 := cell_of (j := 11) y5; have f11 := free_of (j := 11) y5; have z12 := cell_of (j := 12) y5; have f12 := free_of (j := 12) y5; have z13 := cell_of (j := 13) y5; have f13 := free_of (j := 13) y5; have z14 := cell_of (j := 14) y5; have f14 := free_of (j := 14) y5) | fail)
        all_goals
          go_wp2_with fail
          have O := set15_same y5 (.string ⟨#[]⟩) (.int .i64 0) (.slice none 0 0) (.int .i64 0) (.string ⟨#[]⟩) (.string ⟨#[]⟩) (.slice none 0 0) (.int .i64 0) (.int .i64 0) (.int .i64 0) (.string ⟨#[]⟩) (.slice none 0 0) (.int .i64 0) (.int .i64 0) (.int .i64 0)
          have q0 := cell_of (j := 0) O; have q1 := cell_of (j := 1) O; have q2 := cell_of (j := 2) O; have q3 := cell_of (j := 3) O; have q4 := cell_of (j := 4) O; have q5 := cell_of (j := 5) O; have q6 := cell_of (j := 6) O; have q7 := cell_of (j := 7) O; have q8 := cell_of (j := 8) O; have q9 := cell_of (j := 9) O; have q10 := cell_of (j := 10) O; have q11 := cell_of (j := 11) O; have q12 := cell_of (j := 12) O; have q13 := cell_of (j := 13) O; have q14 := cell_of (j := 14) O
          refine bodyPost_ret (v := .tuple #[.agg #[.string ⟨#[]⟩, .int .i64 0, .slice none 0 0, .int .i64 0, .string ⟨#[]⟩, .string ⟨#[]⟩, .slice none 0 0, .int .i64 0, .int .i64 0, .int .i64 0, .string ⟨#[]⟩, .slice none 0 0, .int .i64 0, .int .i64 0, .int .i64 0], .bool false]) (by simp [results, Tryz.results71, go_sem, q0, q1, q2, q3, q4, q5, q6, q7, q8, q9, q10, q11, q12, q13, q14]) rfl ⟨?_, set15 (HB3.out.trans (hb35.mono HB2.size)) (Nat.le_refl _) _ _ _ _ _ _ _ _ _ _ _ _ _ _ _⟩
          unfold RiPost
          rw [HBd.out]
          first | exact ⟨0, 0, 0, 0, 0, 0, 0, 0, ⟨#[]⟩, ⟨#[]⟩, ⟨#[]⟩, ⟨#[]⟩, none, none, none, 0, 0, 0, 0, 0, 0, rfl, fun h => by cases h⟩ | exact ⟨0, 0, 0, 0, 0, 0, 0, 0, ⟨#[]⟩, ⟨#[]⟩, ⟨#[]⟩, ⟨#[]⟩, none, none, none, 0, 0, 0, 0, 0, 0, rfl⟩
    · have hkn : k = n := by omega
      have HT : Hid (insOf s.data.toList = true) := Lib.hid (by rw [HI.out, HIT.out]; exact allB_all (fun j hj => hp.out j (by have := HN.out; omega)))
      obtain ⟨a1, a3, a7, a8, a9, a12, a13, a14, s4, s5, s10, p2, p6, p11, n2, c2, n6, c6, n11, c11, ⟨hI15⟩⟩ := hin.out.cells
      have j0 := cell_of (j := 0) hI15; have j1 := cell_of (j := 1) hI15; have j2 := cell_of (j := 2) hI15; have j3 := cell_of (j := 3) hI15; have j4 := cell_of (j := 4) hI15; have j5 := cell_of (j := 5) hI15; have j6 := cell_of (j := 6) hI15; have j7 := cell_of (j := 7) hI15; have j8 := cell_of (j := 8) hI15; have j9 := cell_of (j := 9) hI15; have j10 := cell_of (j := 10) hI15; have j11 := cell_of (j := 11) hI15; have j12 := cell_of (j := 12) hI15; have j13 := cell_of (j := 13) hI15; have j14 := cell_of (j := 14) hI15
      have y5 : wr.heap[w.heap.size]? = some (.cells #[.string ⟨#[]⟩, .int .i64 0, .slice none 0 0, .int .i64 0, .string ⟨#[]⟩, .string ⟨#[]⟩, .slice none 0 0, .int .i64 0, .int .i64 0, .int .i64 0, .string ⟨#[]⟩, .slice none 0 0, .int .i64 0, .int .i64 0, .int .i64 0] 78 (0, 0)) := (hblk _ (Nat.lt_trans hs4 hs5)).trans y4
      have z0 := cell_of (j := 0) y5; have f0 := free_of (j := 0) y5; have z1 := cell_of (j := 1) y5; have f1 := free_of (j := 1) y5; have z2 := cell_of (j := 2) y5; have f2 := free_of (j := 2) y5; have z3 := cell_of (j := 3) y5; have f3 := free_of (j := 3) y5; have z4 := cell_of (j := 4) y5; have f4 := free_of (j := 4) y5; have z5 := cell_of (j := 5) y5; have f5 := free_of (j := 5) y5; have z6 := cell_of (j := 6) y5; have f6 := free_of (j := 6) y5; have z7 := cell_of (j := 7) y5; have f7 := free_of (j := 7) y5; have z8 := cell_of (j := 8) y5; have f8 := free_of (j := 8) y5; have z9 := cell_of (j := 9) y5; have f9 := free_of (j := 9) y5; have z10 := cell_of (j := 10) y5; have f10 := free_of (j := 10) y5; have z11 := cell_of (j := 11) y5; have f11 := free_of (j := 11) y5; have z12 := cell_of (j := 12) y5; have f12 := free_of (j := 12) y5; have z13 := cell_of (j := 13) y5; have f13 := free_of (j := 13) y5; have z14 := cell_of (j := 14) y5; have f14 := free_of (j := 14) y5
      go_wp2_with fail
      have O := set15_same y5 (.string HS) (.int .i64 a1) (.slice p2 n2 c2) (.int .i64 a3) (.string s4) (.string s5) (.slice p6 n6 c6) (.int .i64 a7) (.int .i64 a8) (.int .i64 a9) (.string s10) (.slice p11 n11 c11) (.int .i64 a12) (.int .i64 a13) (.int .i64 a14)
      have q0 := cell_of (j := 0) O; have q1 := cell_of (j := 1) O; have q2 := cell_of (j := 2) O; have q3 := cell_of (j := 3) O; have q4 := cell_of (j := 4) O; have q5 := cell_of (j := 5) O; have q6 := cell_of (j := 6) O; have q7 := cell_of (j := 7) O; have q8 := cell_of (j := 8) O; have q9 := cell_of (j := 9) O; have q10 := cell_of (j := 10) O; have q11 := cell_of (j := 11) O; have q12 := cell_of (j := 12) O; have q13 := cell_of (j := 13) O; have q14 := cell_of (j := 14) O
      refine bodyPost_ret (v := .tuple #[.agg #[.string HS, .int .i64 a1, .slice p2 n2 c2, .int .i64 a3, .string s4, .string s5, .slice p6 n6 c6, .int .i64 a7, .int .i64 a8, .int .i64 a9, .string s10, .slice p11 n11 c11, .int .i64 a12, .int .i64 a13, .int .i64 a14], .bool true]) (by simp [results, Tryz.results71, go_sem, q0, q1, q2, q3, q4, q5, q6, q7, q8, q9, q10, q11, q12, q13, q14]) rfl ⟨?_, set15 (HB3.out.trans (hB.out.mono HB2.size)) (Nat.le_refl _) _ _ _ _ _ _ _ _ _ _ _ _ _ _ _⟩
      exact ⟨a1, a3, a7, a8, a9, a12, a13, a14, HS, s4, s5, s10, p2, p6, p11, n2, c2, n6, c6, n11, c11, by rw [HT.out], fun _ => ⟨_, HP.out, by rw [HHS.out]; rfl⟩⟩
set_option maxHeartbeats 8000000 in
theorem readInstr_bad (s : ByteArray) (hs : s.size ≤ 1048576) (h : Tr) (ts : List Tr) (hp : parse s.data.toList = some (.list (h :: ts))) (w : World) (hgood : ¬ (lettersOf (atomOf h) ts.length ≠ [] ∧ (lettersOf (atomOf h) ts.length).length = ts.length)) :
    Calls Tryz.prog 71 #[.string s] w fun e w' => RiPost s.data.toList e ∧ Below w.heap.size w w' := by
  obtain ⟨hwf, hbt, hdt, -⟩ := parse_got hp
  obtain ⟨t1, ht1⟩ : ∃ t1, t1 = (Tr.list (h :: ts)).bytes := ⟨_, rfl⟩
  obtain ⟨t2, ht2⟩ : ∃ t2, t2 = (Tr.list (h :: ts)).size := ⟨_, rfl⟩
  obtain ⟨t3, ht3⟩ : ∃ t3, t3 = (Tr.list (h :: ts)).depth := ⟨_, rfl⟩
  obtain ⟨L, hL⟩ : ∃ L, L = (h :: ts).length := ⟨_, rfl⟩
  obtain ⟨HS, hHS⟩ : ∃ HS, HS = bs (atomOf h) := ⟨_, rfl⟩
  have hn6 : ts.length ≤ 5999 := by
    have := two_bytess hwf.2
    simp only [Tr.bytes, List.length_cons] at *
    omega
  have C : Hid (∀ W, Calls Tryz.prog 61 #[.string s] W fun e w' => (∃ r off cap, e = .returned (.tuple #[.agg #[.string (bs []), .slice (some ⟨r, off, none⟩) L cap, .int .i64 t1, .int .i64 t2, .int .i64 t3], .bool true]) ∧ r < w'.heap.size ∧ (L ≤ cap ∧ cap ≤ maxLen ∧ w'.cell? ⟨r, off, none⟩ = some (.string HS) ∧ Hid (∃ xs, hasRow w' r off xs ∧ FVs nI w' (fun k => k < w'.heap.size) (h :: ts) xs))) ∧ Below W.heap.size W w') := Lib.hid (fun W => (readForm_some hs hp W).mono fun e w' ⟨⟨p, n, c, h1, h2⟩, h3⟩ => ⟨by
    obtain ⟨r, off, cap, xs, he, g2, g3, g4, g5, g6⟩ := h2.list_cells
    have hh := nI_inj _ _ _ he
    simp only [Value.slice.injEq] at hh
    obtain ⟨rfl, rfl, rfl⟩ := hh
    obtain ⟨cs, q1, q2⟩ := FVs.get nI_len g6 g5 0 (by simp)
    obtain ⟨p', m', c', rfl⟩ := q1.node
    have k0 : w'.cell? ⟨r, off, none⟩ = some (.string (bs (atomOf h))) := by have := q2 0 _ rfl; simpa using this
    refine ⟨r, off, _, by rw [h1, ht1, ht2, ht3, hL]; rfl, g2.2, by rw [hL]; exact g3, g4, by rw [hHS]; exact k0, Lib.hid ⟨xs, g5, FVs.move (fun k hk => hk.2) (fun _ _ => rfl) _ _ g6⟩⟩, h3⟩)
  have CO : Hid (∀ W, Calls Tryz.prog 117 #[.string HS, .int .i64 ts.length] W fun e w' => e = .returned (.string (bs (lettersOf (atomOf h) ts.length))) ∧ Below W.heap.size W w') := Lib.hid (fun W => by rw [hHS]; exact operandsOf_c (atomOf h) ts.length (by omega) W)
  have HI : Hid (insOf s.data.toList = insT (atomOf h) ts) := Lib.hid (by simp [insOf, hp, insF])
  have HP := Lib.hid hp
  obtain ⟨S, hS⟩ : ∃ S, S = bs (lettersOf (atomOf h) ts.length) := ⟨_, rfl⟩
  rw [← hS] at CO
  have hSs : S.size = (lettersOf (atomOf h) ts.length).length := by rw [hS, bs_size]
  have hSl : S.toList = lettersOf (atomOf h) ts.length := by rw [hS, bs_toList]
  have hLn : L = ts.length + 1 := by rw [hL]; rfl
  obtain ⟨n, hn⟩ : ∃ n, n = ts.length := ⟨_, rfl⟩
  have hL0 : L ≠ 0 := by omega
  have hLb : L ≤ 6000 := by omega
  have y0 := heap_alloc_new w (.cells #[.string ⟨#[]⟩, .int .i64 0, .slice none 0 0, .int .i64 0, .string ⟨#[]⟩, .string ⟨#[]⟩, .slice none 0 0, .int .i64 0, .int .i64 0, .int .i64 0, .string ⟨#[]⟩, .slice none 0 0, .int .i64 0, .int .i64 0, .int .i64 0] 78)
  have HL := Lib.hid hLn
  have HN := Lib.hid hn
  have hLI : (L : Int) - 1 = (n : Int) := by omega
  have hLN : L - 1 = n := by omega
  rw [← hn] at CO
  have HR : Hid (insOf s.data.toList = false) := Lib.hid (by
    rw [HI.out]
    unfold insT
    by_cases e : lettersOf (atomOf h) ts.length = []
    · rw [e]; rfl
    · have e2 : ¬ (lettersOf (atomOf h) ts.length).length = ts.length := fun q => hgood ⟨e, q⟩
      rw [decide_eq_false e2]; simp)
  have hD : Hid (((S.toList == ([] : List UInt8)) = true ∧ S.toList = [] ∧ S.toList.isEmpty = true) ∨ ((S.toList == ([] : List UInt8)) = false ∧ ¬ S.toList = [] ∧ S.toList.isEmpty = false ∧ ((S.size : Int) == (n : Int)) = false)) := Lib.hid (by
    rw [hSl]
    by_cases e : lettersOf (atomOf h) ts.length = []
    · exact .inl (by rw [e]; simp)
    · refine .inr ⟨by simpa using e, e, by cases h9 : lettersOf (atomOf h) ts.length with | nil => exact absurd h9 e | cons a b => rfl, ?_⟩
      rw [beq_eq_false_iff_ne, hSs, hn]
      intro q
      exact hgood ⟨e, by omega⟩)
  unfold RiPost
  rw [HR.out]
  clear hp hwf hbt hdt ht1 ht2 ht3 hL hHS hn6 HI HP hSs hSl hLn hgood hS hn HR HL
  rcases hD.out with ⟨d1, d2, d3⟩ | ⟨d1, d2, d3, d4⟩
  · clear hD
    go_enter Tryz.func71, Tryz.ntmps71
    go_wp2_with (first | (go_at_call 61; go_must (refine (C.out _).mono ?_; rintro e w1 ⟨⟨r, off, cap, rfl, hr, hK⟩, hb1⟩; have y1 := below_blk hb1 (by simp) y0; have hs1 := hb1.size; have hs4 : w.heap.size < w1.heap.size := (by simp at hs1; omega); obtain ⟨hcl, hc, e0, hrest⟩ := hK; have HB1 := Lib.hid ((below1 w (.cells #[.string ⟨#[]⟩, .int .i64 0, .slice none 0 0, .int .i64 0, .string ⟨#[]⟩, .string ⟨#[]⟩, .slice none 0 0, .int .i64 0, .int .i64 0, .int .i64 0, .string ⟨#[]⟩, .slice none 0 0, .int .i64 0, .int .i64 0, .int .i64 0] 78)).trans (hb1.mono (by simp))); have x1 := heap_alloc_new w1 (.cells #[.string (bs []), .slice (some ⟨r, off, none⟩) L cap, .int .i64 t1, .int .i64 t2, .int .i64 t3] 56); have y2 := blk_alloc (o' := (.cells #[.string (bs []), .slice (some ⟨r, off, none⟩) L cap, .int .i64 t1, .int .i64 t2, .int .i64 t3] 56)) y1; have hcp := maxLen_le hc; skip)) | (go_at_call 73; go_must (refine (isAtom_no _ _ _ _ hL0 _ _ _ _).mono ?_; rintro e w2 ⟨rfl, hb2⟩; have hs2 := hb2.size; have hs5 : w1.heap.size < w2.heap.size := (by simp at hs2; omega); have y3 := below_blk hb2 (by simp; omega) y2; have X1 := below_blk hb2 (by simp) x1; have g0 := cell_of (j := 0) X1; have g1 := cell_of (j := 1) X1; have hB12 : Below w1.heap.size w1 w2 := (below1 w1 (.cells #[.string (bs []), .slice (some ⟨r, off, none⟩) L cap, .int .i64 t1, .int .i64 t2, .int .i64 t3] 56)).trans (hb2.mono (by simp)); have e1 : w2.cell? ⟨r, off, none⟩ = some (.string HS) := (hB12.cell (p := ⟨r, off, none⟩) hr).trans e0)) | (go_at_call 117; go_must (refine (CO.out _).mono ?_; rintro e w3 ⟨rfl, hb3⟩; have HB2 := HB1.out.trans (hB12.mono HB1.out.size); have HB3 := Lib.hid ((HB2.alloc HB2.size (.cells #[.string HS, .int .i64 0, .slice none 0 0, .int .i64 0, .string ⟨#[]⟩, .string ⟨#[]⟩, .slice none 0 0, .int .i64 0, .int .i64 0, .int .i64 0, .string ⟨#[]⟩, .slice none 0 0, .int .i64 0, .int .i64 0, .int .i64 0] 78)).trans (hb3.mono (by have := HB2.size; simp; omega))); have hs3 := hb3.size; have hs6 : w2.heap.size < w3.heap.size := (by simp at hs3; omega); have y4 := below_blk hb3 (by simp; omega) (blk_alloc (o' := (.cells #[.string HS, .int .i64 0, .slice none 0 0, .int .i64 0, .string ⟨#[]⟩, .string ⟨#[]⟩, .slice none 0 0, .int .i64 0, .int .i64 0, .int .i64 0, .string ⟨#[]⟩, .slice none 0 0, .int .i64 0, .int .i64 0, .int .i64 0] 78)) y3); have i1 := below_blk hb3 (by simp) (heap_alloc_new w2 (.cells #[.string HS, .int .i64 0, .slice none 0 0, .int .i64 0, .string ⟨#[]⟩, .string ⟨#[]⟩, .slice none 0 0, .int .i64 0, .int .i64 0, .int .i64 0, .string ⟨#[]⟩, .slice none 0 0, .int .i64 0, .int .i64 0, .int .i64 0] 78)); have z0 := cell_of (j := 0) y4; have f0 := free_of (j := 0) y4; have z1 := cell_of (j := 1) y4; have f1 := free_of (j := 1) y4; have z2 := cell_of (j := 2) y4; have f2 := free_of (j := 2) y4; have z3 := cell_of (j := 3) y4; have f3 := free_of (j := 3) y4; have z4 := cell_of (j := 4) y4; have f4 := free_of (j := 4) y4; have z5 := cell_of (j := 5) y4; have f5 := free_of (j := 5) y4; have z6 := cell_of (j := 6) y4; have f6 := free_of (j := 6) y4; have z7 := cell_of (j := 7) y4; have f7 := free_of (j := 7) y4; have z8 := cell_of (j := 8) y4; have f8 := free_of (j := 8) y4; have z9 := cell_of (j := 9) y4; have f9 := free_of (j := 9) y4; have z10 := cell_of (j := 10) y4; have f10 := free_of (j := 10) y4; have z11 := cell_of (j := 11) y4; have f11 := free_of (j := 11) y4; have z12 := cell_of (j := 12) y4; have f12 := free_of (j := 12) y4; have z13 := cell_of (j := 13) y4; have f13 := free_of (j := 13) y4; have z14 := cell_of (j := 14) y4; have f14 := free_of (j := 14) y4)))
    all_goals
      have O := set15_same y4 (.string ⟨#[]⟩) (.int .i64 0) (.slice none 0 0) (.int .i64 0) (.string ⟨#[]⟩) (.string ⟨#[]⟩) (.slice none 0 0) (.int .i64 0) (.int .i64 0) (.int .i64 0) (.string ⟨#[]⟩) (.slice none 0 0) (.int .i64 0) (.int .i64 0) (.int .i64 0)
      have q0 := cell_of (j := 0) O; have q1 := cell_of (j := 1) O; have q2 := cell_of (j := 2) O; have q3 := cell_of (j := 3) O; have q4 := cell_of (j := 4) O; have q5 := cell_of (j := 5) O; have q6 := cell_of (j := 6) O; have q7 := cell_of (j := 7) O; have q8 := cell_of (j := 8) O; have q9 := cell_of (j := 9) O; have q10 := cell_of (j := 10) O; have q11 := cell_of (j := 11) O; have q12 := cell_of (j := 12) O; have q13 := cell_of (j := 13) O; have q14 := cell_of (j := 14) O
      refine bodyPost_ret (v := .tuple #[.agg #[.string ⟨#[]⟩, .int .i64 0, .slice none 0 0, .int .i64 0, .string ⟨#[]⟩, .string ⟨#[]⟩, .slice none 0 0, .int .i64 0, .int .i64 0, .int .i64 0, .string ⟨#[]⟩, .slice none 0 0, .int .i64 0, .int .i64 0, .int .i64 0], .bool false]) (by simp [results, Tryz.results71, go_sem, q0, q1, q2, q3, q4, q5, q6, q7, q8, q9, q10, q11, q12, q13, q14]) rfl ⟨?_, set15 HB3.out (Nat.le_refl _) _ _ _ _ _ _ _ _ _ _ _ _ _ _ _⟩
      first | exact ⟨0, 0, 0, 0, 0, 0, 0, 0, ⟨#[]⟩, ⟨#[]⟩, ⟨#[]⟩, ⟨#[]⟩, none, none, none, 0, 0, 0, 0, 0, 0, rfl, fun h => by cases h⟩ | exact ⟨0, 0, 0, 0, 0, 0, 0, 0, ⟨#[]⟩, ⟨#[]⟩, ⟨#[]⟩, ⟨#[]⟩, none, none, none, 0, 0, 0, 0, 0, 0, rfl⟩
  · clear hD
    go_enter Tryz.func71, Tryz.ntmps71
    go_wp2_with (first | (go_at_call 61; go_must (refine (C.out _).mono ?_; rintro e w1 ⟨⟨r, off, cap, rfl, hr, hK⟩, hb1⟩; have y1 := below_blk hb1 (by simp) y0; have hs1 := hb1.size; have hs4 : w.heap.size < w1.heap.size := (by simp at hs1; omega); obtain ⟨hcl, hc, e0, hrest⟩ := hK; have HB1 := Lib.hid ((below1 w (.cells #[.string ⟨#[]⟩, .int .i64 0, .slice none 0 0, .int .i64 0, .string ⟨#[]⟩, .string ⟨#[]⟩, .slice none 0 0, .int .i64 0, .int .i64 0, .int .i64 0, .string ⟨#[]⟩, .slice none 0 0, .int .i64 0, .int .i64 0, .int .i64 0] 78)).trans (hb1.mono (by simp))); have x1 := heap_alloc_new w1 (.cells #[.string (bs []), .slice (some ⟨r, off, none⟩) L cap, .int .i64 t1, .int .i64 t2, .int .i64 t3] 56); have y2 := blk_alloc (o' := (.cells #[.string (bs []), .slice (some ⟨r, off, none⟩) L cap, .int .i64 t1, .int .i64 t2, .int .i64 t3] 56)) y1; have hcp := maxLen_le hc; skip)) | (go_at_call 73; go_must (refine (isAtom_no _ _ _ _ hL0 _ _ _ _).mono ?_; rintro e w2 ⟨rfl, hb2⟩; have hs2 := hb2.size; have hs5 : w1.heap.size < w2.heap.size := (by simp at hs2; omega); have y3 := below_blk hb2 (by simp; omega) y2; have X1 := below_blk hb2 (by simp) x1; have g0 := cell_of (j := 0) X1; have g1 := cell_of (j := 1) X1; have hB12 : Below w1.heap.size w1 w2 := (below1 w1 (.cells #[.string (bs []), .slice (some ⟨r, off, none⟩) L cap, .int .i64 t1, .int .i64 t2, .int .i64 t3] 56)).trans (hb2.mono (by simp)); have e1 : w2.cell? ⟨r, off, none⟩ = some (.string HS) := (hB12.cell (p := ⟨r, off, none⟩) hr).trans e0)) | (go_at_call 117; go_must (refine (CO.out _).mono ?_; rintro e w3 ⟨rfl, hb3⟩; have HB2 := HB1.out.trans (hB12.mono HB1.out.size); have HB3 := Lib.hid ((HB2.alloc HB2.size (.cells #[.string HS, .int .i64 0, .slice none 0 0, .int .i64 0, .string ⟨#[]⟩, .string ⟨#[]⟩, .slice none 0 0, .int .i64 0, .int .i64 0, .int .i64 0, .string ⟨#[]⟩, .slice none 0 0, .int .i64 0, .int .i64 0, .int .i64 0] 78)).trans (hb3.mono (by have := HB2.size; simp; omega))); have hs3 := hb3.size; have hs6 : w2.heap.size < w3.heap.size := (by simp at hs3; omega); have y4 := below_blk hb3 (by simp; omega) (blk_alloc (o' := (.cells #[.string HS, .int .i64 0, .slice none 0 0, .int .i64 0, .string ⟨#[]⟩, .string ⟨#[]⟩, .slice none 0 0, .int .i64 0, .int .i64 0, .int .i64 0, .string ⟨#[]⟩, .slice none 0 0, .int .i64 0, .int .i64 0, .int .i64 0] 78)) y3); have i1 := below_blk hb3 (by simp) (heap_alloc_new w2 (.cells #[.string HS, .int .i64 0, .slice none 0 0, .int .i64 0, .string ⟨#[]⟩, .string ⟨#[]⟩, .slice none 0 0, .int .i64 0, .int .i64 0, .int .i64 0, .string ⟨#[]⟩, .slice none 0 0, .int .i64 0, .int .i64 0, .int .i64 0] 78)); have z0 := cell_of (j := 0) y4; have f0 := free_of (j := 0) y4; have z1 := cell_of (j := 1) y4; have f1 := free_of (j := 1) y4; have z2 := cell_of (j := 2) y4; have f2 := free_of (j := 2) y4; have z3 := cell_of (j := 3) y4; have f3 := free_of (j := 3) y4; have z4 := cell_of (j := 4) y4; have f4 := free_of (j := 4) y4; have z5 := cell_of (j := 5) y4; have f5 := free_of (j := 5) y4; have z6 := cell_of (j := 6) y4; have f6 := free_of (j := 6) y4; have z7 := cell_of (j := 7) y4; have f7 := free_of (j := 7) y4; have z8 := cell_of (j := 8) y4; have f8 := free_of (j := 8) y4; have z9 := cell_of (j := 9) y4; have f9 := free_of (j := 9) y4; have z10 := cell_of (j := 10) y4; have f10 := free_of (j := 10) y4; have z11 := cell_of (j := 11) y4; have f11 := free_of (j := 11) y4; have z12 := cell_of (j := 12) y4; have f12 := free_of (j := 12) y4; have z13 := cell_of (j := 13) y4; have f13 := free_of (j := 13) y4; have z14 := cell_of (j := 14) y4; have f14 := free_of (j := 14) y4)))
    all_goals
      have O := set15_same y4 (.string ⟨#[]⟩) (.int .i64 0) (.slice none 0 0) (.int .i64 0) (.string ⟨#[]⟩) (.string ⟨#[]⟩) (.slice none 0 0) (.int .i64 0) (.int .i64 0) (.int .i64 0) (.string ⟨#[]⟩) (.slice none 0 0) (.int .i64 0) (.int .i64 0) (.int .i64 0)
      have q0 := cell_of (j := 0) O; have q1 := cell_of (j := 1) O; have q2 := cell_of (j := 2) O; have q3 := cell_of (j := 3) O; have q4 := cell_of (j := 4) O; have q5 := cell_of (j := 5) O; have q6 := cell_of (j := 6) O; have q7 := cell_of (j := 7) O; have q8 := cell_of (j := 8) O; have q9 := cell_of (j := 9) O; have q10 := cell_of (j := 10) O; have q11 := cell_of (j := 11) O; have q12 := cell_of (j := 12) O; have q13 := cell_of (j := 13) O; have q14 := cell_of (j := 14) O
      refine bodyPost_ret (v := .tuple #[.agg #[.string ⟨#[]⟩, .int .i64 0, .slice none 0 0, .int .i64 0, .string ⟨#[]⟩, .string ⟨#[]⟩, .slice none 0 0, .int .i64 0, .int .i64 0, .int .i64 0, .string ⟨#[]⟩, .slice none 0 0, .int .i64 0, .int .i64 0, .int .i64 0], .bool false]) (by simp [results, Tryz.results71, go_sem, q0, q1, q2, q3, q4, q5, q6, q7, q8, q9, q10, q11, q12, q13, q14]) rfl ⟨?_, set15 HB3.out (Nat.le_refl _) _ _ _ _ _ _ _ _ _ _ _ _ _ _ _⟩
      first | exact ⟨0, 0, 0, 0, 0, 0, 0, 0, ⟨#[]⟩, ⟨#[]⟩, ⟨#[]⟩, ⟨#[]⟩, none, none, none, 0, 0, 0, 0, 0, 0, rfl, fun h => by cases h⟩ | exact ⟨0, 0, 0, 0, 0, 0, 0, 0, ⟨#[]⟩, ⟨#[]⟩, ⟨#[]⟩, ⟨#[]⟩, none, none, none, 0, 0, 0, 0, 0, 0, rfl⟩
theorem readInstr_list (s : ByteArray) (hs : s.size ≤ 1048576) (h : Tr) (ts : List Tr) (hp : parse s.data.toList = some (.list (h :: ts))) (w : World) :
    Calls Tryz.prog 71 #[.string s] w fun e w' => RiPost s.data.toList e ∧ Below w.heap.size w w' := by
  by_cases hgood : lettersOf (atomOf h) ts.length ≠ [] ∧ (lettersOf (atomOf h) ts.length).length = ts.length
  · exact readInstr_good s hs h ts hp w hgood
  · exact readInstr_bad s hs h ts hp w hgood
end Go.Proofs.YtfknoigbkleanaaGreatDoor
