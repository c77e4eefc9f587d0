/- The program's reader of forms: a list of parts. -/
import Derived.Test.YtlinjnflhpldfaaGreatDoorImpl1c
namespace Go.Proofs.YtlinjnflhpldfaaGreatDoor
open Go.RowKit
set_option maxRecDepth 8000
set_option linter.unusedSimpArgs false
set_option linter.unusedVariables false
/-- The state at a round's head. -/
def LI (s : ByteArray) (d rb N : Nat) (R : Option (List Tr × List UInt8)) (m : Nat) (v : Value) (w wr : World) : Prop :=
  ∃ (j : Nat) (ts : List Tr) (xs : List Value) (f : Nat), m + j = s.size ∧ RB wr rb s j ∧ w.grownBy wr (some rb) ∧ wr.heap[N]? = some (.cells #[.string ⟨#[]⟩, .slice none 0 0, .int .i64 0, .int .i64 0, .int .i64 0] 55 (0, 0)) ∧
    wr.ownsRow (N + 1) 55 5 v ts.length xs ∧ FVs nI wr (fun q => N + 1 ≤ q ∧ q < wr.heap.size ∧ v.ownBlock ≠ some q) ts xs ∧ (s.data.toList.drop j).length < f ∧ wfs ts ∧ bytess ts ≤ j ∧
    Hid (R = (items (read d) f (s.data.toList.drop j)).map fun p => (ts ++ p.1, p.2))
theorem LI.start {s : ByteArray} {d rb i : Nat} {w : World} (hr : RB w rb s i) (hi : i ≤ s.size) {R : Option (List Tr × List UInt8)} (HR0 : Hid (R = (items (read d) (s.data.toList.drop i).length.succ (s.data.toList.drop i)).map fun p => (([] : List Tr) ++ p.1, p.2))) :
    LI s d rb w.heap.size R (s.size - i) (.slice none 0 0) w (w.alloc (.cells #[.string ⟨#[]⟩, .slice none 0 0, .int .i64 0, .int .i64 0, .int .i64 0] 55)) := by
  refine ⟨i, [], [], (s.data.toList.drop i).length.succ, by omega, hr.alloc _, grownBy_alloc (grownBy_refl _ _) _, heap_alloc_new _ _, World.ownsRow_nil _ _ _ _, ?_, Nat.lt_succ_self _, trivial, ?_, HR0⟩
  · simp only [FVs]
  · simp [bytess]
theorem form_none {s : ByteArray} {d rb i : Nat} {w : World} (h : FormC s d) (hr : RB w rb s i) (hi : i ≤ s.size) (hres : read (d + 1) (s.data.toList.drop i) = none) :
    Calls Tryz.prog 78 #[.pointer (some ⟨rb, 0, none⟩), .int .i64 d] w fun e w' => e = .returned (.tuple #[.agg #[.string ⟨#[]⟩, .slice none 0 0, .int .i64 0, .int .i64 0, .int .i64 0], .bool false]) ∧ (∃ i, RB w' rb s i) ∧ w.grownBy w' (some rb) :=
  (h rb i w hr hi).mono fun e w' ⟨h1, h2⟩ => by rw [hres] at h1; exact ⟨h1.1, h1.2, h2⟩
theorem form_some {s : ByteArray} {d rb i j : Nat} {w : World} {t : Tr} {r : List UInt8} (h : FormC s d) (hr : RB w rb s i) (hi : i ≤ s.size) (hres : read (d + 1) (s.data.toList.drop i) = some (t, r)) (hj : s.size - r.length = j) :
    Calls Tryz.prog 78 #[.pointer (some ⟨rb, 0, none⟩), .int .i64 d] w fun e w' => ∃ p n c, e = .returned (.tuple #[.agg #[.string (bs (atomOf t)), .slice p n c, .int .i64 t.bytes, .int .i64 t.size, .int .i64 t.depth], .bool true]) ∧
      FV nI w' (fun k => w.heap.size ≤ k ∧ k < w'.heap.size) t (nI t (.slice p n c)) ∧ RB w' rb s j ∧ w.grownBy w' (some rb) :=
  (h rb i w hr hi).mono fun e w' ⟨h1, h2⟩ => by
    rw [hres] at h1
    obtain ⟨cs, h3, h4, h5⟩ := h1
    obtain ⟨p, n, c, rfl⟩ := h4.node
    exact ⟨p, n, c, h3, h4, by rw [← hj]; exact h5, h2⟩

theorem takeY (s : ByteArray) (hs : s.size ≤ 12000) (rb i : Nat) (b : UInt8) (c : Int) (hc : c = b.toNat) (w : World) (hr : RB w rb s i) (hi : i < s.size) (hb : s[i] = b) :
    Calls Tryz.prog 100 #[.pointer (some ⟨rb, 0, none⟩), .int .u8 c] w fun e w' => e = .returned (.bool true) ∧ RB w' rb s (i + 1) ∧ w.grownBy w' (some rb) ∧ w'.heap.size = w.heap.size := by
  subst hc; exact take_yes s hs rb i b w hr hi hb
theorem takeN (s : ByteArray) (hs : s.size ≤ 12000) (rb i : Nat) (b : UInt8) (c : Int) (hc : c = b.toNat) (w : World) (hr : RB w rb s i) (hi : i ≤ s.size) (hb : ∀ h : i < s.size, s[i] ≠ b) :
    Calls Tryz.prog 100 #[.pointer (some ⟨rb, 0, none⟩), .int .u8 c] w fun e w' => e = .returned (.bool false) ∧ RB w' rb s i ∧ w.grownBy w' (some rb) ∧ w'.heap.size = w.heap.size := by
  subst hc
  refine (take_no s hs rb i b w hr hi hb).mono ?_
  rintro e w' ⟨rfl, n, rfl⟩
  exact ⟨rfl, hr.drewN n, grownBy_drewN _ _ _, rfl⟩
theorem grownBy_row {a b c : World} {rb : Nat} {row : Option Nat} (h : a.grownBy b (some rb)) (k : b.grownBy c row) (hk : ∀ q, row = some q → a.heap.size ≤ q) : a.grownBy c (some rb) :=
  ⟨k.os.trans h.os, k.tape.trans h.tape, k.output.trans h.output, Nat.le_trans h.size k.size, fun i hi hne => (k.block i (Nat.lt_of_lt_of_le hi h.size) (fun e => by have := hk i e.symm; omega)).trans (h.block i hi hne)⟩
/-- The parts with one more, behind an append. -/
theorem parts_grown {wr w1 w2 : World} {N rb : Nat} {pp : Option Addr} {pc n : Nat} {ts : List Tr} {xs : List Value} {t : Tr} {cs : List Value} {g' c' : Nat} {a b : Obj}
    (HV : FVs nI wr (fun q => N + 1 ≤ q ∧ q < wr.heap.size ∧ (Value.slice pp n pc).ownBlock ≠ some q) ts xs) (hv : FV nI w1 (fun q => wr.heap.size ≤ q ∧ q < w1.heap.size) t cs)
    (hg1 : wr.grownBy w1 (some rb)) (hrb : rb < N + 1) (hN : N + 1 ≤ wr.heap.size) (hold : ∀ q, (Value.slice pp n pc).ownBlock = some q → q < wr.heap.size)
    (hgrow : ((w1.alloc a).alloc b).grownBy w2 (Value.slice pp n pc).ownBlock) (hgg : (Value.slice pp n pc).ownBlock = some g' ∨ g' = ((w1.alloc a).alloc b).heap.size) :
    FVs nI w2 (fun q => N + 1 ≤ q ∧ q < w2.heap.size ∧ (Value.slice (some ⟨g', 0, none⟩) (n + 1) c').ownBlock ≠ some q) (ts ++ [t]) (xs ++ cs) := by
  refine FVs.snoc (FV.grown hv hN (below2 _ _ _) hgrow rfl hgg hold) (FVs.grown (w := w1) ?_ (below2 _ _ _) hgrow rfl hgg)
  refine FVs.move ?_ ?_ _ _ HV
  · rintro q ⟨h1, h2, h3⟩; exact ⟨h1, Nat.lt_of_lt_of_le h2 hg1.size, h3⟩
  · rintro q ⟨h1, h2, h3⟩; exact hg1.block q h2 (by simp; omega)
/-- The whole list is read. -/
theorem list_done {s : ByteArray} {w2 w5 : World} {N rb e' g' c' n : Nat} {ts : List Tr} {xs : List Value} {r' : List UInt8} (hn : ts.length = n)
    (hown' : w2.ownsRow (N + 1) 55 5 (.slice (some ⟨g', 0, none⟩) n c') n xs)
    (HV : FVs nI w2 (fun q => N + 1 ≤ q ∧ q < w2.heap.size ∧ (Value.slice (some ⟨g', 0, none⟩) n c').ownBlock ≠ some q) ts xs)
    (h5 : ∀ q, N + 1 ≤ q → q < w2.heap.size → w5.heap[q]? = w2.heap[q]?) (h5s : w2.heap.size ≤ w5.heap.size) (hrb : RB w5 rb s (e' + 1)) (he : s.size - r'.length = e' + 1) :
    FormPost rb s N ((some (ts, r')).map fun p => (Tr.list p.1, p.2)) (.returned (.tuple #[.agg (nI (.list ts) (.slice (some ⟨g', 0, none⟩) n c')).toArray, .bool true])) w5 := by
  subst hn
  have hcap := owns_cap hown'
  have hlt := hown'.lt g' rfl
  refine ⟨_, rfl, ?_, by rw [he]; exact hrb⟩
  simp only [FV]
  refine ⟨g', 0, c', xs, rfl, ⟨by omega, by omega⟩, hcap.1, hcap.2, (owns_row hown').move (h5 g' hlt.1 hlt.2), ?_⟩
  exact FVs.move (fun q hq => ⟨by omega, by omega⟩) (fun q hq => h5 q hq.1 hq.2.1) _ _ HV

theorem newList_n (n : Nat) (ts : List Tr) (hn : ts.length = n) (xs : List Value) (ok : Nat → Prop) (r cap : Nat) (w : World) (hv : FVs nI w ok ts xs) (hrow : hasRow w r 0 xs) (hok : ∀ k, ok k → k < w.heap.size) (hrl : r < w.heap.size) (hwf : wfs ts) (hb : bytess ts ≤ 1000000000) (hcap : cap ≤ maxLen) (hcl : n ≤ cap) :
    Calls Tryz.prog 69 #[.slice (some ⟨r, 0, none⟩) n cap] w fun e w' => e = .returned (.agg #[.string ⟨#[]⟩, .slice (some ⟨r, 0, none⟩) n cap, .int .i64 (Tr.list ts).bytes, .int .i64 (Tr.list ts).size, .int .i64 (Tr.list ts).depth]) ∧ Below w.heap.size w w' := by
  subst hn; exact newList_c ts xs ok r 0 cap w hv hrow hok hrl hwf hb hcap hcl
/-- What a call of newList wants, behind 'take'. -/
theorem list_ready {w2 w3 : World} {N rb g' c' n : Nat} {ts : List Tr} {xs : List Value} (hown' : w2.ownsRow (N + 1) 55 5 (.slice (some ⟨g', 0, none⟩) n c') n xs)
    (HV : FVs nI w2 (fun q => N + 1 ≤ q ∧ q < w2.heap.size ∧ (Value.slice (some ⟨g', 0, none⟩) n c').ownBlock ≠ some q) ts xs) (hg3 : w2.grownBy w3 (some rb)) (hrb : rb < N + 1) :
    FVs nI w3 (fun q => N + 1 ≤ q ∧ q < w2.heap.size ∧ (Value.slice (some ⟨g', 0, none⟩) n c').ownBlock ≠ some q) ts xs ∧ hasRow w3 g' 0 xs ∧ g' < w3.heap.size ∧ c' ≤ maxLen ∧ n ≤ c' ∧ ∀ k, (N + 1 ≤ k ∧ k < w2.heap.size ∧ (Value.slice (some ⟨g', 0, none⟩) n c').ownBlock ≠ some k) → k < w3.heap.size := by
  have hcap := owns_cap hown'
  have hlt := hown'.lt g' rfl
  have hs := hg3.size
  exact ⟨FVs.move (fun q hq => hq) (fun q hq => hg3.block q hq.2.1 (by simp; omega)) _ _ HV, (owns_row hown').move (hg3.block g' hlt.2 (by simp; omega)), by omega, hcap.2, hcap.1, fun k hk => by omega⟩

set_option maxHeartbeats 2000000 in
theorem list_succ (s : ByteArray) (hs : s.size ≤ 12000) (d : Nat) (hd : d ≤ 60) (HF : FormC s d) : ListC s (d + 1) := by
  intro rb i w hr hi
  have hrl := hr.lt
  obtain ⟨R, hR0⟩ : ∃ R, R = items (read (d + 1)) (s.data.toList.drop i).length.succ (s.data.toList.drop i) := ⟨_, rfl⟩
  rw [← hR0, show ((d + 1 : Nat) : Int) = (d : Int) + 1 from rfl]
  have HR0 : Hid (R = (items (read (d + 1)) (s.data.toList.drop i).length.succ (s.data.toList.drop i)).map fun p => (([] : List Tr) ++ p.1, p.2)) := by unfold Hid; rw [hR0]; simp
  clear hR0
  go_enter Tryz.func101, Tryz.ntmps101
  go_wp2_with fail
  go_loopg [6] (s.size - i) (fun m v wr => LI s (d + 1) rb w.heap.size R m v w wr)
  case atStart => exact LI.start hr hi HR0
  case round =>
    clear HR0
    obtain ⟨j, ts, xs, f, hm, hrb, hg, hb0, hown, hfv, hf, hwf, hby, hR⟩ := hrel
    obtain ⟨pp, pc, rfl⟩ := owns_slice hown
    have hN := lt_of_block hb0
    have hlen := length_le_bytess ts
    have HG := Lib.hid hg
    have HV := Lib.hid hfv
    have HW := Lib.hid hwf
    obtain ⟨i0, hi0, hz0, hz1, hz2⟩ := info_parts Tryz.infoI
    clear hg hfv hwf hr hi
    cases hres : read (d + 1) (s.data.toList.drop j) with
    | none =>
      have HC := form_none HF hrb (by omega) hres
      have HN := Lib.hid (it_none hres hR)
      clear hres hR hown hf
      go_wp2_with (go_at_call 78; go_must (refine HC.mono ?_; rintro e w1 ⟨rfl, hr1, hg1⟩; have y0 := grownBy_blk hg1 hb0 (by omega); have z0 := cell_of (j := 0) y0; have z1 := cell_of (j := 1) y0; have z2 := cell_of (j := 2) y0; have z3 := cell_of (j := 3) y0; have z4 := cell_of (j := 4) y0; have g0 := free_of (j := 0) y0; have g1 := free_of (j := 1) y0; have g2 := free_of (j := 2) y0; have g3 := free_of (j := 3) y0; have g4 := free_of (j := 4) y0; have hz := hg1.size; have hz9 : w.heap.size < w1.heap.size := by omega))
      refine bodyPost_ret (v := .tuple #[.agg #[.string ⟨#[]⟩, .slice none 0 0, .int .i64 0, .int .i64 0, .int .i64 0], .bool false]) (by simp [results, Tryz.results101, go_sem, z0, z1, z2, z3, z4, hz9]) rfl ⟨?_, ?_⟩
      · rw [HN.out]
        obtain ⟨i1, hr1⟩ := hr1
        exact ⟨rfl, i1, (((((hr1.setNew (by omega) _ _).setNew (by omega) _ _).setNew (by omega) _ _).setNew (by omega) _ _).setNew (by omega) _ _).alloc _⟩
      · exact grownBy_alloc (grownBy_set_new (grownBy_set_new (grownBy_set_new (grownBy_set_new (grownBy_set_new (grownBy_trans HG.out hg1) (by simp) _) (by simp) _) (by simp) _) (by simp) _) (by simp) _) _
    | some tr =>
      obtain ⟨t, r⟩ := tr
      have hgot0 := read_got _ _ _ _ hres
      have hgot := hgot0.drop (by rw [size_data]; omega)
      have htw := Lib.hid hgot0.wf
      clear hgot0
      rw [size_data] at hgot
      obtain ⟨hr0, hr1, hr2⟩ := hgot
      obtain ⟨e', he'⟩ : ∃ e', s.size - r.length = e' := ⟨_, rfl⟩
      rw [he'] at hr0
      have HC := form_some HF hrb (by omega) hres he'
      have hee : e' = j + t.bytes := by omega
      have hes : e' ≤ s.size := by omega
      cases hcc : decide (∃ h : e' < s.size, s[e'] = 41) with
      | true =>
        obtain ⟨hel, h41⟩ := of_decide_eq_true hcc
        have hrr : r = 41 :: s.data.toList.drop (e' + 1) := by rw [hr0, List.drop_eq_getElem_cons (by simpa using hel)]; exact congrArg (· :: _) h41
        rw [hrr] at hres he'
        have HS := Lib.hid (it_end hres rfl hf hR)
        have HT := Lib.hid (fun w (hr : RB w rb s e') => takeY s hs rb e' 41 41 rfl w hr hel h41)
        have hlr : s.size - (s.data.toList.drop (e' + 1)).length = e' + 1 := by simp; omega
        have HLR := Lib.hid hlr
        clear hres hR hf h41 hcc hrr hr0 he' hr1 hr2 hlr
        go_wp2_with (first | (go_at_call 78; go_must (refine HC.mono ?_; rintro e w1 ⟨p, n, c, rfl, hv, hr1, hg1⟩; have y0 := grownBy_blk hg1 hb0 (by omega); have hs1 := hg1.size; have ho1 := hown.kept hg1 (.inr (owns_lt hown (by omega))))) | (at_builtin; go_must (refine wpList_append_one _ rfl _ _ 53 rfl (w.heap.size + 1) 55 i0 (.agg #[.string ⟨#[]⟩, .slice none 0 0, .int .i64 0, .int .i64 0, .int .i64 0]) 5 64 Tryz.underlying53 hi0 hz0 hz1 hz2 rfl (by decide) _ _ _ rfl ((ho1.alloc _).alloc _) ⟨w1.heap.size + 1, 0, none⟩ [.string (bs (atomOf t)), .slice p n c, .int .i64 t.bytes, .int .i64 t.size, .int .i64 t.depth] rfl rfl (news_at (heap_alloc_new2 _ _ _)) (by intro u hu; simp at hu; rcases hu with rfl | rfl | rfl | rfl | rfl <;> rfl) (by unfold maxLen; omega) (by omega) (by simp; omega) ?_; intro g' c' w2 hown' hgrow hgg; have hr2 : RB w2 rb s e' := blk_grown hgrow ((hr1.alloc _).alloc _) (owns_lt hown (by omega)); have x0 := blk_grown hgrow (blk_alloc (blk_alloc y0)) (owns_lt hown (by omega)); have hs2 := grown_size2 hgrow)) | (go_at_call 100; (with_reducible refine (HT.out _ hr2).mono ?_); rintro e w3 ⟨rfl, hr3, hg3, hs3⟩; have x3 := grownBy_blk hg3 x0 (by omega)) | (go_at_call 69; go_must (have HP := parts_grown (c' := c') HV.out hv hg1 (by omega) (by omega) (fun q hq => (hown.lt q hq).2) hgrow hgg; have HQ := list_ready hown' HP hg3 (by omega); refine (newList_n (ts.length + 1) (ts ++ [t]) (by simp) _ _ g' c' w3 HQ.1 HQ.2.1 HQ.2.2.2.2.2 HQ.2.2.1 (wfs_snoc HW.out htw.out) (by rw [bytess_snoc]; omega) HQ.2.2.2.1 HQ.2.2.2.2.1).mono ?_; clear HP HQ; rintro e w4 ⟨rfl, hb4⟩; have x4 := below_blk hb4 (by omega) x3; have z0 := cell_of (j := 0) x4; have z1 := cell_of (j := 1) x4; have z2 := cell_of (j := 2) x4; have z3 := cell_of (j := 3) x4; have z4 := cell_of (j := 4) x4; have f0 := free_of (j := 0) x4; have f1 := free_of (j := 1) x4; have f2 := free_of (j := 2) x4; have f3 := free_of (j := 3) x4; have f4 := free_of (j := 4) x4; have hs4 := hb4.size)))
        refine bodyPost_ret (v := .tuple #[.agg #[.string ⟨#[]⟩, .slice (some ⟨g', 0, none⟩) (ts.length + 1) c', .int .i64 (Tr.list (ts ++ [t])).bytes, .int .i64 (Tr.list (ts ++ [t])).size, .int .i64 (Tr.list (ts ++ [t])).depth], .bool true]) (by simp [results, Tryz.results101, go_sem, z0, z1, z2, z3, z4]) rfl ⟨?_, ?_⟩
        · rw [HS.out]
          refine list_done (n := ts.length + 1) (by simp) hown' (parts_grown (c' := c') HV.out hv hg1 (by omega) (by omega) (fun q hq => (hown.lt q hq).2) hgrow hgg) ?_ (by simp; omega) ?_ HLR.out
          · intro q hq hq2
            rw [blk_set_other _ (by simp; omega), blk_set_other _ (by simp; omega), blk_set_other _ (by simp; omega), blk_set_other _ (by simp; omega), blk_set_other _ (by simp; omega), hb4.block q (by omega), hg3.block q hq2 (by simp; omega)]
          · exact (((((hr3.below hb4).setNew (by omega) _ _).setNew (by omega) _ _).setNew (by omega) _ _).setNew (by omega) _ _).setNew (by omega) _ _
        · exact grownBy_set_new (grownBy_set_new (grownBy_set_new (grownBy_set_new (grownBy_set_new (grownBy_trans (grownBy_trans (grownBy_row (grownBy_alloc (grownBy_alloc (grownBy_trans HG.out hg1) _) _) hgrow (fun q hq => by have := hown.lt q hq; omega)) hg3) (grownBy_below hb4 _)) (by simp) _) (by simp) _) (by simp) _) (by simp) _) (by simp) _
      | false =>
        have hn41 : ∀ h : e' < s.size, s[e'] ≠ 41 := fun h e => of_decide_eq_false hcc ⟨h, e⟩
        have HT := Lib.hid (fun w (hr : RB w rb s e') => takeN s hs rb e' 41 41 rfl w hr hes hn41)
        cases hc2 : decide (∃ h : e' < s.size, s[e'] = 32) with
        | true =>
          obtain ⟨hel, h32⟩ := of_decide_eq_true hc2
          have hrr : r = 32 :: s.data.toList.drop (e' + 1) := by rw [hr0, List.drop_eq_getElem_cons (by simpa using hel)]; exact congrArg (· :: _) h32
          rw [hrr] at hres
          obtain ⟨f', hff, HF'⟩ := it_next hres rfl hf hR
          have hfl : (s.data.toList.drop (e' + 1)).length < f' := by simp at hf ⊢; omega
          have HFL := Lib.hid hfl
          have HU := Lib.hid (fun w (hr : RB w rb s e') => takeY s hs rb e' 32 32 rfl w hr hel h32)
          clear hres hR hf h32 hcc hc2 hrr hr0 he' hr1 hr2 hff hfl hn41
          go_wp2_with (first | (go_at_call 78; go_must (refine HC.mono ?_; rintro e w1 ⟨p, n, c, rfl, hv, hr1, hg1⟩; have y0 := grownBy_blk hg1 hb0 (by omega); have hs1 := hg1.size; have ho1 := hown.kept hg1 (.inr (owns_lt hown (by omega))))) | (at_builtin; go_must (refine wpList_append_one _ rfl _ _ 53 rfl (w.heap.size + 1) 55 i0 (.agg #[.string ⟨#[]⟩, .slice none 0 0, .int .i64 0, .int .i64 0, .int .i64 0]) 5 64 Tryz.underlying53 hi0 hz0 hz1 hz2 rfl (by decide) _ _ _ rfl ((ho1.alloc _).alloc _) ⟨w1.heap.size + 1, 0, none⟩ [.string (bs (atomOf t)), .slice p n c, .int .i64 t.bytes, .int .i64 t.size, .int .i64 t.depth] rfl rfl (news_at (heap_alloc_new2 _ _ _)) (by intro u hu; simp at hu; rcases hu with rfl | rfl | rfl | rfl | rfl <;> rfl) (by unfold maxLen; omega) (by omega) (by simp; omega) ?_; intro g' c' w2 hown' hgrow hgg; have hr2 : RB w2 rb s e' := blk_grown hgrow ((hr1.alloc _).alloc _) (owns_lt hown (by omega)); have x0 := blk_grown hgrow (blk_alloc (blk_alloc y0)) (owns_lt hown (by omega)); have hs2 := grown_size2 hgrow)) | (go_at_call 100; (with_reducible refine (HT.out _ hr2).mono ?_); rintro e w3 ⟨rfl, hr3, hg3, hs3⟩; have x3 := grownBy_blk hg3 x0 (by omega)) | (go_at_call 100; (with_reducible refine (HU.out _ hr3).mono ?_); rintro e w4 ⟨rfl, hr4, hg4, hs4⟩; have x4 := grownBy_blk hg4 x3 (by omega)))
          go_roundg (s.size - (e' + 1))
          case measure => omega
          case rel =>
            refine ⟨e' + 1, ts ++ [t], xs ++ [.string (bs (atomOf t)), .slice p n c, .int .i64 t.bytes, .int .i64 t.size, .int .i64 t.depth], f', by omega, hr4, grownBy_trans (grownBy_trans (grownBy_row (grownBy_alloc (grownBy_alloc (grownBy_trans HG.out hg1) _) _) hgrow (fun q hq => by have := hown.lt q hq; omega)) hg3) hg4, x4, ?_, ?_, HFL.out, wfs_snoc HW.out htw.out, by rw [bytess_snoc]; omega, HF'⟩
            · have := (hown'.kept hg3 (.inr (owns_lt hown' (by omega)))).kept hg4 (.inr (owns_lt hown' (by omega)))
              simpa using this
            · have HP := parts_grown (c' := c') HV.out hv hg1 (by omega) (by omega) (fun q hq => (hown.lt q hq).2) hgrow hgg
              exact FVs.move (fun q hq => ⟨hq.1, by omega, hq.2.2⟩) (fun q hq => (hg4.block q (by omega) (by simp; omega)).trans (hg3.block q (by omega) (by simp; omega))) _ _ HP
        | false =>
          have hn32 : ∀ h : e' < s.size, s[e'] ≠ 32 := fun h e => of_decide_eq_false hc2 ⟨h, e⟩
          have HN := Lib.hid (it_none2 hres (by
            intro c r' hc
            rw [hr0] at hc
            rcases Nat.lt_or_ge e' s.size with h | h
            · rw [List.drop_eq_getElem_cons (by simpa using h)] at hc
              simp only [List.cons.injEq] at hc
              rw [← hc.1]
              exact ⟨hn41 h, hn32 h⟩
            · rw [List.drop_eq_nil_of_le (by simpa using h)] at hc
              cases hc) hR)
          have HU := Lib.hid (fun w (hr : RB w rb s e') => takeN s hs rb e' 32 32 rfl w hr hes hn32)
          clear hres hR hf hcc hc2 hr0 he' hr1 hr2 hn41 hn32
          go_wp2_with (first | (go_at_call 78; go_must (refine HC.mono ?_; rintro e w1 ⟨p, n, c, rfl, hv, hr1, hg1⟩; have y0 := grownBy_blk hg1 hb0 (by omega); have hs1 := hg1.size; have ho1 := hown.kept hg1 (.inr (owns_lt hown (by omega))))) | (at_builtin; go_must (refine wpList_append_one _ rfl _ _ 53 rfl (w.heap.size + 1) 55 i0 (.agg #[.string ⟨#[]⟩, .slice none 0 0, .int .i64 0, .int .i64 0, .int .i64 0]) 5 64 Tryz.underlying53 hi0 hz0 hz1 hz2 rfl (by decide) _ _ _ rfl ((ho1.alloc _).alloc _) ⟨w1.heap.size + 1, 0, none⟩ [.string (bs (atomOf t)), .slice p n c, .int .i64 t.bytes, .int .i64 t.size, .int .i64 t.depth] rfl rfl (news_at (heap_alloc_new2 _ _ _)) (by intro u hu; simp at hu; rcases hu with rfl | rfl | rfl | rfl | rfl <;> rfl) (by unfold maxLen; omega) (by omega) (by simp; omega) ?_; intro g' c' w2 hown' hgrow hgg; have hr2 : RB w2 rb s e' := blk_grown hgrow ((hr1.alloc _).alloc _) (owns_lt hown (by omega)); have x0 := blk_grown hgrow (blk_alloc (blk_alloc y0)) (owns_lt hown (by omega)); have hs2 := grown_size2 hgrow)) | (go_at_call 100; (with_reducible refine (HT.out _ hr2).mono ?_); rintro e w3 ⟨rfl, hr3, hg3, hs3⟩; have x3 := grownBy_blk hg3 x0 (by omega)) | (go_at_call 100; (with_reducible refine (HU.out _ hr3).mono ?_); rintro e w4 ⟨rfl, hr4, hg4, hs4⟩; have x4 := grownBy_blk hg4 x3 (by omega); have z0 := cell_of (j := 0) x4; have z1 := cell_of (j := 1) x4; have z2 := cell_of (j := 2) x4; have z3 := cell_of (j := 3) x4; have z4 := cell_of (j := 4) x4; have f0 := free_of (j := 0) x4; have f1 := free_of (j := 1) x4; have f2 := free_of (j := 2) x4; have f3 := free_of (j := 3) x4; have f4 := free_of (j := 4) x4))
          refine bodyPost_ret (v := .tuple #[.agg #[.string ⟨#[]⟩, .slice none 0 0, .int .i64 0, .int .i64 0, .int .i64 0], .bool false]) (by simp [results, Tryz.results101, go_sem, z0, z1, z2, z3, z4]) rfl ⟨?_, ?_⟩
          · rw [HN.out]
            exact ⟨rfl, e', ((((hr4.setNew (by omega) _ _).setNew (by omega) _ _).setNew (by omega) _ _).setNew (by omega) _ _).setNew (by omega) _ _⟩
          · exact grownBy_set_new (grownBy_set_new (grownBy_set_new (grownBy_set_new (grownBy_set_new (grownBy_trans (grownBy_trans (grownBy_row (grownBy_alloc (grownBy_alloc (grownBy_trans HG.out hg1) _) _) hgrow (fun q hq => by have := hown.lt q hq; omega)) hg3) hg4) (by simp) _) (by simp) _) (by simp) _) (by simp) _) (by simp) _
end Go.Proofs.YtlinjnflhpldfaaGreatDoor
