/- The program: whether two forms are equal; a list made of whatever parts. -/
import Derived.Test.YtaoicbmepliklaaTg8
namespace Go.Proofs.Ytaoicbmepliklaa
open Go.RowKit
set_option maxRecDepth 8000
set_option linter.unusedSimpArgs false
set_option linter.unusedVariables false
def EqPostT (P : Prop) (e : Ending) : Prop := ∃ z, e = .returned (.bool z) ∧ (z = true ↔ P)
def EqCT (n : Nat) : Prop := ∀ (t u : Tr) (p q : Option Addr) (m c m2 c2 : Nat) (w : World), t.depth < n → t.wf → u.wf → FV nI w (fun k => k < w.heap.size) t (nI t (.slice p m c)) → FV nI w (fun k => k < w.heap.size) u (nI u (.slice q m2 c2)) →
    Calls Try.prog 95 #[.agg #[.string (bs (atomOf t)), .slice p m c, .int .i64 t.bytes, .int .i64 t.size, .int .i64 t.depth], .agg #[.string (bs (atomOf u)), .slice q m2 c2, .int .i64 u.bytes, .int .i64 u.size, .int .i64 u.depth]] w fun e w' => EqPostT (t = u) e ∧ Below w.heap.size w w'
theorem eqT_nil (w : World) (f : Value) : Calls Try.prog 105 #[.slice none 0 0, .slice none 0 0, f] w fun e w' => e = .returned (.bool true) ∧ Below w.heap.size w w' := by
  go_enter Try.func105, Try.ntmps105
  go_wp2_with fail
  refine wp_loop_rounds 1 ?_
  rw [rounds_succ]
  go_wp2_with fail
  go_ret
  exact ⟨rfl, Below.refl _ _⟩
theorem eqT_len (w : World) (f : Value) (p q : Option Addr) (m c m2 c2 : Nat) (h : m ≠ m2) (h1 : m ≤ maxLen) (h2 : m2 ≤ maxLen) : Calls Try.prog 105 #[.slice p m c, .slice q m2 c2, f] w fun e w' => e = .returned (.bool false) ∧ Below w.heap.size w w' := by
  have hm := maxLen_le h1
  have hm2 := maxLen_le h2
  have hd : ((m : Int) == (m2 : Int)) = false := by simp; omega
  have hd2 : ¬ (m : Int) = (m2 : Int) := by omega
  go_enter Try.func105, Try.ntmps105
  go_wp2_with fail
  go_ret
  exact ⟨rfl, Below.refl _ _⟩
theorem takeT_eq_step {ts us : List Tr} {k : Nat} (h : ts.take k = us.take k) (h1 : k < ts.length) (h2 : k < us.length) (he : ts[k] = us[k]) : ts.take (k + 1) = us.take (k + 1) := by
  rw [List.take_succ_eq_append_getElem h1, List.take_succ_eq_append_getElem h2, h, he]
set_option maxHeartbeats 2000000 in
theorem eqT_c (n : Nat) (ih : EqCT n) (ts us : List Tr) (r off cap r2 off2 cap2 L : Nat) (xs ys : List Value) (w : World) (hL : L = ts.length) (hL2 : L = us.length) (hd : depths ts < n + 1) (hw1 : wfs ts) (hw2 : wfs us) (hc1 : L ≤ cap) (hc2 : cap ≤ maxLen)
    (h1 : r < w.heap.size) (h2 : r2 < w.heap.size) (g1 : hasRow w r off xs) (g2 : hasRow w r2 off2 ys) (f1 : FVs nI w (fun k => k < w.heap.size) ts xs) (f2 : FVs nI w (fun k => k < w.heap.size) us ys) :
    Calls Try.prog 105 #[.slice (some ⟨r, off, none⟩) L cap, .slice (some ⟨r2, off2, none⟩) L cap2, .func (.func 95) #[] #[]] w fun e w' => EqPostT (ts = us) e ∧ Below w.heap.size w w' := by
  have hm := maxLen_le hc2
  have HK : Hid (∀ (wr : World), Below w.heap.size w wr → ∀ k, k < L → ∃ t u p m c q m2 c2 a1 a2 a3 a4 b1 b2 b3 b4, ts[k]? = some t ∧ us[k]? = some u ∧ wr.cell? ⟨r, off + k * 5, none⟩ = some (.string a1) ∧ wr.cell? ⟨r, off + k * 5 + 1, none⟩ = some (.slice p m c) ∧ wr.cell? ⟨r, off + k * 5 + 2, none⟩ = some (.int .i64 a2) ∧ wr.cell? ⟨r, off + k * 5 + 3, none⟩ = some (.int .i64 a3) ∧ wr.cell? ⟨r, off + k * 5 + 4, none⟩ = some (.int .i64 a4) ∧ wr.cell? ⟨r2, off2 + k * 5, none⟩ = some (.string b1) ∧ wr.cell? ⟨r2, off2 + k * 5 + 1, none⟩ = some (.slice q m2 c2) ∧ wr.cell? ⟨r2, off2 + k * 5 + 2, none⟩ = some (.int .i64 b2) ∧ wr.cell? ⟨r2, off2 + k * 5 + 3, none⟩ = some (.int .i64 b3) ∧ wr.cell? ⟨r2, off2 + k * 5 + 4, none⟩ = some (.int .i64 b4) ∧
      ∀ W, Below w.heap.size w W → Calls Try.prog 95 #[.agg #[.string a1, .slice p m c, .int .i64 a2, .int .i64 a3, .int .i64 a4], .agg #[.string b1, .slice q m2 c2, .int .i64 b2, .int .i64 b3, .int .i64 b4]] W fun e w' => EqPostT (t = u) e ∧ Below W.heap.size W w') := Lib.hid (fun wr hb k hk => by
    have k1 : k < ts.length := by omega
    have k2 : k < us.length := by omega
    obtain ⟨cs, q1, q2⟩ := FVs.get nI_len f1 g1 k k1
    obtain ⟨p, m, c, rfl⟩ := q1.node
    obtain ⟨ds, q3, q4⟩ := FVs.get nI_len f2 g2 k k2
    obtain ⟨q, m2, c2, rfl⟩ := q3.node
    have e (j : Nat) (v : Value) (h : (nI ts[k] (.slice p m c))[j]? = some v) : wr.cell? ⟨r, off + k * 5 + j, none⟩ = some v := (hb.cell (p := ⟨r, off + k * 5 + j, none⟩) h1).trans (q2 j v h)
    have e2 (j : Nat) (v : Value) (h : (nI us[k] (.slice q m2 c2))[j]? = some v) : wr.cell? ⟨r2, off2 + k * 5 + j, none⟩ = some v := (hb.cell (p := ⟨r2, off2 + k * 5 + j, none⟩) h2).trans (q4 j v h)
    refine ⟨ts[k], us[k], p, m, c, q, m2, c2, bs (atomOf ts[k]), ts[k].bytes, ts[k].size, ts[k].depth, bs (atomOf us[k]), us[k].bytes, us[k].size, us[k].depth, List.getElem?_eq_getElem k1, List.getElem?_eq_getElem k2, e 0 _ rfl, e 1 _ rfl, e 2 _ rfl, e 3 _ rfl, e 4 _ rfl, e2 0 _ rfl, e2 1 _ rfl, e2 2 _ rfl, e2 3 _ rfl, e2 4 _ rfl, fun W hW => ?_⟩
    exact ih _ _ p q m c m2 c2 W (by have := depth_lt k1; simp only [Tr.depth] at this; omega) (wf_get hw1 k1) (wf_get hw2 k2) ((q1.below hW (fun _ h => h)).wide (fun j hj => Nat.lt_of_lt_of_le hj hW.size)) ((q3.below hW (fun _ h => h)).wide (fun j hj => Nat.lt_of_lt_of_le hj hW.size)))
  have HL := Lib.hid hL
  have HL2 := Lib.hid hL2
  clear ih hL hL2 hd hw1 hw2 f1 f2 g1 g2
  go_enter Try.func105, Try.ntmps105
  go_wp2_with fail
  go_loopw [17] (fun i wr => ∃ k : Nat, k ≤ L ∧ i = .int .i64 k ∧ Hid (ts.take k = us.take k) ∧ Below w.heap.size w wr) (fun i _ => L - (intOf i).toNat)
  case atStart => exact ⟨0, Nat.zero_le _, rfl, Lib.hid rfl, Below.refl _ _⟩
  case round =>
    obtain ⟨k, hk, rfl, hT, hb⟩ := hrel
    by_cases hlt : k < L
    · obtain ⟨t, u, p, m, c, q, m2, c2, a1, a2, a3, a4, b1, b2, b3, b4, ht, hu, x0, x1, x2, x3, x4, y0, y1, y2, y3, y4, hC⟩ := HK.out wr hb k hlt
      have C := Lib.hid hC
      have HT := Lib.hid ht
      have HU := Lib.hid hu
      have hk0 : (0 : Int) ≤ (k : Int) := by omega
      have hsr : r < wr.heap.size := Nat.lt_of_lt_of_le h1 hb.size
      have hsr2 : r2 < wr.heap.size := Nat.lt_of_lt_of_le h2 hb.size
      clear hC HK ht hu
      go_wp2_with (go_at_call 95; go_must (refine (C.out _ (hb.trans ((below2 wr _ _).mono hb.size))).mono ?_; rintro e w2 ⟨⟨z, rfl, hz⟩, hb2⟩; have HZ := Lib.hid hz; clear hz; cases z))
      · go_ret
        refine ⟨⟨false, rfl, by simp; intro e; have h1 := HT.out; rw [e, HU.out] at h1; simp only [Option.some.injEq] at h1; have := HZ.out.2 h1.symm; cases this⟩, (hb.trans ((below2 wr _ _).mono hb.size)).trans (hb2.mono (by have := hb.size; simp; omega))⟩
      · go_roundw
        case rel =>
          refine ⟨k + 1, by omega, by go_num, Lib.hid ?_, (hb.trans ((below2 wr _ _).mono hb.size)).trans (hb2.mono (by have := hb.size; simp; omega))⟩
          have k1 : k < ts.length := by rw [← HL.out]; exact hlt
          have k2 : k < us.length := by rw [← HL2.out]; exact hlt
          have e1 := HT.out
          have e2 := HU.out
          rw [List.getElem?_eq_getElem k1] at e1
          rw [List.getElem?_eq_getElem k2] at e2
          simp only [Option.some.injEq] at e1 e2
          exact takeT_eq_step hT.out k1 k2 (by rw [e1, e2]; exact HZ.out.1 trivial)
        case measure => simp [intOf]; omega
    · have hkL : k = L := by omega
      have hF := hT.out
      rw [List.take_of_length_le (by rw [← HL.out]; omega), List.take_of_length_le (by rw [← HL2.out]; omega)] at hF
      have HF := Lib.hid hF
      clear hF HK hT
      go_wp2_with fail
      go_ret
      exact ⟨⟨true, rfl, by simpa using HF.out⟩, hb⟩
theorem atomT_bs {a b : List UInt8} (h : a ≠ b) : ((bs a).toList == (bs b).toList) = false := by rw [bs_toList, bs_toList]; simpa using h
set_option maxHeartbeats 2000000 in
theorem equalsT_c : ∀ n, EqCT n
  | 0 => fun t _ _ _ _ _ _ _ _ h => by omega
  | n + 1 => fun t u p q m c m2 c2 w hd hw1 hw2 hf hg => by
    by_cases he : atomOf t = atomOf u
    · have hbe : bs (atomOf u) = bs (atomOf t) := by rw [he]
      obtain ⟨P, hP, CF⟩ : ∃ P : Prop, (P ↔ t = u) ∧ ∀ W, Below w.heap.size w W → Calls Try.prog 105 #[.slice p m c, .slice q m2 c2, .func (.func 95) #[] #[]] W fun e w' => EqPostT P e ∧ Below W.heap.size W w' := by
        match t, u, hd, hw1, hw2, hf, hg, he with
        | .atom a, .atom b, _, _, _, hf, hg, he =>
          simp only [FV] at hf hg
          have h1 := nI_inj _ _ _ hf
          have h2 := nI_inj _ _ _ hg
          simp only [Value.slice.injEq] at h1 h2
          obtain ⟨rfl, rfl, rfl⟩ := h1
          obtain ⟨rfl, rfl, rfl⟩ := h2
          simp only [atomOf] at he
          exact ⟨True, by simp [he], fun W hW => (eqT_nil W _).mono fun e w' ⟨h1, h2⟩ => ⟨⟨true, h1, by simp⟩, h2⟩⟩
        | .atom a, .list us, _, hw1, _, _, _, he => exact absurd he (by simp only [atomOf]; exact hw1.1)
        | .list ts, .atom b, _, _, hw2, _, _, he => exact absurd he.symm (by simp only [atomOf]; exact hw2.1)
        | .list ts, .list us, hd, hw1, hw2, hf, hg, _ =>
          obtain ⟨r, off, cap, xs, hh, k2, k3, k4, k5, k6⟩ := hf.list_cells
          have hh := nI_inj _ _ _ hh
          simp only [Value.slice.injEq] at hh
          obtain ⟨rfl, rfl, rfl⟩ := hh
          obtain ⟨r2, off2, cap2, ys, hh, j2, j3, j4, j5, j6⟩ := hg.list_cells
          have hh := nI_inj _ _ _ hh
          simp only [Value.slice.injEq] at hh
          obtain ⟨rfl, rfl, rfl⟩ := hh
          by_cases hlen : ts.length = us.length
          · refine ⟨ts = us, by simp, fun W hW => ?_⟩
            rw [← hlen]
            exact eqT_c n (equalsT_c n) ts us r off c r2 off2 c2 ts.length xs ys W rfl hlen (by simpa only [Tr.depth] using hd) hw1.2 hw2.2 k3 k4 (Nat.lt_of_lt_of_le k2 hW.size) (Nat.lt_of_lt_of_le j2 hW.size) (k5.move (hW.block r k2)) (j5.move (hW.block r2 j2)) (FVs.move (fun i hi => Nat.lt_of_lt_of_le hi hW.size) (fun i hi => hW.block i hi) _ _ k6) (FVs.move (fun i hi => Nat.lt_of_lt_of_le hi hW.size) (fun i hi => hW.block i hi) _ _ j6)
          · exact ⟨False, by simp; intro e; exact hlen (by rw [e]), fun W hW => (eqT_len W _ _ _ _ _ _ _ hlen (Nat.le_trans k3 k4) (Nat.le_trans j3 j4)).mono fun e w' ⟨h1, h2⟩ => ⟨⟨false, h1, by simp⟩, h2⟩⟩
      have C := Lib.hid (CF _ (below2 w (.cells #[.string (bs (atomOf t)), .slice p m c, .int .i64 t.bytes, .int .i64 t.size, .int .i64 t.depth] 41) (.cells #[.string (bs (atomOf u)), .slice q m2 c2, .int .i64 u.bytes, .int .i64 u.size, .int .i64 u.depth] 41)))
      have HP := Lib.hid hP
      clear CF hP hf hg hw1 hw2 hd
      rw [hbe] at C ⊢
      have hx2 : ((bs (atomOf t)).toList == (bs (atomOf t)).toList) = true := by simp
      generalize bs (atomOf t) = A at *
      obtain ⟨n1, hn1⟩ : ∃ x : Int, x = t.bytes := ⟨_, rfl⟩
      obtain ⟨n2, hn2⟩ : ∃ x : Int, x = t.size := ⟨_, rfl⟩
      obtain ⟨n3, hn3⟩ : ∃ x : Int, x = t.depth := ⟨_, rfl⟩
      obtain ⟨n4, hn4⟩ : ∃ x : Int, x = u.bytes := ⟨_, rfl⟩
      obtain ⟨n5, hn5⟩ : ∃ x : Int, x = u.size := ⟨_, rfl⟩
      obtain ⟨n6, hn6⟩ : ∃ x : Int, x = u.depth := ⟨_, rfl⟩
      rw [← hn1, ← hn2, ← hn3, ← hn4, ← hn5, ← hn6] at C ⊢
      clear hn1 hn2 hn3 hn4 hn5 hn6 he hbe
      go_enter Try.func95, Try.ntmps95
      go_wp2_with (go_at_call 105; go_must (refine (C.out).mono ?_; rintro e w2 ⟨⟨z, rfl, hz⟩, hb2⟩))
      go_ret
      exact ⟨⟨z, rfl, hz.trans HP.out⟩, (below2 w _ _).trans (hb2.mono (by simp; omega))⟩
    · have hx2 := atomT_bs he
      have hx3 : ¬ (bs (atomOf t)).toList = (bs (atomOf u)).toList := by rw [bs_toList, bs_toList]; exact he
      have HN := Lib.hid (show ¬ t = u from fun e => he (by rw [e]))
      generalize bs (atomOf t) = A1 at *
      generalize bs (atomOf u) = A2 at *
      clear he hf hg hw1 hw2 hd
      go_enter Try.func95, Try.ntmps95
      go_wp2_with fail
      go_ret
      exact ⟨⟨false, rfl, by simpa using HN.out⟩, below2 w _ _⟩
/-- Five cells that a form's are like. -/
def RecAt (w : World) (r off : Nat) : Prop := ∃ u p n c x y z, w.cell? ⟨r, off, none⟩ = some (.string u) ∧ w.cell? ⟨r, off + 1, none⟩ = some (.slice p n c) ∧ w.cell? ⟨r, off + 2, none⟩ = some (.int .i64 x) ∧ w.cell? ⟨r, off + 3, none⟩ = some (.int .i64 y) ∧ w.cell? ⟨r, off + 4, none⟩ = some (.int .i64 z)
theorem RecAt.below {w w' : World} {B r off : Nat} (h : RecAt w r off) (hb : Below B w w') (hr : r < B) : RecAt w' r off := by
  obtain ⟨u, p, n, c, x, y, z, h0, h1, h2, h3, h4⟩ := h
  exact ⟨u, p, n, c, x, y, z, (hb.cell (p := ⟨r, off, none⟩) hr).trans h0, (hb.cell (p := ⟨r, off + 1, none⟩) hr).trans h1, (hb.cell (p := ⟨r, off + 2, none⟩) hr).trans h2, (hb.cell (p := ⟨r, off + 3, none⟩) hr).trans h3, (hb.cell (p := ⟨r, off + 4, none⟩) hr).trans h4⟩
/-- Some form, whatever it is. -/
def AnyForm (e : Ending) : Prop := ∃ u p n c x y z, e = .returned (.agg #[.string u, .slice p n c, .int .i64 x, .int .i64 y, .int .i64 z])
set_option maxHeartbeats 4000000 in
theorem newList_weak (L r cap : Nat) (w : World) (hL : L ≤ 1000) (hR : ∀ k, k < L → RecAt w r (k * 5)) (hrl : r < w.heap.size) (hcap : cap ≤ maxLen) (hcl : L ≤ cap) :
    Calls Try.prog 53 #[.slice (some ⟨r, 0, none⟩) L cap] w fun e w' => AnyForm e ∧ Below w.heap.size w w' := by
  have HR := Lib.hid hR
  clear hR
  go_enter Try.func53, Try.ntmps53
  go_wp2_with fail
  go_loopg [10] L (fun m i wr => ∃ (k : Nat) (x y z : Int), m + k = L ∧ i = .int .i64 k ∧ Below w.heap.size w wr ∧
    wr.heap[w.heap.size]? = some (.cells #[.string ⟨#[]⟩, .slice none 0 0, .int .i64 0, .int .i64 0, .int .i64 0] 41 (0, 0)) ∧
    wr.heap[w.heap.size + 1]? = some (.cells #[.string ⟨#[]⟩, .slice (some ⟨r, 0, none⟩) L cap, .int .i64 x, .int .i64 y, .int .i64 z] 41 (0, 0)))
  case atStart => exact ⟨0, _, _, _, by omega, rfl, below2 _ _ _, by rw [heap_alloc_old (h := by simp)]; exact heap_alloc_new _ _, by simpa using heap_alloc_new2 w _ _⟩
  case round =>
    obtain ⟨k, x, y, z, hm, rfl, hbl, hb0, hb1⟩ := hrel
    have l0 := cell_of (j := 0) hb1
    have l1 := cell_of (j := 1) hb1
    have l2 := cell_of (j := 2) hb1
    have l3 := cell_of (j := 3) hb1
    have l4 := cell_of (j := 4) hb1
    have g0 := free_of (j := 0) hb1
    have g1 := free_of (j := 1) hb1
    have g2 := free_of (j := 2) hb1
    have g3 := free_of (j := 3) hb1
    have g4 := free_of (j := 4) hb1
    have m0 := cell_of (j := 0) hb0
    have m1 := cell_of (j := 1) hb0
    have m2 := cell_of (j := 2) hb0
    have m3 := cell_of (j := 3) hb0
    have m4 := cell_of (j := 4) hb0
    have n0 := free_of (j := 0) hb0
    have n1 := free_of (j := 1) hb0
    have n2 := free_of (j := 2) hb0
    have n3 := free_of (j := 3) hb0
    have n4 := free_of (j := 4) hb0
    have hsz := lt_of_block hb1
    by_cases hlt : k < L
    · obtain ⟨u, p, pn, pc, x1, y1, z1, e0, e1, e2, e3, e4⟩ := (HR.out k hlt).below hbl hrl
      go_wp2_with fail
      all_goals
        go_roundg (gk - 1)
        case measure => omega
        case rel =>
          refine ⟨k + 1, wrap64 (x + wrap64 (1 + x1)), wrap64 (y + y1), max z (wrap64 (1 + z1)), by omega, by go_num, ((((hbl.setCell (by simp) _).setCell (by simp) _).setCell (by simp) _).alloc (by simp; omega) _), ?_, ?_⟩
          · exact blk_alloc (by rw [blk_set_other _ (by simp), blk_set_other _ (by simp), blk_set_other _ (by simp)]; exact hb0)
          · exact blk_alloc (blk_set (blk_set (blk_set hb1 _) _) _)
    · have : k = L := by omega
      subst this
      go_wp2_with fail
      refine bodyPost_ret (v := .agg #[.string ⟨#[]⟩, .slice (some ⟨r, 0, none⟩) k cap, .int .i64 x, .int .i64 y, .int .i64 z]) (by simp [results, Try.results53, go_sem, m0, m1, m2, m3, m4]) rfl ⟨⟨_, _, _, _, _, _, _, rfl⟩, ?_⟩
      exact ((((hbl.setCell (by simp) _).setCell (by simp) _).setCell (by simp) _).setCell (by simp) _).setCell (by simp) _
theorem rec_of {w : World} {r off : Nat} {u : ByteArray} {p : Option Addr} {n c : Nat} {x y z : Int} {a b : List Value} (h : hasRow w r 0 (a ++ (.string u :: .slice p n c :: .int .i64 x :: .int .i64 y :: .int .i64 z :: b))) (hl : a.length = off) : RecAt w r off := by
  have e (j : Nat) (v : Value) (hj : (Value.string u :: .slice p n c :: .int .i64 x :: .int .i64 y :: .int .i64 z :: b)[j]? = some v) : w.cell? ⟨r, off + j, none⟩ = some v := by
    have := h (off + j) v (by rw [List.getElem?_append_right (by omega), hl, Nat.add_sub_cancel_left]; exact hj)
    rwa [Nat.zero_add] at this
  exact ⟨u, p, n, c, x, y, z, e 0 _ rfl, e 1 _ rfl, e 2 _ rfl, e 3 _ rfl, e 4 _ rfl⟩
set_option maxHeartbeats 4000000 in
theorem newHeaded_weak (hd : List UInt8) (hh : okAt hd) (r cap : Nat) (u1 u2 : ByteArray) (p1 p2 : Option Addr) (n1 c1 n2 c2 : Nat) (x1 y1 z1 x2 y2 z2 : Int) (w : World) (hb : w.heap[r]? = some (.cells #[.string u1, .slice p1 n1 c1, .int .i64 x1, .int .i64 y1, .int .i64 z1, .string u2, .slice p2 n2 c2, .int .i64 x2, .int .i64 y2, .int .i64 z2] 41 (0, 0))) :
    Calls Try.prog 63 #[.string (bs hd), .slice (some ⟨r, 0, none⟩) 2 cap] w fun e w' => AnyForm e ∧ Below w.heap.size w w' := by
  obtain ⟨i0, hi0, hz0, hz1, hz2⟩ := info_parts Try.infoI
  have hsz : (bs hd).size ≤ 12000 := by rw [bs_size]; exact hh.2
  have hrl := lt_of_block hb
  have HNA : Hid (∀ W, Calls Try.prog 64 #[.string (bs hd)] W fun e w' => e = .returned (.agg #[.string (bs hd), .slice none 0 0, .int .i64 hd.length, .int .i64 1, .int .i64 0]) ∧ Below W.heap.size W w') := Lib.hid (fun W => (newAtom_c (bs hd) W hsz).mono fun e w' ⟨h1, h2⟩ => ⟨by rw [h1, bs_size], h2⟩)
  have HROW := Lib.hid (row_of hb)
  have HNL : Hid (∀ (X : World) (g c' : Nat), hasRow X g 0 ([.string (bs hd), .slice none 0 0, .int .i64 hd.length, .int .i64 1, .int .i64 0] ++ [.string u1, .slice p1 n1 c1, .int .i64 x1, .int .i64 y1, .int .i64 z1, .string u2, .slice p2 n2 c2, .int .i64 x2, .int .i64 y2, .int .i64 z2]) → g < X.heap.size → c' ≤ maxLen → 3 ≤ c' → Calls Try.prog 53 #[.slice (some ⟨g, 0, none⟩) 3 c'] X fun e w'' => AnyForm e ∧ Below X.heap.size X w'') :=
    Lib.hid (fun X g c' k2 k3 k4 k5 => newList_weak 3 g c' X (by decide) (fun k hk => by
      match k, hk with
      | 0, _ => exact rec_of (a := []) k2 rfl
      | 1, _ => exact rec_of (a := [.string (bs hd), .slice none 0 0, .int .i64 hd.length, .int .i64 1, .int .i64 0]) k2 rfl
      | 2, _ => exact rec_of (a := [.string (bs hd), .slice none 0 0, .int .i64 hd.length, .int .i64 1, .int .i64 0, .string u1, .slice p1 n1 c1, .int .i64 x1, .int .i64 y1, .int .i64 z1]) k2 rfl) k3 k4 k5)
  clear hb
  generalize hAA : bs hd = A at *
  clear hAA
  go_enter Try.func63, Try.ntmps63
  go_wp2_with (first | (go_at_call 64; go_must (refine (HNA.out _).mono ?_; rintro e w1 ⟨rfl, hbw1⟩; have y0 := below_blk hbw1 (by simp) (heap_alloc_new _ _); have hs1 := hbw1.size; have hs4 : w.heap.size < w1.heap.size := (by simp at hs1; omega); have hw1 := (below1 w _).trans (hbw1.mono (by simp)))) | (at_builtin; go_must (refine wpList_append_many _ rfl _ _ 39 rfl w1.heap.size 41 i0 (.agg #[.string ⟨#[]⟩, .slice none 0 0, .int .i64 0, .int .i64 0, .int .i64 0]) 5 64 Try.underlying39 hi0 hz0 hz1 hz2 rfl (by decide) _ _ _ rfl (own_one (heap_alloc_new w1 _) (Nat.le_refl _)) ⟨r, 0, none⟩ 2 cap _ rfl rfl (row_add (HROW.out.move (by rw [heap_alloc_old (h := by omega), hw1.block r hrl]))) (by intro u hu; simp at hu; rcases hu with rfl | rfl | rfl | rfl | rfl | rfl | rfl | rfl | rfl | rfl <;> rfl) (by unfold maxLen; omega) (by omega) (by simp) ?_; intro v4 w4 hown4 hg4; obtain ⟨g4, c4, rfl, hbg4, hglt4, hcap4, hcap5⟩ := own_shape hown4 (by omega); have hs5 := hg4.size; have hk4 : ∀ k, k < w1.heap.size → w4.heap[k]? = w1.heap[k]? := (fun k hk => by rw [hg4.block k (by simp; omega) (fun e => by have h8 : k = w1.heap.size := Option.some.inj e; omega), heap_alloc_old (h := hk)]); have y4 := (hk4 _ hs4).trans y0)) | (go_at_call 53; go_must (refine (HNL.out _ _ _ (owns_row hown4) hglt4 hcap5 hcap4).mono ?_; rintro e w5 ⟨⟨u5, p5, n5, m5, b1, b2, b3, rfl⟩, hb5⟩; have y5 := below_blk hb5 (by simp at hs5; omega) y4; have z0 := cell_of (j := 0) y5; have z1 := cell_of (j := 1) y5; have z2 := cell_of (j := 2) y5; have z3 := cell_of (j := 3) y5; have z4 := cell_of (j := 4) y5; have f0 := free_of (j := 0) y5; have f1 := free_of (j := 1) y5; have f2 := free_of (j := 2) y5; have f3 := free_of (j := 3) y5; have f4 := free_of (j := 4) y5)))
  have O := set5_same y5 (.string u5) (.slice p5 n5 m5) (.int .i64 b1) (.int .i64 b2) (.int .i64 b3)
  have q0 := cell_of (j := 0) O
  have q1 := cell_of (j := 1) O
  have q2 := cell_of (j := 2) O
  have q3 := cell_of (j := 3) O
  have q4 := cell_of (j := 4) O
  refine bodyPost_ret (v := .agg #[.string u5, .slice p5 n5 m5, .int .i64 b1, .int .i64 b2, .int .i64 b3]) (by simp [results, Try.results63, go_sem, q0, q1, q2, q3, q4]) rfl ⟨⟨_, _, _, _, _, _, _, rfl⟩, ?_⟩
  refine set5 (B := w.heap.size) ?_ (Nat.le_refl _) _ _ _ _ _
  have hB1 := hw1.alloc hw1.size (.cells #[.string A, .slice none 0 0, .int .i64 hd.length, .int .i64 1, .int .i64 0] 41)
  have hB4 : Below w.heap.size w w4 := hB1.grown hg4 hB1.size (fun k hk => by have h8 : w1.heap.size = k := Option.some.inj hk; omega)
  exact hB4.trans (hb5.mono hB4.size)
end Go.Proofs.Ytaoicbmepliklaa
