/- The reference model: both types of a type with a head. -/
import Derived.Test.YtndbdiccjmlegaaGreatDoorS1z
import Derived.Deep.RegionHeld3
namespace Go.Proofs.YtndbdiccjmlegaaGreatDoor
open Go.RowKit
set_option maxRecDepth 8000
set_option linter.unusedSimpArgs false
set_option linter.unusedVariables false
theorem fin_belowS {w w1 W : World} {p : Prop} (h : Below w.heap.size w w1) (k : Below w1.heap.size w1 W ∧ p) : Below w.heap.size w W := h.trans (k.1.mono h.size)
set_option maxHeartbeats 1000000 in
theorem l1Two_c (s : ByteArray) (hs : s.size ≤ 1048576) (hd : List UInt8) (w : World) :
    Calls Tryz.prog 152 #[.string s, .string (bs hd)] w fun e w' => TwoPost (sidesOf hd s.data.toList) e ∧ Below w.heap.size w w' := by
  cases hp : parse s.data.toList with
  | none =>
    have C := Lib.hid (l1Parse_none hs hp)
    have HR := Lib.hid (sides_none hd (readTy_none hp))
    clear hp
    go_enter Tryz.func152, Tryz.ntmps152
    go_wp2_with (go_at_call 70; go_must (refine (C.out _).mono ?_; rintro e w1 ⟨⟨a, p, n, c, rfl, hn⟩, hb1⟩))
    go_ret3
    exact ⟨by rw [HR.out]; rfl, hb1.alloc hb1.size _⟩
  | some t =>
    have C := Lib.hid (l1Parse_some hs hp)
    have hg := parse_got hp
    have hR0 := readTy_some hp
    clear hp
    have T : Hid (∀ (W : World) (p : Option Addr) (n c : Nat) (ok : Nat → Prop), FV nS W ok t (nS t (.slice p n c)) → (∀ k, ok k → k < W.heap.size) → Calls Tryz.prog 99 #[.agg #[.string (bs (atomOf t)), .slice p n c]] W fun e w' => e = .returned (.bool (isTy t && decide (t.size ≤ 16))) ∧ Below W.heap.size W w') :=
      Lib.hid (fun W p n c ok h1 h2 => l1Typed_c t p n c ok W hg.1 (by omega) h1 h2)
    cases hty : (isTy t && decide (t.size ≤ 16)) with
    | false =>
      rw [hty] at T hR0
      have HR := Lib.hid (sides_none hd hR0)
      go_enter Tryz.func152, Tryz.ntmps152
      go_wp2_with (first | (go_at_call 70; go_must (refine (C.out _).mono ?_; rintro e w1 ⟨⟨p, n, c, rfl, hv⟩, hb1⟩)) | (go_at_call 99; go_must (refine (T.out _ p n c (fun k => w.heap.size ≤ k ∧ k < w1.heap.size) (hv.below (below1 _ _) (fun k hk => hk.2)) (fun k hk => by simp; omega)).mono ?_; rintro e w2 ⟨rfl, hb2⟩)))
      go_ret3
      exact ⟨by rw [HR.out]; rfl, (hb1.alloc hb1.size _).trans (hb2.mono (by have := hb1.size; simp; omega))⟩
    | true =>
      rw [hty] at T hR0
      have hR1 : readTy s.data.toList = some t := by rw [hR0]; rfl
      have hty1 : isTy t = true := by simp only [Bool.and_eq_true] at hty; exact hty.1
      clear hR0 hty
      match t, hty1 with
      | .atom a, hty1 =>
        have HR := Lib.hid (sides_atom hd hR1)
        have ha := atomne hg.1.1
        simp only [atomOf] at C T
        go_enter Tryz.func152, Tryz.ntmps152
        go_wp2_with (first | (go_at_call 70; go_must (refine (C.out _).mono ?_; rintro e w1 ⟨⟨p, n, c, rfl, hv⟩, hb1⟩)) | (go_at_call 99; go_must (refine (T.out _ p n c (fun k => w.heap.size ≤ k ∧ k < w1.heap.size) (hv.below (below1 _ _) (fun k hk => hk.2)) (fun k hk => by simp; omega)).mono ?_; rintro e w2 ⟨rfl, hb2⟩; have x0 := below_blk hb2 (by simp) (heap_alloc_new _ _); have t2 := cell_of (j := 0) x0; have t3 := cell_of (j := 1) x0)))
        go_ret3
        exact ⟨by rw [HR.out]; rfl, (hb1.alloc hb1.size _).trans (hb2.mono (by have := hb1.size; simp; omega))⟩
      | .list ts, hty1 =>
        obtain ⟨x, a, b, rfl, hx, hta, htb⟩ := isTy_list hty1
        have ha := emptyne
        simp only [atomOf] at C T
        have hwa : a.wf := hg.1.2.2.1
        have hwb : b.wf := hg.1.2.2.2.1
        have hdd := depths3 x a b
        have hbb := bytes3 x a b
        have LA : Hid (∀ (W : World) (p : Option Addr) (n c : Nat) (ok : Nat → Prop), FV nS W ok a (nS a (.slice p n c)) → (∀ k, ok k → k < W.heap.size) → Calls Tryz.prog 60 #[.agg #[.string (bs (atomOf a)), .slice p n c]] W fun e w' => e = .returned (.string (bs a.text)) ∧ Below W.heap.size W w') :=
          Lib.hid (fun W p n c ok h1 h2 => l1Text_c (a.depth + 1) a _ ok W (by omega) hwa (by omega) h1 h2)
        have LB : Hid (∀ (W : World) (p : Option Addr) (n c : Nat) (ok : Nat → Prop), FV nS W ok b (nS b (.slice p n c)) → (∀ k, ok k → k < W.heap.size) → Calls Tryz.prog 60 #[.agg #[.string (bs (atomOf b)), .slice p n c]] W fun e w' => e = .returned (.string (bs b.text)) ∧ Below W.heap.size W w') :=
          Lib.hid (fun W p n c ok h1 h2 => l1Text_c (b.depth + 1) b _ ok W (by omega) hwb (by omega) h1 h2)
        cases hxh : (atomOf x == hd) with
        | false =>
          have hx2 : ((bs (atomOf x)).toList == (bs hd).toList) = false := by rw [bs_toList, bs_toList]; exact hxh
          have HR := Lib.hid (sides_no hd hR1 (by simpa using hxh))
          clear hxh hx
          go_enter Tryz.func152, Tryz.ntmps152
          go_wp2_with (first | (go_at_call 70; go_must (refine (C.out _).mono ?_; rintro e w1 ⟨⟨p, n, c, rfl, hv⟩, hb1⟩)) | (go_at_call 99; go_must (have hv' := hv.below (below1 w1 (.cells #[.string (bs []), .slice p n c] 51)) (fun k hk => hk.2); refine (T.out _ p n c (fun k => w.heap.size ≤ k ∧ k < w1.heap.size) hv' (fun k hk => by simp; omega)).mono ?_; rintro e w2 ⟨rfl, hb2⟩; have hv2 := hv'.below hb2 (fun k hk => by simp; omega); have x0 := below_blk hb2 (by simp) (heap_alloc_new w1 (.cells #[.string (bs []), .slice p n c] 51)); obtain ⟨r, off, cap, xs, hh, h2, h3, h4, h5, h6⟩ := FV.list_cells hv2; have hh' := nS_inj _ _ _ hh; simp only [Value.slice.injEq] at hh'; obtain ⟨rfl, rfl, rfl⟩ := hh'; clear hh hv hv' hv2; obtain ⟨⟨p0, n0, q0, v0, r0⟩, ⟨p1, n1, q1, v1, r1⟩, ⟨p2, n2, q2, v2, r2⟩⟩ := FVs.three nS_len h6 h5; have hr2 : r < w2.heap.size := (by have := hb2.size; simp at this; omega); have t1 : w2.cell? ⟨r, off, none⟩ = some (.string (bs (atomOf x))) := r0 0 _ rfl; have t2 := cell_of (j := 0) x0; have t3 := cell_of (j := 1) x0; have v0 := FV.wide v0 (fun k hk => (by have := hb2.size; simp at this; omega : k < w2.heap.size)); have v1 := FV.wide v1 (fun k hk => (by have := hb2.size; simp at this; omega : k < w2.heap.size)); have v2 := FV.wide v2 (fun k hk => (by have := hb2.size; simp at this; omega : k < w2.heap.size)); have h3' := maxLen_le h4)))

          go_ret3
          exact ⟨by rw [HR.out]; rfl, (hb1.alloc hb1.size _).trans (hb2.mono (by have := hb1.size; simp; omega))⟩
        | true =>
          have hx2 : ((bs (atomOf x)).toList == (bs hd).toList) = true := by rw [bs_toList, bs_toList]; exact hxh
          have HR := Lib.hid (sides_yes hd hR1 (by simpa using hxh))
          clear hxh hx
          go_enter Tryz.func152, Tryz.ntmps152
          go_wp2_with (first | (go_at_call 70; go_must (refine (C.out _).mono ?_; rintro e w1 ⟨⟨p, n, c, rfl, hv⟩, hb1⟩)) | (go_at_call 99; go_must (have hv' := hv.below (below1 w1 (.cells #[.string (bs []), .slice p n c] 51)) (fun k hk => hk.2); refine (T.out _ p n c (fun k => w.heap.size ≤ k ∧ k < w1.heap.size) hv' (fun k hk => by simp; omega)).mono ?_; rintro e w2 ⟨rfl, hb2⟩; have hv2 := hv'.below hb2 (fun k hk => by simp; omega); have x0 := below_blk hb2 (by simp) (heap_alloc_new w1 (.cells #[.string (bs []), .slice p n c] 51)); obtain ⟨r, off, cap, xs, hh, h2, h3, h4, h5, h6⟩ := FV.list_cells hv2; have hh' := nS_inj _ _ _ hh; simp only [Value.slice.injEq] at hh'; obtain ⟨rfl, rfl, rfl⟩ := hh'; clear hh hv hv' hv2; obtain ⟨⟨p0, n0, q0, v0, r0⟩, ⟨p1, n1, q1, v1, r1⟩, ⟨p2, n2, q2, v2, r2⟩⟩ := FVs.three nS_len h6 h5; have hr2 : r < w2.heap.size := (by have := hb2.size; simp at this; omega); have t1 : w2.cell? ⟨r, off, none⟩ = some (.string (bs (atomOf x))) := r0 0 _ rfl; have t2 := cell_of (j := 0) x0; have t3 := cell_of (j := 1) x0; have v0 := FV.wide v0 (fun k hk => (by have := hb2.size; simp at this; omega : k < w2.heap.size)); have v1 := FV.wide v1 (fun k hk => (by have := hb2.size; simp at this; omega : k < w2.heap.size)); have v2 := FV.wide v2 (fun k hk => (by have := hb2.size; simp at this; omega : k < w2.heap.size)); have h3' := maxLen_le h4)))
          have HW2 : Hid (Below w.heap.size w w2) := Lib.hid ((hb1.alloc hb1.size _).trans (hb2.mono (by have := hb1.size; simp; omega)))
          have hW2 := HW2.out.size
          have y1 := cell_of (j := 1) x0
          have K : Hid (∀ W, Below w2.heap.size w2 W → (fun W => Below w2.heap.size w2 W ∧ W.cell? ⟨w1.heap.size, 1, none⟩ = some (.slice (some ⟨r, off, none⟩) 3 c) ∧ (W.cell? ⟨r, off + 2, none⟩ = some (.string (bs (atomOf a))) ∧ W.cell? ⟨r, off + 2 + 1, none⟩ = some (.slice p1 n1 q1)) ∧ (W.cell? ⟨r, off + 4, none⟩ = some (.string (bs (atomOf b))) ∧ W.cell? ⟨r, off + 4 + 1, none⟩ = some (.slice p2 n2 q2))) W) :=
            Lib.hid (fun W hW => ⟨hW, (hW.cell (p := ⟨w1.heap.size, 1, none⟩) (lt_of_block x0)).trans y1,
              ⟨(hW.cell (p := ⟨r, off + 2, none⟩) hr2).trans (r1 0 _ rfl), (hW.cell (p := ⟨r, off + 2 + 1, none⟩) hr2).trans (r1 1 _ rfl)⟩, (hW.cell (p := ⟨r, off + 4, none⟩) hr2).trans (r2 0 _ rfl), (hW.cell (p := ⟨r, off + 4 + 1, none⟩) hr2).trans (r2 1 _ rfl)⟩)
          have S0 := Lib.hid (K.out _ ((Below.refl _ _).drew))
          have VA := Lib.hid v1
          have VB := Lib.hid v2
          clear y1 v0 v1 v2 r0 r1 r2 hb1 hb2 x0
          go_region_held3 (fun W => Below w2.heap.size w2 W ∧ W.cell? ⟨w1.heap.size, 1, none⟩ = some (.slice (some ⟨r, off, none⟩) 3 c) ∧ (W.cell? ⟨r, off + 2, none⟩ = some (.string (bs (atomOf a))) ∧ W.cell? ⟨r, off + 2 + 1, none⟩ = some (.slice p1 n1 q1)) ∧ (W.cell? ⟨r, off + 4, none⟩ = some (.string (bs (atomOf b))) ∧ W.cell? ⟨r, off + 4 + 1, none⟩ = some (.slice p2 n2 q2)))
            (first | exact S0.out | assumption)
            (first | (go_at_call 60; have hh := And.left (by assumption : Below w2.heap.size w2 _ ∧ _); first | ((with_reducible refine (LA.out _ p1 n1 q1 (fun k => k < w2.heap.size) (VA.out.below hh (fun k hk => hk)) (fun k hk => Nat.lt_of_lt_of_le hk hh.size)).mono ?_); rintro e w' ⟨rfl, hb9⟩; have hS2 := K.out _ (hh.trans (hb9.mono hh.size))) | ((with_reducible refine (LB.out _ p2 n2 q2 (fun k => k < w2.heap.size) (VB.out.below hh (fun k hk => hk)) (fun k hk => Nat.lt_of_lt_of_le hk hh.size)).mono ?_); rintro e w' ⟨rfl, hb9⟩; have hS2 := K.out _ (hh.trans (hb9.mono hh.size)))))
          all_goals
            go_wp2_with fail
            go_ret3
            exact ⟨by rw [HR.out]; rfl, fin_belowS HW2.out (by assumption)⟩
end Go.Proofs.YtndbdiccjmlegaaGreatDoor
