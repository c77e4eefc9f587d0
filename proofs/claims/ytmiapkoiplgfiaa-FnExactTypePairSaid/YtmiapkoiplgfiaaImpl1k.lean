/- The program: both types of a type with a head. -/
import Derived.Test.YtmiapkoiplgfiaaImpl1j
import Derived.Deep.RegionHeld3
namespace Go.Proofs.Ytmiapkoiplgfiaa
open Go.RowKit
set_option linter.unusedSimpArgs false
set_option linter.unusedVariables false
set_option maxHeartbeats 400000 in
theorem isTypeWith_atom (s : ByteArray) (p : Option Addr) (c : Nat) (x y z : Int) (hd : ByteArray) (w : World) :
    Calls Try.prog 61 #[.agg #[.string s, .slice p 0 c, .int .i64 x, .int .i64 y, .int .i64 z], .string hd] w fun e w' => e = .returned (.bool false) ∧ Below w.heap.size w w' := by
  go_enter Try.func61, Try.ntmps61
  go_wp2_with fail
  go_ret
  exact ⟨rfl, below1 _ _⟩
theorem readType_none {s : ByteArray} (hs : s.size ≤ 1048576) (hr : readTy s.data.toList = none) (W : World) : Calls Try.prog 46 #[.string s] W fun e w' => e = .returned (.tuple #[.agg #[.string ⟨#[]⟩, .slice none 0 0, .int .i64 0, .int .i64 0, .int .i64 0], .bool false]) ∧ Below W.heap.size W w' :=
  (readType_c s hs W).mono fun e w' ⟨h1, h2⟩ => ⟨by rw [hr] at h1; exact h1, h2⟩
theorem readType_some {s : ByteArray} (hs : s.size ≤ 1048576) {t : Tr} (hr : readTy s.data.toList = some t) (W : World) : Calls Try.prog 46 #[.string s] W fun e w' => (∃ p n c, e = .returned (.tuple #[.agg #[.string (bs (atomOf t)), .slice p n c, .int .i64 t.bytes, .int .i64 t.size, .int .i64 t.depth], .bool true]) ∧ FV nI w' (fun k => W.heap.size ≤ k ∧ k < w'.heap.size) t (nI t (.slice p n c))) ∧ Below W.heap.size W w' :=
  (readType_c s hs W).mono fun e w' ⟨h1, h2⟩ => ⟨by rw [hr] at h1; exact h1, h2⟩
set_option maxHeartbeats 1000000 in
theorem typeSides_c (s : ByteArray) (hs : s.size ≤ 1048576) (hd : List UInt8) (w : World) :
    Calls Try.prog 48 #[.string s, .string (bs hd)] w fun e w' => TwoPost (sidesOf hd s.data.toList) e ∧ Below w.heap.size w w' := by
  cases hr : readTy s.data.toList with
  | none =>
    have C := Lib.hid (readType_none hs hr)
    have HR := Lib.hid (sides_none hd hr)
    clear hr
    go_enter Try.func48, Try.ntmps48
    go_wp2_with (go_at_call 46; go_must (refine (C.out _).mono ?_; rintro e w1 ⟨rfl, hb1⟩))
    go_ret3
    exact ⟨by rw [HR.out]; rfl, hb1.alloc hb1.size _⟩
  | some t =>
    have C := Lib.hid (readType_some hs hr)
    have hg := readTy_got hr
    have hty1 := hg.2.2.2.2.1
    match t, hty1 with
    | .atom a, _ =>
      have HR := Lib.hid (sides_atom hd hr)
      clear hr hg
      simp only [atomOf] at C
      go_enter Try.func48, Try.ntmps48
      go_wp2_with (first | (go_at_call 46; go_must (refine (C.out _).mono ?_; rintro e w1 ⟨⟨p, n, c, rfl, hv⟩, hb1⟩; simp only [FV] at hv; have hh := nI_inj _ _ _ hv; simp only [Value.slice.injEq] at hh; obtain ⟨rfl, rfl, rfl⟩ := hh; clear hv)) | (go_at_call 61; go_must (refine (isTypeWith_atom _ _ _ _ _ _ _ _).mono ?_; rintro e w2 ⟨rfl, hb2⟩)))
      go_ret3
      exact ⟨by rw [HR.out]; rfl, (hb1.alloc hb1.size _).trans (hb2.mono (by have := hb1.size; simp; omega))⟩
    | .list ts, hty1 =>
      obtain ⟨x, a, b, rfl, hx, hta, htb⟩ := isTy_list hty1
      simp only [atomOf] at C
      have hwf := hg.1
      have hwa : a.wf := hg.1.2.2.1
      have hwb : b.wf := hg.1.2.2.2.1
      have hdd := depths3 x a b
      have hbb := bytes3 x a b
      have HI : Hid (∀ (W : World) (p : Option Addr) (n c : Nat) (ok : Nat → Prop), FV nI W ok (.list [x, a, b]) (nI (.list [x, a, b]) (.slice p n c)) → (∀ k, ok k → k < W.heap.size) → Calls Try.prog 61 #[.agg #[.string (bs []), .slice p n c, .int .i64 (Tr.list [x, a, b]).bytes, .int .i64 (Tr.list [x, a, b]).size, .int .i64 (Tr.list [x, a, b]).depth], .string (bs hd)] W fun e w' => e = .returned (.bool (isTyW hd (.list [x, a, b]))) ∧ Below W.heap.size W w') :=
        Lib.hid (fun W p n c ok h1 h2 => isTypeWith_c (Tr.list [x, a, b]).depth (isType_all _) hd _ p n c ok W (by omega) hwf h1 h2)
      have LA : Hid (∀ (W : World) (p : Option Addr) (n c : Nat) (ok : Nat → Prop), FV nI W ok a (nI a (.slice p n c)) → (∀ k, ok k → k < W.heap.size) → Calls Try.prog 36 #[.agg #[.string (bs (atomOf a)), .slice p n c, .int .i64 a.bytes, .int .i64 a.size, .int .i64 a.depth]] W fun e w' => e = .returned (.string (bs a.text)) ∧ Below W.heap.size W w') :=
        Lib.hid (fun W p n c ok h1 h2 => text_c a p n c ok W hwa (by omega) h1 h2)
      have LB : Hid (∀ (W : World) (p : Option Addr) (n c : Nat) (ok : Nat → Prop), FV nI W ok b (nI b (.slice p n c)) → (∀ k, ok k → k < W.heap.size) → Calls Try.prog 36 #[.agg #[.string (bs (atomOf b)), .slice p n c, .int .i64 b.bytes, .int .i64 b.size, .int .i64 b.depth]] W fun e w' => e = .returned (.string (bs b.text)) ∧ Below W.heap.size W w') :=
        Lib.hid (fun W p n c ok h1 h2 => text_c b p n c ok W hwb (by omega) h1 h2)
      have hTW := isTyW_three hd x a b
      rw [hta, htb] at hTW
      cases hxh : (atomOf x == hd) with
      | false =>
        rw [hxh] at hTW
        have hTW : isTyW hd (.list [x, a, b]) = false := hTW
        rw [hTW] at HI
        have HR := Lib.hid (sides_no hd hr (by simpa using hxh))
        clear hxh hx hTW hr hg hwf
        go_enter Try.func48, Try.ntmps48
        go_wp2_with (first | (go_at_call 46; go_must (refine (C.out _).mono ?_; rintro e w1 ⟨⟨p, n, c, rfl, hv⟩, hb1⟩)) | (go_at_call 61; go_must (have hv' := hv.below (below1 w1 (.cells #[.string (bs []), .slice p n c, .int .i64 (Tr.list [x, a, b]).bytes, .int .i64 (Tr.list [x, a, b]).size, .int .i64 (Tr.list [x, a, b]).depth] 41)) (fun k hk => hk.2); refine (HI.out _ p n c (fun k => w.heap.size ≤ k ∧ k < w1.heap.size) hv' (fun k hk => by simp; omega)).mono ?_; rintro e w2 ⟨rfl, hb2⟩; have hv2 := hv'.below hb2 (fun k hk => by simp; omega); have x0 := below_blk hb2 (by simp) (heap_alloc_new w1 (.cells #[.string (bs []), .slice p n c, .int .i64 (Tr.list [x, a, b]).bytes, .int .i64 (Tr.list [x, a, b]).size, .int .i64 (Tr.list [x, a, b]).depth] 41)); obtain ⟨r, off, cap, xs, hh, h2, h3, h4, h5, h6⟩ := FV.list_cells hv2; have hh' := nI_inj _ _ _ hh; simp only [Value.slice.injEq] at hh'; obtain ⟨rfl, rfl, rfl⟩ := hh'; clear hh hv hv' hv2; obtain ⟨⟨p0, n0, q0, v0, r0⟩, ⟨p1, n1, q1, v1, r1⟩, ⟨p2, n2, q2, v2, r2⟩⟩ := FVs.three nI_len h6 h5; have hr2 : r < w2.heap.size := (by have := hb2.size; simp at this; omega); have t3 := cell_of (j := 1) x0; have v1 := FV.wide v1 (fun k hk => (by have := hb2.size; simp at this; omega : k < w2.heap.size)); have v2 := FV.wide v2 (fun k hk => (by have := hb2.size; simp at this; omega : k < w2.heap.size)); have h3' := maxLen_le h4)))
        go_ret3
        exact ⟨by rw [HR.out]; rfl, (hb1.alloc hb1.size _).trans (hb2.mono (by have := hb1.size; simp; omega))⟩
      | true =>
        rw [hxh] at hTW
        have hTW : isTyW hd (.list [x, a, b]) = true := hTW
        rw [hTW] at HI
        have HR := Lib.hid (sides_yes hd hr (by simpa using hxh))
        clear hxh hx hTW hr hg hwf
        go_enter Try.func48, Try.ntmps48
        go_wp2_with (first | (go_at_call 46; go_must (refine (C.out _).mono ?_; rintro e w1 ⟨⟨p, n, c, rfl, hv⟩, hb1⟩)) | (go_at_call 61; go_must (have hv' := hv.below (below1 w1 (.cells #[.string (bs []), .slice p n c, .int .i64 (Tr.list [x, a, b]).bytes, .int .i64 (Tr.list [x, a, b]).size, .int .i64 (Tr.list [x, a, b]).depth] 41)) (fun k hk => hk.2); refine (HI.out _ p n c (fun k => w.heap.size ≤ k ∧ k < w1.heap.size) hv' (fun k hk => by simp; omega)).mono ?_; rintro e w2 ⟨rfl, hb2⟩; have hv2 := hv'.below hb2 (fun k hk => by simp; omega); have x0 := below_blk hb2 (by simp) (heap_alloc_new w1 (.cells #[.string (bs []), .slice p n c, .int .i64 (Tr.list [x, a, b]).bytes, .int .i64 (Tr.list [x, a, b]).size, .int .i64 (Tr.list [x, a, b]).depth] 41)); obtain ⟨r, off, cap, xs, hh, h2, h3, h4, h5, h6⟩ := FV.list_cells hv2; have hh' := nI_inj _ _ _ hh; simp only [Value.slice.injEq] at hh'; obtain ⟨rfl, rfl, rfl⟩ := hh'; clear hh hv hv' hv2; obtain ⟨⟨p0, n0, q0, v0, r0⟩, ⟨p1, n1, q1, v1, r1⟩, ⟨p2, n2, q2, v2, r2⟩⟩ := FVs.three nI_len h6 h5; have hr2 : r < w2.heap.size := (by have := hb2.size; simp at this; omega); have t3 := cell_of (j := 1) x0; have v1 := FV.wide v1 (fun k hk => (by have := hb2.size; simp at this; omega : k < w2.heap.size)); have v2 := FV.wide v2 (fun k hk => (by have := hb2.size; simp at this; omega : k < w2.heap.size)); have h3' := maxLen_le h4)))
        have HW2 : Hid (Below w.heap.size w w2) := Lib.hid ((hb1.alloc hb1.size _).trans (hb2.mono (by have := hb1.size; simp; omega)))
        have hW2 := HW2.out.size
        have y1 := cell_of (j := 1) x0
        have K : Hid (∀ W, Below w2.heap.size w2 W → (fun W => Below w2.heap.size w2 W ∧ W.cell? ⟨w1.heap.size, 1, none⟩ = some (.slice (some ⟨r, off, none⟩) 3 c) ∧ (W.cell? ⟨r, off + 5, none⟩ = some (.string (bs (atomOf a))) ∧ W.cell? ⟨r, off + 5 + 1, none⟩ = some (.slice p1 n1 q1) ∧ W.cell? ⟨r, off + 5 + 2, none⟩ = some (.int .i64 a.bytes) ∧ W.cell? ⟨r, off + 5 + 3, none⟩ = some (.int .i64 a.size) ∧ W.cell? ⟨r, off + 5 + 4, none⟩ = some (.int .i64 a.depth)) ∧ (W.cell? ⟨r, off + 10, none⟩ = some (.string (bs (atomOf b))) ∧ W.cell? ⟨r, off + 10 + 1, none⟩ = some (.slice p2 n2 q2) ∧ W.cell? ⟨r, off + 10 + 2, none⟩ = some (.int .i64 b.bytes) ∧ W.cell? ⟨r, off + 10 + 3, none⟩ = some (.int .i64 b.size) ∧ W.cell? ⟨r, off + 10 + 4, none⟩ = some (.int .i64 b.depth))) W) :=
          Lib.hid (fun W hW => ⟨hW, (hW.cell (p := ⟨w1.heap.size, 1, none⟩) (lt_of_block x0)).trans y1,
            ⟨(hW.cell (p := ⟨r, off + 5, none⟩) hr2).trans (r1 0 _ rfl), (hW.cell (p := ⟨r, off + 5 + 1, none⟩) hr2).trans (r1 1 _ rfl), (hW.cell (p := ⟨r, off + 5 + 2, none⟩) hr2).trans (r1 2 _ rfl), (hW.cell (p := ⟨r, off + 5 + 3, none⟩) hr2).trans (r1 3 _ rfl), (hW.cell (p := ⟨r, off + 5 + 4, none⟩) hr2).trans (r1 4 _ rfl)⟩,
            (hW.cell (p := ⟨r, off + 10, none⟩) hr2).trans (r2 0 _ rfl), (hW.cell (p := ⟨r, off + 10 + 1, none⟩) hr2).trans (r2 1 _ rfl), (hW.cell (p := ⟨r, off + 10 + 2, none⟩) hr2).trans (r2 2 _ rfl), (hW.cell (p := ⟨r, off + 10 + 3, none⟩) hr2).trans (r2 3 _ rfl), (hW.cell (p := ⟨r, off + 10 + 4, none⟩) hr2).trans (r2 4 _ rfl)⟩)
        have S0 := Lib.hid (K.out _ ((Below.refl _ _).drew))
        have VA := Lib.hid v1
        have VB := Lib.hid v2
        clear y1 v0 v1 v2 r0 r1 r2 hb1 hb2 x0
        go_region_held3 (fun W => Below w2.heap.size w2 W ∧ W.cell? ⟨w1.heap.size, 1, none⟩ = some (.slice (some ⟨r, off, none⟩) 3 c) ∧ (W.cell? ⟨r, off + 5, none⟩ = some (.string (bs (atomOf a))) ∧ W.cell? ⟨r, off + 5 + 1, none⟩ = some (.slice p1 n1 q1) ∧ W.cell? ⟨r, off + 5 + 2, none⟩ = some (.int .i64 a.bytes) ∧ W.cell? ⟨r, off + 5 + 3, none⟩ = some (.int .i64 a.size) ∧ W.cell? ⟨r, off + 5 + 4, none⟩ = some (.int .i64 a.depth)) ∧ (W.cell? ⟨r, off + 10, none⟩ = some (.string (bs (atomOf b))) ∧ W.cell? ⟨r, off + 10 + 1, none⟩ = some (.slice p2 n2 q2) ∧ W.cell? ⟨r, off + 10 + 2, none⟩ = some (.int .i64 b.bytes) ∧ W.cell? ⟨r, off + 10 + 3, none⟩ = some (.int .i64 b.size) ∧ W.cell? ⟨r, off + 10 + 4, none⟩ = some (.int .i64 b.depth)))
          (first | exact S0.out | assumption)
          (first | (go_at_call 36; have hh := And.left (by assumption : Below w2.heap.size w2 _ ∧ _); first | ((with_reducible refine (LA.out _ p1 n1 q1 (fun k => k < w2.heap.size) (VA.out.below hh (fun k hk => hk)) (fun k hk => Nat.lt_of_lt_of_le hk hh.size)).mono ?_); rintro e w' ⟨rfl, hb9⟩; have hS2 := K.out _ (hh.trans (hb9.mono hh.size))) | ((with_reducible refine (LB.out _ p2 n2 q2 (fun k => k < w2.heap.size) (VB.out.below hh (fun k hk => hk)) (fun k hk => Nat.lt_of_lt_of_le hk hh.size)).mono ?_); rintro e w' ⟨rfl, hb9⟩; have hS2 := K.out _ (hh.trans (hb9.mono hh.size)))))
        all_goals
          go_wp2_with fail
          go_ret3
          exact ⟨by rw [HR.out]; rfl, fin_below HW2.out (by assumption)⟩
end Go.Proofs.Ytmiapkoiplgfiaa
