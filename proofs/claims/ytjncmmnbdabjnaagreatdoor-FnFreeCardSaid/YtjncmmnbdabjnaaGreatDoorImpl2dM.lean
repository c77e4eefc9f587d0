/- The program's orders. The program reads types; its answers that are numbers and bools. The program reads 'fun'. -/
import Derived.Test.YtjncmmnbdabjnaaGreatDoorI1y
import Derived.Deep.RegionHeld3
import Derived.Test.YtjncmmnbdabjnaaGreatDoorI2a
import Derived.Test.YtjncmmnbdabjnaaGreatDoorB1
import Derived.BigRegion
import Derived.Deep.CutRange
namespace Go.Proofs.YtjncmmnbdabjnaaGreatDoor
open Go.RowKit
set_option maxRecDepth 8000
set_option linter.unusedSimpArgs false
set_option linter.unusedVariables false
theorem fin_below {w w1 W : World} {p : Prop} (h : Below w.heap.size w w1) (k : Below w1.heap.size w1 W ∧ p) : Below w.heap.size w W := h.trans (k.1.mono h.size)
end Go.Proofs.YtjncmmnbdabjnaaGreatDoor
namespace Go.Proofs.YtjncmmnbdabjnaaGreatDoor
open Go.RowKit
set_option linter.unusedSimpArgs false
set_option linter.unusedVariables false
theorem readForm_none {s : ByteArray} (hs : s.size ≤ 1048576) (hp : parse s.data.toList = none) (W : World) : Calls Tryz.prog 55 #[.string s] W fun e w' => e = .returned (.tuple #[.agg #[.string ⟨#[]⟩, .slice none 0 0, .int .i64 0, .int .i64 0, .int .i64 0], .bool false]) ∧ Below W.heap.size W w' :=
  (readForm_c s hs W).mono fun e w' ⟨h1, h2⟩ => ⟨by rw [hp] at h1; exact h1, h2⟩
theorem readForm_some {s : ByteArray} (hs : s.size ≤ 1048576) {t : Tr} (hp : parse s.data.toList = some t) (W : World) : Calls Tryz.prog 55 #[.string s] W fun e w' => (∃ p n c, e = .returned (.tuple #[.agg #[.string (bs (atomOf t)), .slice p n c, .int .i64 t.bytes, .int .i64 t.size, .int .i64 t.depth], .bool true]) ∧ FV nI w' (fun k => W.heap.size ≤ k ∧ k < w'.heap.size) t (nI t (.slice p n c))) ∧ Below W.heap.size W w' :=
  (readForm_c s hs W).mono fun e w' ⟨h1, h2⟩ => ⟨by rw [hp] at h1; exact h1, h2⟩
/-- What reading a type hands back. -/
def TyPost (B : Nat) (res : Option Tr) (e : Ending) (w' : World) : Prop :=
  match res with
  | none => e = .returned (.tuple #[.agg #[.string ⟨#[]⟩, .slice none 0 0, .int .i64 0, .int .i64 0, .int .i64 0], .bool false])
  | some t => ∃ p n c, e = .returned (.tuple #[.agg #[.string (bs (atomOf t)), .slice p n c, .int .i64 t.bytes, .int .i64 t.size, .int .i64 t.depth], .bool true]) ∧ FV nI w' (fun k => B ≤ k ∧ k < w'.heap.size) t (nI t (.slice p n c))
set_option maxHeartbeats 1000000 in
theorem isTypeInLimit_c (t : Tr) (p : Option Addr) (n c : Nat) (ok : Nat → Prop) (w : World) (hwf : t.wf) (hsz : t.size ≤ 1000000000) (hv : FV nI w ok t (nI t (.slice p n c))) (hok : ∀ k, ok k → k < w.heap.size) :
    Calls Tryz.prog 82 #[.agg #[.string (bs (atomOf t)), .slice p n c, .int .i64 t.bytes, .int .i64 t.size, .int .i64 t.depth]] w fun e w' => e = .returned (.bool (isTy t && decide (t.size ≤ 16))) ∧ Below w.heap.size w w' := by
  have T : Hid (Calls Tryz.prog 120 #[.agg #[.string (bs (atomOf t)), .slice p n c, .int .i64 t.bytes, .int .i64 t.size, .int .i64 t.depth]] (w.alloc (.cells #[.string (bs (atomOf t)), .slice p n c, .int .i64 t.bytes, .int .i64 t.size, .int .i64 t.depth] 50)) fun e w' => e = .returned (.bool (isTy t)) ∧ Below (w.heap.size + 1) (w.alloc (.cells #[.string (bs (atomOf t)), .slice p n c, .int .i64 t.bytes, .int .i64 t.size, .int .i64 t.depth] 50)) w') :=
    Lib.hid ((isType_all (t.depth + 1) t p n c ok _ (by omega) hwf (hv.below (below1 w _) hok) (fun k hk => by have := hok k hk; simp; omega)).mono fun e w' ⟨h1, h2⟩ => ⟨h1, by simpa using h2⟩)
  by_cases h16 : t.size ≤ 16
  · have hd : decide ((t.size : Int) ≤ 16) = true := by simp; omega
    have HF : Hid ((isTy t && decide (t.size ≤ 16)) = isTy t) := Lib.hid (by simp [h16])
    clear hv
    go_enter Tryz.func82, Tryz.ntmps82
    go_wp2_with (go_at_call 120; go_must (refine T.out.mono ?_; rintro e w2 ⟨rfl, hb2⟩))
    go_ret
    exact ⟨by rw [HF.out]; rfl, (below1 w _).trans (hb2.mono (by omega))⟩
  · have hd : decide ((t.size : Int) ≤ 16) = false := by simp; omega
    have HF : Hid ((isTy t && decide (t.size ≤ 16)) = false) := Lib.hid (by simp; omega)
    clear hv T
    go_enter Tryz.func82, Tryz.ntmps82
    go_wp2_with fail
    go_ret
    exact ⟨by rw [HF.out]; rfl, below1 w _⟩
set_option maxHeartbeats 1000000 in
theorem readType_c (s : ByteArray) (hs : s.size ≤ 1048576) (w : World) :
    Calls Tryz.prog 48 #[.string s] w fun e w' => TyPost w.heap.size (readTy s.data.toList) e w' ∧ Below w.heap.size w w' := by
  cases hp : parse s.data.toList with
  | none =>
    have C := Lib.hid (readForm_none hs hp)
    have HR := Lib.hid (readTy_none hp)
    clear hp
    go_enter Tryz.func48, Tryz.ntmps48
    go_wp2_with (go_at_call 55; go_must (refine (C.out _).mono ?_; rintro e w1 ⟨rfl, hb1⟩; have y0 := below_blk hb1 (by simp) (heap_alloc_new _ _); have z0 := cell_of (j := 0) y0; have z1 := cell_of (j := 1) y0; have z2 := cell_of (j := 2) y0; have z3 := cell_of (j := 3) y0; have z4 := cell_of (j := 4) y0; have f0 := free_of (j := 0) y0; have f1 := free_of (j := 1) y0; have f2 := free_of (j := 2) y0; have f3 := free_of (j := 3) y0; have f4 := free_of (j := 4) y0; have hs1 := hb1.size; have hs4 : w.heap.size < w1.heap.size := (by simp at hs1; omega)))
    refine bodyPost_ret (v := .tuple #[.agg #[.string ⟨#[]⟩, .slice none 0 0, .int .i64 0, .int .i64 0, .int .i64 0], .bool false]) (by simp [results, Tryz.results48, go_sem, z0, z1, z2, z3, z4, hs4]) rfl ⟨by rw [HR.out]; rfl, ?_⟩
    exact (((((((below1 w _).trans (hb1.mono (by simp))).setCell (by simp) _).setCell (by simp) _).setCell (by simp) _).setCell (by simp) _).setCell (by simp) _).alloc (by simp; omega) _
  | some t =>
    have C := Lib.hid (readForm_some hs hp)
    have hg := parse_got hp
    have HR := Lib.hid (readTy_some hp)
    have hsz := size_le _ hg.1
    have hsz2 : t.size ≤ 12000 := by omega
    clear hp
    have T : Hid (∀ (W : World) (p : Option Addr) (n c : Nat) (ok : Nat → Prop), FV nI W ok t (nI t (.slice p n c)) → (∀ k, ok k → k < W.heap.size) → Calls Tryz.prog 82 #[.agg #[.string (bs (atomOf t)), .slice p n c, .int .i64 t.bytes, .int .i64 t.size, .int .i64 t.depth]] W fun e w' => e = .returned (.bool (isTy t && decide (t.size ≤ 16))) ∧ Below W.heap.size W w') :=
      Lib.hid (fun W p n c ok h1 h2 => isTypeInLimit_c t p n c ok W hg.1 (by omega) h1 h2)
    cases hty : (isTy t && decide (t.size ≤ 16)) with
    | false =>
      rw [hty] at T HR
      go_enter Tryz.func48, Tryz.ntmps48
      go_wp2_with (first | (go_at_call 55; go_must (refine (C.out _).mono ?_; rintro e w1 ⟨⟨p, n, c, rfl, hv⟩, hb1⟩; have y0 := below_blk hb1 (by simp) (heap_alloc_new _ _); have z0 := cell_of (j := 0) y0; have z1 := cell_of (j := 1) y0; have z2 := cell_of (j := 2) y0; have z3 := cell_of (j := 3) y0; have z4 := cell_of (j := 4) y0; have f0 := free_of (j := 0) y0; have f1 := free_of (j := 1) y0; have f2 := free_of (j := 2) y0; have f3 := free_of (j := 3) y0; have f4 := free_of (j := 4) y0; have hs1 := hb1.size; have hs4 : w.heap.size < w1.heap.size := (by simp at hs1; omega))) | (go_at_call 82; go_must (refine (T.out _ p n c (fun k => w.heap.size + 1 ≤ k ∧ k < w1.heap.size) (FV.move (fun k hk => by simp at hk ⊢; omega) (fun k hk => heap_alloc_old _ _ hk.2) _ _ hv) (fun k hk => by simp; omega)).mono ?_; rintro e w2 ⟨rfl, hb2⟩; have x0 := below_blk hb2 (by simp; omega) (blk_alloc y0); have x1 := below_blk hb2 (by simp) (heap_alloc_new _ _); have r0 := cell_of (j := 0) x0; have r1 := cell_of (j := 1) x0; have r2 := cell_of (j := 2) x0; have r3 := cell_of (j := 3) x0; have r4 := cell_of (j := 4) x0; have g0 := free_of (j := 0) x0; have g1 := free_of (j := 1) x0; have g2 := free_of (j := 2) x0; have g3 := free_of (j := 3) x0; have g4 := free_of (j := 4) x0; have q0 := cell_of (j := 0) x1; have q1 := cell_of (j := 1) x1; have q2 := cell_of (j := 2) x1; have q3 := cell_of (j := 3) x1; have q4 := cell_of (j := 4) x1; have hs2 := hb2.size; have hs5 : w.heap.size < w2.heap.size := (by simp at hs2; omega))))
      refine bodyPost_ret (v := .tuple #[.agg #[.string ⟨#[]⟩, .slice none 0 0, .int .i64 0, .int .i64 0, .int .i64 0], .bool false]) (by simp [results, Tryz.results48, go_sem, r0, r1, r2, r3, r4, hs5]) rfl ⟨by rw [HR.out]; rfl, ?_⟩
      exact (((((((((below1 w _).trans (hb1.mono (by simp))).alloc (by omega) _).trans (hb2.mono (by simp; omega))).setCell (by simp) _).setCell (by simp) _).setCell (by simp) _).setCell (by simp) _).setCell (by simp) _)
    | true =>
      rw [hty] at T HR
      go_enter Tryz.func48, Tryz.ntmps48
      go_wp2_with (first | (go_at_call 55; go_must (refine (C.out _).mono ?_; rintro e w1 ⟨⟨p, n, c, rfl, hv⟩, hb1⟩; have y0 := below_blk hb1 (by simp) (heap_alloc_new _ _); have z0 := cell_of (j := 0) y0; have z1 := cell_of (j := 1) y0; have z2 := cell_of (j := 2) y0; have z3 := cell_of (j := 3) y0; have z4 := cell_of (j := 4) y0; have f0 := free_of (j := 0) y0; have f1 := free_of (j := 1) y0; have f2 := free_of (j := 2) y0; have f3 := free_of (j := 3) y0; have f4 := free_of (j := 4) y0; have hs1 := hb1.size; have hs4 : w.heap.size < w1.heap.size := (by simp at hs1; omega))) | (go_at_call 82; go_must (refine (T.out _ p n c (fun k => w.heap.size + 1 ≤ k ∧ k < w1.heap.size) (FV.move (fun k hk => by simp at hk ⊢; omega) (fun k hk => heap_alloc_old _ _ hk.2) _ _ hv) (fun k hk => by simp; omega)).mono ?_; rintro e w2 ⟨rfl, hb2⟩; have x0 := below_blk hb2 (by simp; omega) (blk_alloc y0); have x1 := below_blk hb2 (by simp) (heap_alloc_new _ _); have r0 := cell_of (j := 0) x0; have r1 := cell_of (j := 1) x0; have r2 := cell_of (j := 2) x0; have r3 := cell_of (j := 3) x0; have r4 := cell_of (j := 4) x0; have g0 := free_of (j := 0) x0; have g1 := free_of (j := 1) x0; have g2 := free_of (j := 2) x0; have g3 := free_of (j := 3) x0; have g4 := free_of (j := 4) x0; have q0 := cell_of (j := 0) x1; have q1 := cell_of (j := 1) x1; have q2 := cell_of (j := 2) x1; have q3 := cell_of (j := 3) x1; have q4 := cell_of (j := 4) x1; have hs2 := hb2.size; have hs5 : w.heap.size < w2.heap.size := (by simp at hs2; omega))))
      refine bodyPost_ret (v := .tuple #[.agg #[.string (bs (atomOf t)), .slice p n c, .int .i64 t.bytes, .int .i64 t.size, .int .i64 t.depth], .bool true]) (by simp [results, Tryz.results48, go_sem, r0, r1, r2, r3, r4, hs5]) rfl ⟨?_, ?_⟩
      · rw [HR.out, if_pos trivial]
        refine ⟨p, n, c, rfl, FV.move (fun k hk => ?_) (fun k hk => ?_) _ _ hv⟩
        · have := hb2.size; simp at hk this ⊢; omega
        · simp only [alloc_size] at hk
          rw [blk_set_other _ (by simp; omega), blk_set_other _ (by simp; omega), blk_set_other _ (by simp; omega), blk_set_other _ (by simp; omega), blk_set_other _ (by simp; omega), hb2.block k (by simp; omega), heap_alloc_old _ _ hk.2]
      · exact (((((((((below1 w _).trans (hb1.mono (by simp))).alloc (by omega) _).trans (hb2.mono (by simp; omega))).setCell (by simp) _).setCell (by simp) _).setCell (by simp) _).setCell (by simp) _).setCell (by simp) _)
end Go.Proofs.YtjncmmnbdabjnaaGreatDoor
namespace Go.Proofs.YtjncmmnbdabjnaaGreatDoor
open Go.RowKit
set_option maxRecDepth 8000
set_option linter.unusedSimpArgs false
set_option linter.unusedVariables false
set_option maxHeartbeats 400000 in
theorem asFun_bad (p : Option Addr) (m c : Nat) (hm : m ≠ 5) (hm2 : m ≤ 1000000000) (w : World) :
    Calls Tryz.prog 114 #[.slice p m c] w fun e w' => e = .returned (.tuple #[.nilIface, .bool false]) ∧ Below w.heap.size w w' := by
  have hl' : ((m : Int) == 5) = false := by simp; omega
  have hl2 : ¬ (m : Int) = 5 := by omega
  go_enter Tryz.func114, Tryz.ntmps114
  go_wp2_with fail
  go_ret2
  exact ⟨rfl, Below.refl _ _⟩
theorem kid_I {w : World} {ok : Nat → Prop} {ts : List Tr} {xs : List Value} {r off : Nat} (h6 : FVs nI w ok ts xs) (h5 : hasRow w r off xs) (i : Nat) (hi : i < ts.length) :
    ∃ p m c, FV nI w ok ts[i] (nI ts[i] (.slice p m c)) ∧ (w.cell? ⟨r, off + i * 5, none⟩ = some (.string (bs (atomOf ts[i]))) ∧ w.cell? ⟨r, off + i * 5 + 1, none⟩ = some (.slice p m c) ∧ w.cell? ⟨r, off + i * 5 + 2, none⟩ = some (.int .i64 ts[i].bytes) ∧ w.cell? ⟨r, off + i * 5 + 3, none⟩ = some (.int .i64 ts[i].size) ∧ w.cell? ⟨r, off + i * 5 + 4, none⟩ = some (.int .i64 ts[i].depth)) := by
  obtain ⟨cs, g1, g2⟩ := FVs.get nI_len h6 h5 i hi
  obtain ⟨p, pn, pc, rfl⟩ := g1.node
  exact ⟨p, pn, pc, g1, g2 0 _ rfl, g2 1 _ rfl, g2 2 _ rfl, g2 3 _ rfl, g2 4 _ rfl⟩
set_option maxHeartbeats 4000000 in
theorem asFun_c (n : Nat) (ih : AsExC n) (f x A B b : Tr) (c : Nat) (ok : Nat → Prop) (w : World) (r off : Nat) (xs : List Value) (hdb : b.depth < n) (hwA : A.wf) (hwB : B.wf) (hwb : b.wf) (hbf : f.bytes ≤ 12000) (hbx : x.bytes ≤ 12000) (hbA : A.bytes ≤ 12000) (hbB : B.bytes ≤ 12000) (hbb : b.bytes ≤ 12000)
    (h5 : hasRow w r off xs) (h6 : FVs nI w ok [f, x, A, B, b] xs) (hrlt : r < w.heap.size) (hok : ∀ k, ok k → k < w.heap.size) (hc : 5 ≤ c) (hc2 : c ≤ maxLen) :
    Calls Tryz.prog 114 #[.slice (some ⟨r, off, none⟩) 5 c] w fun e w' => ExPost ok (asFunE [f, x, A, B, b]) e w' ∧ Below w.heap.size w w' := by
  have hc3 := maxLen_le hc2
  obtain ⟨p0, n0, q0, v0, e00, -⟩ := kid_I h6 h5 0 (by simp)
  obtain ⟨p1, n1, q1, v1, e10, -⟩ := kid_I h6 h5 1 (by simp)
  obtain ⟨p2, n2, q2, v2, e20, e21, e22, e23, e24⟩ := kid_I h6 h5 2 (by simp)
  obtain ⟨p3, n3, q3, v3, e30, e31, e32, e33, e34⟩ := kid_I h6 h5 3 (by simp)
  obtain ⟨p4, n4, q4, v4, e40, e41, e42, e43, e44⟩ := kid_I h6 h5 4 (by simp)
  simp only [Nat.reduceMul, Nat.zero_mul, Nat.add_zero, List.getElem_cons_zero, List.getElem_cons_succ] at v2 v3 v4 e00 e10 e20 e21 e22 e23 e24 e30 e31 e32 e33 e34 e40 e41 e42 e43 e44
  clear v0 v1
  go_enter Tryz.func114, Tryz.ntmps114
  go_wp2_with fail
  go_cut [4, 5, 6, 7] from 13 to 26 (fun t4 t5 t6 t7 W => t4 = .string (bs (atomOf f)) ∧ t5 = .string (bs (atomOf x)) ∧ ∃ b6 b7, t6 = .pointer (some ⟨b6, 0, none⟩) ∧ t7 = .pointer (some ⟨b7, 0, none⟩) ∧ W.heap[b6]? = some (.cells #[.string (bs (atomOf A)), .slice p2 n2 q2, .int .i64 A.bytes, .int .i64 A.size, .int .i64 A.depth] 50 (0, 0)) ∧ W.heap[b7]? = some (.cells #[.string (bs (atomOf B)), .slice p3 n3 q3, .int .i64 B.bytes, .int .i64 B.size, .int .i64 B.depth] 50 (0, 0)) ∧ Hid (Below w.heap.size w W))
  case first =>
    clear ih h5 h6 v2 v3 v4
    go_big_region
    all_goals
      go_wp2_with fail
      go_meet
      first
        | exact ⟨rfl, rfl, _, _, rfl, rfl, blk_alloc (heap_alloc_new _ _), heap_alloc_new2 _ _ _, Lib.hid (below2 w _ _).drew⟩
        | exact ⟨rfl, rfl, _, _, rfl, rfl, heap_alloc_new2 _ _ _, blk_alloc (heap_alloc_new _ _), Lib.hid (below2 w _ _).drew⟩
  case rest =>
  obtain ⟨rfl, rfl, b6, b7, rfl, rfl, y6, y7, HB⟩ := hcut
  have hlf : (atomOf f).length ≤ 1048576 := by have := atomOf_lenI f; omega
  have hlx : (atomOf x).length ≤ 1048576 := by have := atomOf_lenI x; omega
  have hsA := (size_le A hwA).1
  have hsB := (size_le B hwB).1
  have CNf : Hid (∀ W, Calls Tryz.prog 64 #[.string (bs (atomOf f))] W fun e w' => e = .returned (.bool (isNm (atomOf f))) ∧ w' = W) := Lib.hid (fun W => isName_bs _ hlf W)
  have CNx : Hid (∀ W, Calls Tryz.prog 64 #[.string (bs (atomOf x))] W fun e w' => e = .returned (.bool (isNm (atomOf x))) ∧ w' = W) := Lib.hid (fun W => isName_bs _ hlx W)
  have CTA : Hid (∀ W, Below w.heap.size w W → Calls Tryz.prog 82 #[.agg #[.string (bs (atomOf A)), .slice p2 n2 q2, .int .i64 A.bytes, .int .i64 A.size, .int .i64 A.depth]] W fun e w' => e = .returned (.bool (isTyL A)) ∧ Below W.heap.size W w') := Lib.hid (fun W hW => isTypeInLimit_c A p2 n2 q2 ok W hwA (by omega) (v2.below hW hok) (size_ofI hok hW))
  have CTB : Hid (∀ W, Below w.heap.size w W → Calls Tryz.prog 82 #[.agg #[.string (bs (atomOf B)), .slice p3 n3 q3, .int .i64 B.bytes, .int .i64 B.size, .int .i64 B.depth]] W fun e w' => e = .returned (.bool (isTyL B)) ∧ Below W.heap.size W w') := Lib.hid (fun W hW => isTypeInLimit_c B p3 n3 q3 ok W hwB (by omega) (v3.below hW hok) (size_ofI hok hW))
  have heq : ((bs (atomOf f)).toList == (bs (atomOf x)).toList) = (atomOf f == atomOf x) := by rw [bs_toList, bs_toList]
  have HE := Lib.hid (fun (W : World) (h : Below w.heap.size w W) j => h.cell (p := ⟨r, off + 20 + j, none⟩) hrlt)
  clear e00 e10 e20 e21 e22 e23 e24 e30 e31 e32 e33 e34 hlf hlx hsA hsB
  have s60 := cell_of (j := 0) y6
  have s61 := cell_of (j := 1) y6
  have s62 := cell_of (j := 2) y6
  have s63 := cell_of (j := 3) y6
  have s64 := cell_of (j := 4) y6
  have s70 := cell_of (j := 0) y7
  have s71 := cell_of (j := 1) y7
  have s72 := cell_of (j := 2) y7
  have s73 := cell_of (j := 3) y7
  have s74 := cell_of (j := 4) y7
  cases hf : isNm (atomOf f) with
  | false =>
    rw [hf] at CNf
    have HA := Lib.hid (show asFunE [f, x, A, B, b] = none by simp [asFunE, hf])
    clear ih hf
    go_wp2_with (first | (go_at_call 64; (with_reducible refine (CNf.out _).mono ?_); rintro e w1 ⟨rfl, rfl⟩) | (go_at_call 64; (with_reducible refine (CNx.out _).mono ?_); rintro e w2 ⟨rfl, rfl⟩))
    go_ret2
    exact ⟨ExPost.nil HA.out, HB.out⟩
  | true =>
  rw [hf] at CNf
  cases hx : isNm (atomOf x) with
  | false =>
    rw [hx] at CNx
    have HA := Lib.hid (show asFunE [f, x, A, B, b] = none by simp [asFunE, hf, hx])
    clear ih hf hx
    go_wp2_with (first | (go_at_call 64; (with_reducible refine (CNf.out _).mono ?_); rintro e w1 ⟨rfl, rfl⟩) | (go_at_call 64; (with_reducible refine (CNx.out _).mono ?_); rintro e w2 ⟨rfl, rfl⟩))
    go_ret2
    exact ⟨ExPost.nil HA.out, HB.out⟩
  | true =>
  rw [hx] at CNx
  cases hq : (atomOf f == atomOf x) with
  | true =>
    rw [hq] at heq
    have HA := Lib.hid (show asFunE [f, x, A, B, b] = none by simp [asFunE, hf, hx, hq])
    clear ih hf hx hq
    go_wp2_with (first | (go_at_call 64; (with_reducible refine (CNf.out _).mono ?_); rintro e w1 ⟨rfl, rfl⟩) | (go_at_call 64; (with_reducible refine (CNx.out _).mono ?_); rintro e w2 ⟨rfl, rfl⟩))
    go_ret2
    exact ⟨ExPost.nil HA.out, HB.out⟩
  | false =>
  rw [hq] at heq
  cases ha : isTyL A with
  | false =>
    rw [ha] at CTA
    have HA := Lib.hid (show asFunE [f, x, A, B, b] = none by simp [asFunE, hf, hx, hq, ha])
    clear ih hf hx hq ha
    go_wp2_with (first | (go_at_call 64; (with_reducible refine (CNf.out _).mono ?_); rintro e w1 ⟨rfl, rfl⟩) | (go_at_call 64; (with_reducible refine (CNx.out _).mono ?_); rintro e w2 ⟨rfl, rfl⟩) | (go_at_call 82; (with_reducible refine (CTA.out _ HB.out).mono ?_); rintro e w3 ⟨rfl, hb3⟩; have hw3 := HB.out.trans (hb3.mono HB.out.size); have Y6 := below_blk hb3 (lt_of_block y6) y6; have Y7 := below_blk hb3 (lt_of_block y7) y7; have m70 := cell_of (j := 0) Y7; have m71 := cell_of (j := 1) Y7; have m72 := cell_of (j := 2) Y7; have m73 := cell_of (j := 3) Y7; have m74 := cell_of (j := 4) Y7))
    go_ret2
    exact ⟨ExPost.nil HA.out, hw3⟩
  | true =>
  rw [ha] at CTA
  cases hb : isTyL B with
  | false =>
    rw [hb] at CTB
    have HA := Lib.hid (show asFunE [f, x, A, B, b] = none by simp [asFunE, hf, hx, hq, ha, hb])
    clear ih hf hx hq ha hb
    go_wp2_with (first | (go_at_call 64; (with_reducible refine (CNf.out _).mono ?_); rintro e w1 ⟨rfl, rfl⟩) | (go_at_call 64; (with_reducible refine (CNx.out _).mono ?_); rintro e w2 ⟨rfl, rfl⟩) | (go_at_call 82; (with_reducible refine (CTA.out _ HB.out).mono ?_); rintro e w3 ⟨rfl, hb3⟩; have hw3 := HB.out.trans (hb3.mono HB.out.size); have Y6 := below_blk hb3 (lt_of_block y6) y6; have Y7 := below_blk hb3 (lt_of_block y7) y7; have m70 := cell_of (j := 0) Y7; have m71 := cell_of (j := 1) Y7; have m72 := cell_of (j := 2) Y7; have m73 := cell_of (j := 3) Y7; have m74 := cell_of (j := 4) Y7) | (go_at_call 82; refine (CTB.out _ hw3).mono ?_; rintro e w4 ⟨rfl, hb4⟩; have hw4 := hw3.trans (hb4.mono hw3.size); have Z6 := below_blk hb4 (lt_of_block Y6) Y6; have Z7 := below_blk hb4 (lt_of_block Y7) Y7; have k0 := (HE.out _ hw4 0).trans e40; have k1 := (HE.out _ hw4 1).trans e41; have k2 := (HE.out _ hw4 2).trans e42; have k3 := (HE.out _ hw4 3).trans e43; have k4 := (HE.out _ hw4 4).trans e44; simp only [Nat.add_zero] at k0))
    go_ret2
    exact ⟨ExPost.nil HA.out, hw4⟩
  | true =>
  rw [hb] at CTB
  cases he : asEx b with
  | none =>
    have CE := asEx_none ih hdb hwb hbb v4 hok he
    have HA := Lib.hid (show asFunE [f, x, A, B, b] = none by simp [asFunE, hf, hx, hq, ha, hb, he])
    clear ih hf hx hq ha hb he
    go_wp2_with (first | (go_at_call 64; (with_reducible refine (CNf.out _).mono ?_); rintro e w1 ⟨rfl, rfl⟩) | (go_at_call 64; (with_reducible refine (CNx.out _).mono ?_); rintro e w2 ⟨rfl, rfl⟩) | (go_at_call 82; (with_reducible refine (CTA.out _ HB.out).mono ?_); rintro e w3 ⟨rfl, hb3⟩; have hw3 := HB.out.trans (hb3.mono HB.out.size); have Y6 := below_blk hb3 (lt_of_block y6) y6; have Y7 := below_blk hb3 (lt_of_block y7) y7; have m70 := cell_of (j := 0) Y7; have m71 := cell_of (j := 1) Y7; have m72 := cell_of (j := 2) Y7; have m73 := cell_of (j := 3) Y7; have m74 := cell_of (j := 4) Y7) | (go_at_call 82; refine (CTB.out _ hw3).mono ?_; rintro e w4 ⟨rfl, hb4⟩; have hw4 := hw3.trans (hb4.mono hw3.size); have Z6 := below_blk hb4 (lt_of_block Y6) Y6; have Z7 := below_blk hb4 (lt_of_block Y7) Y7; have k0 := (HE.out _ hw4 0).trans e40; have k1 := (HE.out _ hw4 1).trans e41; have k2 := (HE.out _ hw4 2).trans e42; have k3 := (HE.out _ hw4 3).trans e43; have k4 := (HE.out _ hw4 4).trans e44; simp only [Nat.add_zero] at k0) | (go_at_call 78; refine (CE.out _ hw4).mono ?_; (rintro e w5 ⟨(rfl | ⟨T5, u5, rfl⟩), hb5⟩) <;> (have X6 := below_blk hb5 (lt_of_block Z6) Z6; have X7 := below_blk hb5 (lt_of_block Z7) Z7; have g60 := cell_of (j := 0) X6; have g61 := cell_of (j := 1) X6; have g62 := cell_of (j := 2) X6; have g63 := cell_of (j := 3) X6; have g64 := cell_of (j := 4) X6; have g70 := cell_of (j := 0) X7; have g71 := cell_of (j := 1) X7; have g72 := cell_of (j := 2) X7; have g73 := cell_of (j := 3) X7; have g74 := cell_of (j := 4) X7)))
    all_goals
      go_ret2
      exact ⟨ExPost.none HA.out _ _, hw4.trans (hb5.mono hw4.size)⟩
  | some eb =>
    have CE := asEx_some ih hdb hwb hbb v4 hok he
    have HA := Lib.hid (show asFunE [f, x, A, B, b] = some (.func (atomOf f) (atomOf x) A B eb) by simp [asFunE, hf, hx, hq, ha, hb, he])
    clear ih hf hx hq ha hb he
    go_wp2_with (first | (go_at_call 64; (with_reducible refine (CNf.out _).mono ?_); rintro e w1 ⟨rfl, rfl⟩) | (go_at_call 64; (with_reducible refine (CNx.out _).mono ?_); rintro e w2 ⟨rfl, rfl⟩) | (go_at_call 82; (with_reducible refine (CTA.out _ HB.out).mono ?_); rintro e w3 ⟨rfl, hb3⟩; have hw3 := HB.out.trans (hb3.mono HB.out.size); have Y6 := below_blk hb3 (lt_of_block y6) y6; have Y7 := below_blk hb3 (lt_of_block y7) y7; have m70 := cell_of (j := 0) Y7; have m71 := cell_of (j := 1) Y7; have m72 := cell_of (j := 2) Y7; have m73 := cell_of (j := 3) Y7; have m74 := cell_of (j := 4) Y7) | (go_at_call 82; refine (CTB.out _ hw3).mono ?_; rintro e w4 ⟨rfl, hb4⟩; have hw4 := hw3.trans (hb4.mono hw3.size); have Z6 := below_blk hb4 (lt_of_block Y6) Y6; have Z7 := below_blk hb4 (lt_of_block Y7) Y7; have k0 := (HE.out _ hw4 0).trans e40; have k1 := (HE.out _ hw4 1).trans e41; have k2 := (HE.out _ hw4 2).trans e42; have k3 := (HE.out _ hw4 3).trans e43; have k4 := (HE.out _ hw4 4).trans e44; simp only [Nat.add_zero] at k0) | (go_at_call 78; refine (CE.out _ hw4).mono ?_; rintro e w5 ⟨⟨v5, rfl, hev5⟩, hb5⟩; obtain ⟨T5, u5, rfl⟩ := hev5.iface; have X6 := below_blk hb5 (lt_of_block Z6) Z6; have X7 := below_blk hb5 (lt_of_block Z7) Z7; have g60 := cell_of (j := 0) X6; have g61 := cell_of (j := 1) X6; have g62 := cell_of (j := 2) X6; have g63 := cell_of (j := 3) X6; have g64 := cell_of (j := 4) X6; have g70 := cell_of (j := 0) X7; have g71 := cell_of (j := 1) X7; have g72 := cell_of (j := 2) X7; have g73 := cell_of (j := 3) X7; have g74 := cell_of (j := 4) X7))
    go_ret2
    have hw5 := hw4.trans (hb5.mono hw4.size)
    exact ⟨ExPost.some HA.out ⟨_, _, _, _, _, _, _, rfl, v2.below hw5 hok, v3.below hw5 hok, hev5⟩, hw5⟩
end Go.Proofs.YtjncmmnbdabjnaaGreatDoor
