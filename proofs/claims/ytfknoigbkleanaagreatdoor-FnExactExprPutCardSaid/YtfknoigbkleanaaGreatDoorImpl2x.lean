/- The program puts a closed expression for a name. -/
import Derived.Test.YtfknoigbkleanaaGreatDoorImpl2w
namespace Go.Proofs.YtfknoigbkleanaaGreatDoor
open Go.RowKit
set_option maxRecDepth 8000
set_option linter.unusedSimpArgs false
set_option linter.unusedVariables false
def PtC (name : Nm) (b x : Ex) : Prop := ∀ (v vb : Value) (B : Nat) (w : World), EV w (fun k => k < B) x v → EV w (fun k => k < B) b vb → B ≤ w.heap.size →
    Calls Tryz.prog 80 #[v, .string (bs name), vb] w fun e w' => (∃ v', e = .returned v' ∧ EV w' (fun k => k < B) (putE name b x) v') ∧ Below w.heap.size w w'
theorem putcl_c (B b1 b2 : Nat) (T : TypeId) (u vb : Value) (s : ByteArray) (f : Ex) (W : World) (h1 : W.cell? ⟨b1, 0, none⟩ = some (.string s)) (h2 : W.cell? ⟨b2, 0, none⟩ = some vb) (C : Calls Tryz.prog 80 #[.iface T u, .string s, vb] W fun e w' => (∃ v', e = .returned v' ∧ EV w' (fun k => k < B) f v') ∧ Below W.heap.size W w') :
    Calls Tryz.prog 129 #[.iface T u, .pointer (some ⟨b1, 0, none⟩), .pointer (some ⟨b2, 0, none⟩)] W fun e w' => (∃ v', e = .returned v' ∧ EV w' (fun k => k < B) f v') ∧ Below W.heap.size W w' := by
  have C := Lib.hid C
  go_enter Tryz.func129, Tryz.ntmps129
  go_wp2_with (go_at_call 80; go_must (refine (C.out).mono ?_; rintro e w2 ⟨⟨v', rfl, hv'⟩, hb2⟩))
  go_ret
  exact ⟨⟨_, rfl, hv'⟩, hb2⟩
theorem chC_of {name : Nm} {b x : Ex} {B : Nat} {T Tb : TypeId} {u ub : Value} {w : World} (ih : PtC name b x) (hv : EV w (fun k => k < B) x (.iface T u)) (hb : EV w (fun k => k < B) b (.iface Tb ub)) (hB : B ≤ w.heap.size) :
    ∀ w1 : World, Below w.heap.size w w1 → w1.heap[w.heap.size]? = some (.cells #[.string (bs name)] 9 (0, 0)) → w1.heap[w.heap.size + 1]? = some (.cells #[.iface Tb ub] 51 (0, 0)) → ChC B w1 (.pointer (some ⟨w.heap.size, 0, none⟩)) (.pointer (some ⟨w.heap.size + 1, 0, none⟩)) T u (putE name b x) := fun w1 h1 q1 q2 W hW => by
  have hs := h1.size
  have k1 := below_blk hW (lt_of_block q1) q1
  have k2 := below_blk hW (lt_of_block q2) q2
  have hw := h1.trans (hW.mono hs)
  exact putcl_c B _ _ T u _ _ _ W (cell_of k1) (cell_of k2) (ih _ _ B W (hv.on hB hw) (hb.on hB hw) (by have := hw.size; omega))
theorem pt_num (name : Nm) (b : Ex) (n : Int) : PtC name b (.num n) := by
  intro v vb B w hv hb hB
  obtain ⟨Tb, ub, rfl⟩ := hb.iface
  simp only [EV] at hv
  subst hv
  have HE : Hid (∀ w' : World, EV w' (fun k => k < B) (.num n) (.iface 130 (.agg #[.int .i64 n]))) := Lib.hid (fun w' => by simp only [EV])
  rw [show putE name b (.num n) = .num n from rfl]
  go_enter Tryz.func80, Tryz.ntmps80
  go_wp2_with (go_at_call 256; go_must (refine (map_number_c _ _ rfl _ _).mono ?_; rintro e w2 ⟨rfl, hb2⟩))
  go_ret
  exact ⟨⟨_, rfl, HE.out _⟩, (below2 w _ _).trans (hb2.mono (by simp; omega))⟩
set_option maxHeartbeats 1000000 in
theorem pt_name (name : Nm) (b : Ex) (s : Nm) : PtC name b (.name s) := by
  intro v vb B w hv hb hB
  obtain ⟨Tb, ub, rfl⟩ := hb.iface
  simp only [EV] at hv
  subst hv
  by_cases he : s = name
  · subst he
    have HP := Lib.hid (show putE s b (.name s) = b by simp [putE])
    rw [HP.out]
    go_enter Tryz.func80, Tryz.ntmps80
    go_wp2_with fail
    go_ret
    exact ⟨⟨_, rfl, hb.on hB (below3 w _ _ _)⟩, below3 w _ _ _⟩
  · have HP := Lib.hid (show putE name b (.name s) = .name s by simp [putE, he])
    rw [HP.out]
    have hx2 : ((bs s).toList == (bs name).toList) = false := by rw [bs_toList, bs_toList]; simpa using he
    have hx3 : ¬ (bs s).toList = (bs name).toList := by rw [bs_toList, bs_toList]; exact he
    have HE : Hid (∀ w' : World, EV w' (fun k => k < B) (.name s) (.iface 99 (.agg #[.string (bs s)]))) := Lib.hid (fun w' => by simp only [EV])
    generalize bs s = S at *
    clear he
    go_enter Tryz.func80, Tryz.ntmps80
    go_wp2_with (go_at_call 248; go_must (refine (map_name_c _ _ rfl _ _).mono ?_; rintro e w2 ⟨rfl, hb2⟩))
    go_ret
    exact ⟨⟨_, rfl, HE.out _⟩, (below3 w _ _ _).trans (hb2.mono (by simp; omega))⟩
theorem pt_add (name : Nm) (b a c : Ex) (iha : PtC name b a) (ihc : PtC name b c) : PtC name b (.two .add a c) := by
  intro v vb B w hv hb hB
  obtain ⟨Tb, ub, rfl⟩ := hb.iface
  simp only [EV] at hv
  obtain ⟨x, y, rfl, hx, hy⟩ := hv
  obtain ⟨Tx, ux, rfl⟩ := hx.iface
  have HKx := Lib.hid (chC_of iha hx hb hB)
  obtain ⟨Ty, uy, rfl⟩ := hy.iface
  have HKy := Lib.hid (chC_of ihc hy hb hB)
  simp only [putE]
  try simp only [op2T, op1T]
  clear iha ihc hb hx hy
  go_enter Tryz.func80, Tryz.ntmps80
  go_wp2_with (go_at_call 258; go_must (refine (map_add_c B Tx Ty ux uy _ _ _ _ _ (by simp; omega) (HKx.out _ (below2 w _ _) (blk_alloc (heap_alloc_new _ _)) (heap_alloc_new2 _ _ _)) (HKy.out _ (below2 w _ _) (blk_alloc (heap_alloc_new _ _)) (heap_alloc_new2 _ _ _))).mono ?_; rintro e w2 ⟨⟨v', rfl, hv'⟩, hb2⟩))
  go_ret
  exact ⟨⟨_, rfl, hv'⟩, (below2 w _ _).trans (hb2.mono (by simp; omega))⟩
theorem pt_sub (name : Nm) (b a c : Ex) (iha : PtC name b a) (ihc : PtC name b c) : PtC name b (.two .sub a c) := by
  intro v vb B w hv hb hB
  obtain ⟨Tb, ub, rfl⟩ := hb.iface
  simp only [EV] at hv
  obtain ⟨x, y, rfl, hx, hy⟩ := hv
  obtain ⟨Tx, ux, rfl⟩ := hx.iface
  have HKx := Lib.hid (chC_of iha hx hb hB)
  obtain ⟨Ty, uy, rfl⟩ := hy.iface
  have HKy := Lib.hid (chC_of ihc hy hb hB)
  simp only [putE]
  try simp only [op2T, op1T]
  clear iha ihc hb hx hy
  go_enter Tryz.func80, Tryz.ntmps80
  go_wp2_with (go_at_call 260; go_must (refine (map_sub_c B Tx Ty ux uy _ _ _ _ _ (by simp; omega) (HKx.out _ (below2 w _ _) (blk_alloc (heap_alloc_new _ _)) (heap_alloc_new2 _ _ _)) (HKy.out _ (below2 w _ _) (blk_alloc (heap_alloc_new _ _)) (heap_alloc_new2 _ _ _))).mono ?_; rintro e w2 ⟨⟨v', rfl, hv'⟩, hb2⟩))
  go_ret
  exact ⟨⟨_, rfl, hv'⟩, (below2 w _ _).trans (hb2.mono (by simp; omega))⟩
theorem pt_mul (name : Nm) (b a c : Ex) (iha : PtC name b a) (ihc : PtC name b c) : PtC name b (.two .mul a c) := by
  intro v vb B w hv hb hB
  obtain ⟨Tb, ub, rfl⟩ := hb.iface
  simp only [EV] at hv
  obtain ⟨x, y, rfl, hx, hy⟩ := hv
  obtain ⟨Tx, ux, rfl⟩ := hx.iface
  have HKx := Lib.hid (chC_of iha hx hb hB)
  obtain ⟨Ty, uy, rfl⟩ := hy.iface
  have HKy := Lib.hid (chC_of ihc hy hb hB)
  simp only [putE]
  try simp only [op2T, op1T]
  clear iha ihc hb hx hy
  go_enter Tryz.func80, Tryz.ntmps80
  go_wp2_with (go_at_call 262; go_must (refine (map_mul_c B Tx Ty ux uy _ _ _ _ _ (by simp; omega) (HKx.out _ (below2 w _ _) (blk_alloc (heap_alloc_new _ _)) (heap_alloc_new2 _ _ _)) (HKy.out _ (below2 w _ _) (blk_alloc (heap_alloc_new _ _)) (heap_alloc_new2 _ _ _))).mono ?_; rintro e w2 ⟨⟨v', rfl, hv'⟩, hb2⟩))
  go_ret
  exact ⟨⟨_, rfl, hv'⟩, (below2 w _ _).trans (hb2.mono (by simp; omega))⟩
theorem pt_call (name : Nm) (b a c : Ex) (iha : PtC name b a) (ihc : PtC name b c) : PtC name b (.two .call a c) := by
  intro v vb B w hv hb hB
  obtain ⟨Tb, ub, rfl⟩ := hb.iface
  simp only [EV] at hv
  obtain ⟨x, y, rfl, hx, hy⟩ := hv
  obtain ⟨Tx, ux, rfl⟩ := hx.iface
  have HKx := Lib.hid (chC_of iha hx hb hB)
  obtain ⟨Ty, uy, rfl⟩ := hy.iface
  have HKy := Lib.hid (chC_of ihc hy hb hB)
  simp only [putE]
  try simp only [op2T, op1T]
  clear iha ihc hb hx hy
  go_enter Tryz.func80, Tryz.ntmps80
  go_wp2_with (go_at_call 267; go_must (refine (map_call_c B Tx Ty ux uy _ _ _ _ _ (by simp; omega) (HKx.out _ (below2 w _ _) (blk_alloc (heap_alloc_new _ _)) (heap_alloc_new2 _ _ _)) (HKy.out _ (below2 w _ _) (blk_alloc (heap_alloc_new _ _)) (heap_alloc_new2 _ _ _))).mono ?_; rintro e w2 ⟨⟨v', rfl, hv'⟩, hb2⟩))
  go_ret
  exact ⟨⟨_, rfl, hv'⟩, (below2 w _ _).trans (hb2.mono (by simp; omega))⟩
theorem pt_pair (name : Nm) (b a c : Ex) (iha : PtC name b a) (ihc : PtC name b c) : PtC name b (.two .pair a c) := by
  intro v vb B w hv hb hB
  obtain ⟨Tb, ub, rfl⟩ := hb.iface
  simp only [EV] at hv
  obtain ⟨x, y, rfl, hx, hy⟩ := hv
  obtain ⟨Tx, ux, rfl⟩ := hx.iface
  have HKx := Lib.hid (chC_of iha hx hb hB)
  obtain ⟨Ty, uy, rfl⟩ := hy.iface
  have HKy := Lib.hid (chC_of ihc hy hb hB)
  simp only [putE]
  try simp only [op2T, op1T]
  clear iha ihc hb hx hy
  go_enter Tryz.func80, Tryz.ntmps80
  go_wp2_with (go_at_call 252; go_must (refine (map_pair_c B Tx Ty ux uy _ _ _ _ _ (by simp; omega) (HKx.out _ (below2 w _ _) (blk_alloc (heap_alloc_new _ _)) (heap_alloc_new2 _ _ _)) (HKy.out _ (below2 w _ _) (blk_alloc (heap_alloc_new _ _)) (heap_alloc_new2 _ _ _))).mono ?_; rintro e w2 ⟨⟨v', rfl, hv'⟩, hb2⟩))
  go_ret
  exact ⟨⟨_, rfl, hv'⟩, (below2 w _ _).trans (hb2.mono (by simp; omega))⟩
theorem pt_fst (name : Nm) (b a : Ex) (iha : PtC name b a) : PtC name b (.one .fst a) := by
  intro v vb B w hv hb hB
  obtain ⟨Tb, ub, rfl⟩ := hb.iface
  simp only [EV] at hv
  obtain ⟨x, rfl, hx⟩ := hv
  obtain ⟨Tx, ux, rfl⟩ := hx.iface
  have HKx := Lib.hid (chC_of iha hx hb hB)
  simp only [putE]
  try simp only [op2T, op1T]
  clear iha hb hx
  go_enter Tryz.func80, Tryz.ntmps80
  go_wp2_with (go_at_call 270; go_must (refine (map_fst_c B Tx ux _ _ _ _ (by simp; omega) (HKx.out _ (below2 w _ _) (blk_alloc (heap_alloc_new _ _)) (heap_alloc_new2 _ _ _))).mono ?_; rintro e w2 ⟨⟨v', rfl, hv'⟩, hb2⟩))
  go_ret
  exact ⟨⟨_, rfl, hv'⟩, (below2 w _ _).trans (hb2.mono (by simp; omega))⟩
theorem pt_snd (name : Nm) (b a : Ex) (iha : PtC name b a) : PtC name b (.one .snd a) := by
  intro v vb B w hv hb hB
  obtain ⟨Tb, ub, rfl⟩ := hb.iface
  simp only [EV] at hv
  obtain ⟨x, rfl, hx⟩ := hv
  obtain ⟨Tx, ux, rfl⟩ := hx.iface
  have HKx := Lib.hid (chC_of iha hx hb hB)
  simp only [putE]
  try simp only [op2T, op1T]
  clear iha hb hx
  go_enter Tryz.func80, Tryz.ntmps80
  go_wp2_with (go_at_call 273; go_must (refine (map_snd_c B Tx ux _ _ _ _ (by simp; omega) (HKx.out _ (below2 w _ _) (blk_alloc (heap_alloc_new _ _)) (heap_alloc_new2 _ _ _))).mono ?_; rintro e w2 ⟨⟨v', rfl, hv'⟩, hb2⟩))
  go_ret
  exact ⟨⟨_, rfl, hv'⟩, (below2 w _ _).trans (hb2.mono (by simp; omega))⟩
theorem pt_cond (name : Nm) (b a c d : Ex) (iha : PtC name b a) (ihc : PtC name b c) (ihd : PtC name b d) : PtC name b (.cond a c d) := by
  intro v vb B w hv hb hB
  obtain ⟨Tb, ub, rfl⟩ := hb.iface
  simp only [EV] at hv
  obtain ⟨x, y, z, rfl, hx, hy, hz⟩ := hv
  obtain ⟨Tx, ux, rfl⟩ := hx.iface
  have HKx := Lib.hid (chC_of iha hx hb hB)
  obtain ⟨Ty, uy, rfl⟩ := hy.iface
  have HKy := Lib.hid (chC_of ihc hy hb hB)
  obtain ⟨Tz, uz, rfl⟩ := hz.iface
  have HKz := Lib.hid (chC_of ihd hz hb hB)
  simp only [putE]
  try simp only [op2T, op1T]
  clear iha ihc ihd hb hx hy hz
  go_enter Tryz.func80, Tryz.ntmps80
  go_wp2_with (go_at_call 265; go_must (refine (map_if_c B Tx Ty Tz ux uy uz _ _ _ _ _ _ (by simp; omega) (HKx.out _ (below2 w _ _) (blk_alloc (heap_alloc_new _ _)) (heap_alloc_new2 _ _ _)) (HKy.out _ (below2 w _ _) (blk_alloc (heap_alloc_new _ _)) (heap_alloc_new2 _ _ _)) (HKz.out _ (below2 w _ _) (blk_alloc (heap_alloc_new _ _)) (heap_alloc_new2 _ _ _))).mono ?_; rintro e w2 ⟨⟨v', rfl, hv'⟩, hb2⟩))
  go_ret
  exact ⟨⟨_, rfl, hv'⟩, (below2 w _ _).trans (hb2.mono (by simp; omega))⟩
set_option maxHeartbeats 2000000 in
theorem pt_let (name : Nm) (b : Ex) (s : Nm) (a c : Ex) (iha : PtC name b a) (ihc : PtC name b c) : PtC name b (.lete s a c) := by
  intro v vb B w hv hb hB
  obtain ⟨Tb, ub, rfl⟩ := hb.iface
  simp only [EV] at hv
  obtain ⟨x, y, rfl, hx, hy⟩ := hv
  obtain ⟨Tx, ux, rfl⟩ := hx.iface
  obtain ⟨Ty, uy, rfl⟩ := hy.iface
  by_cases he : s = name
  · subst he
    have HP := Lib.hid (show putE s b (.lete s a c) = .lete s (putE s b a) c by simp [putE])
    rw [HP.out]
    have C0 := Lib.hid (fun W (hW : Below w.heap.size w W) => iha _ _ B W (hx.on hB hW) (hb.on hB hW) (Nat.le_trans hB hW.size))
    have HY := Lib.hid (fun W (hW : Below w.heap.size w W) => hy.on hB hW)
    clear iha ihc hx hy hb
    go_enter Tryz.func80, Tryz.ntmps80
    go_wp2_with fail
    generalize hwa : ((w.alloc (.cells #[.string (bs s)] 9)).alloc (.cells #[.iface Tb ub] 51)).alloc (.cells #[.string (bs s), .iface Tx ux, .iface Ty uy] 94) = wa
    have hbw : Below w.heap.size w wa := by rw [← hwa]; exact below3 _ _ _ _
    obtain ⟨q0, q1, q2⟩ := three_blocks w (.cells #[.string (bs s)] 9 (0, 0)) (.cells #[.iface Tb ub] 51 (0, 0)) (.cells #[.string (bs s), .iface Tx ux, .iface Ty uy] 94 (0, 0))
    have y0 : wa.heap[w.heap.size]? = some (.cells #[.string (bs s)] 9 (0, 0)) := by rw [← hwa]; exact q0
    have y1 : wa.heap[w.heap.size + 1]? = some (.cells #[.iface Tb ub] 51 (0, 0)) := by rw [← hwa]; exact q1
    have y2 : wa.heap[w.heap.size + 2]? = some (.cells #[.string (bs s), .iface Tx ux, .iface Ty uy] 94 (0, 0)) := by rw [← hwa]; exact q2
    clear q0 q1 q2
    have C1 := Lib.hid (fun W (hW : Below wa.heap.size wa W) => C0.out W (hbw.trans (hW.mono hbw.size)))
    have HY1 := Lib.hid (fun W (hW : Below wa.heap.size wa W) => HY.out W (hbw.trans (hW.mono hbw.size)))
    have HF := Lib.hid (fun W (hW : Below wa.heap.size wa W) => hbw.trans (hW.mono hbw.size))
    generalize hB0 : w.heap.size = B0 at *
    have KS : Hid (∀ W, Below wa.heap.size wa W → (fun W => W.cell? ⟨B0 + 2, 0, none⟩ = some (.string (bs s)) ∧ W.cell? ⟨B0 + 2, 1, none⟩ = some (.iface Tx ux) ∧ W.cell? ⟨B0 + 2, 2, none⟩ = some (.iface Ty uy) ∧ W.cell? ⟨B0, 0, none⟩ = some (.string (bs s)) ∧ W.cell? ⟨B0 + 1, 0, none⟩ = some (.iface Tb ub)) W) := Lib.hid (fun W hW => by have k0 := below_blk hW (lt_of_block y0) y0; have k1 := below_blk hW (lt_of_block y1) y1; have k2 := below_blk hW (lt_of_block y2) y2; exact ⟨cell_of k2, cell_of k2, cell_of k2, cell_of k0, cell_of k1⟩)
    clear hwa C0 HY
    have hD0 : Below wa.heap.size wa wa.drew := (Below.refl _ _).drew
    have S0 := Lib.hid (KS.out _ hD0)
    go_region_held_law (fun W => W.cell? ⟨B0 + 2, 0, none⟩ = some (.string (bs s)) ∧ W.cell? ⟨B0 + 2, 1, none⟩ = some (.iface Tx ux) ∧ W.cell? ⟨B0 + 2, 2, none⟩ = some (.iface Ty uy) ∧ W.cell? ⟨B0, 0, none⟩ = some (.string (bs s)) ∧ W.cell? ⟨B0 + 1, 0, none⟩ = some (.iface Tb ub)) (first | exact S0.out | assumption) (first | (go_at_call 80; (with_reducible refine (C1.out _ hD0).mono ?_); rintro e w2 ⟨⟨x1, rfl, hx1⟩, hb2⟩; obtain ⟨S1, t1, rfl⟩ := hx1.iface; have h2 := Below.trans hD0 (hb2.mono hD0.size); have hS2 := KS.out _ h2))
    all_goals
      go_wp2_with fail
      go_ret
      exact ⟨⟨_, rfl, _, _, rfl, hx1, HY1.out _ h2⟩, by rw [hB0]; exact HF.out _ h2⟩
  · have HP := Lib.hid (show putE name b (.lete s a c) = .lete s (putE name b a) (putE name b c) by simp [putE, he])
    rw [HP.out]
    have HKx := Lib.hid (chC_of iha hx hb hB)
    have HKy := Lib.hid (chC_of ihc hy hb hB)
    have hx2 : ((bs s).toList == (bs name).toList) = false := by rw [bs_toList, bs_toList]; simpa using he
    have hx3 : ¬ (bs s).toList = (bs name).toList := by rw [bs_toList, bs_toList]; exact he
    have MP := Lib.hid (fun (W : World) (h : B ≤ W.heap.size) (p1 p2 : Value) => map_let_c B s Tx Ty ux uy p1 p2 (putE name b a) (putE name b c) W h)
    generalize bs s = S at *
    clear he iha ihc hx hy hb
    go_enter Tryz.func80, Tryz.ntmps80
    go_wp2_with (go_at_call 242; go_must (refine (MP.out _ (by simp; omega) _ _ (HKx.out _ (below3 w _ _ _) (three_blocks w _ _ _).1 (three_blocks w _ _ _).2.1) (HKy.out _ (below3 w _ _ _) (three_blocks w _ _ _).1 (three_blocks w _ _ _).2.1)).mono ?_; rintro e w2 ⟨⟨v', rfl, hv'⟩, hb2⟩))
    go_ret
    exact ⟨⟨_, rfl, hv'⟩, (below3 w _ _ _).trans (hb2.mono (by simp; omega))⟩
set_option maxHeartbeats 2000000 in
theorem pt_fun (name : Nm) (b : Ex) (f z : Nm) (At Bt : Tr) (c : Ex) (ihc : PtC name b c) : PtC name b (.func f z At Bt c) := by
  intro v vb B w hv hb hB
  obtain ⟨Tb, ub, rfl⟩ := hb.iface
  have hv0 := hv
  simp only [EV] at hv
  obtain ⟨pa, na, ca, pb, nb, cb, y, rfl, hA, hBt, hy⟩ := hv
  obtain ⟨Ty, uy, rfl⟩ := hy.iface
  obtain ⟨la, lb, lc, ld, -, -, -, -, hnA⟩ := nI_named At
  obtain ⟨ma, mb, mc, md, -, -, -, -, hnB⟩ := nI_named Bt
  have HV := Lib.hid (fun w' (h : Below w.heap.size w w') => hv0.on hB h)
  rw [hnA, hnB] at HV ⊢
  simp only [List.cons_append, List.nil_append] at HV ⊢
  by_cases hf : f = name
  · subst hf
    have HP := Lib.hid (show putE f b (.func f z At Bt c) = .func f z At Bt c by simp [putE])
    rw [HP.out]
    clear hv0 ihc hA hBt hy hnA hnB hb
    go_enter Tryz.func80, Tryz.ntmps80
    go_wp2_with fail
    go_ret
    exact ⟨⟨_, rfl, HV.out _ (below3 w _ _ _)⟩, below3 w _ _ _⟩
  have hx2 : ((bs f).toList == (bs name).toList) = false := by rw [bs_toList, bs_toList]; simpa using hf
  have hx3 : ¬ (bs f).toList = (bs name).toList := by rw [bs_toList, bs_toList]; exact hf
  by_cases hz : z = name
  · subst hz
    have HP := Lib.hid (show putE z b (.func f z At Bt c) = .func f z At Bt c by simp [putE])
    rw [HP.out]
    generalize bs f = F at *
    clear hv0 ihc hA hBt hy hnA hnB hb hf
    go_enter Tryz.func80, Tryz.ntmps80
    go_wp2_with fail
    go_ret
    exact ⟨⟨_, rfl, HV.out _ (below3 w _ _ _)⟩, below3 w _ _ _⟩
  · have HP := Lib.hid (show putE name b (.func f z At Bt c) = .func f z At Bt (putE name b c) by simp [putE, hf, hz])
    rw [HP.out]
    have HKy := Lib.hid (chC_of ihc hy hb hB)
    have hz2 : ((bs z).toList == (bs name).toList) = false := by rw [bs_toList, bs_toList]; simpa using hz
    have hz3 : ¬ (bs z).toList = (bs name).toList := by rw [bs_toList, bs_toList]; exact hz
    have MP := Lib.hid (fun (W : World) (hW : Below w.heap.size w W) (p1 p2 : Value) => map_fun_c B f z At Bt pa pb na nb ca cb la ma lb lc ld mb mc md Ty uy p1 p2 (putE name b c) W (Nat.le_trans hB hW.size) hnA hnB (hA.below hW (fun k hk => Nat.lt_of_lt_of_le hk hB)) (hBt.below hW (fun k hk => Nat.lt_of_lt_of_le hk hB)))
    generalize bs f = F at *
    generalize bs z = Zz at *
    clear hv0 ihc hA hBt hy hnA hnB hb hf hz HV
    go_enter Tryz.func80, Tryz.ntmps80
    go_wp2_with (go_at_call 245; go_must (refine (MP.out _ (below3 w _ _ _) _ _ (HKy.out _ (below3 w _ _ _) (three_blocks w _ _ _).1 (three_blocks w _ _ _).2.1)).mono ?_; rintro e w2 ⟨⟨v', rfl, hv'⟩, hb2⟩))
    go_ret
    exact ⟨⟨_, rfl, hv'⟩, (below3 w _ _ _).trans (hb2.mono (by simp; omega))⟩
theorem pt_all (name : Nm) (b : Ex) : ∀ x : Ex, PtC name b x
  | .name s => pt_name name b s
  | .num n => pt_num name b n
  | .two .add x y => pt_add name b x y (pt_all name b x) (pt_all name b y)
  | .two .sub x y => pt_sub name b x y (pt_all name b x) (pt_all name b y)
  | .two .mul x y => pt_mul name b x y (pt_all name b x) (pt_all name b y)
  | .two .call x y => pt_call name b x y (pt_all name b x) (pt_all name b y)
  | .two .pair x y => pt_pair name b x y (pt_all name b x) (pt_all name b y)
  | .one .fst x => pt_fst name b x (pt_all name b x)
  | .one .snd x => pt_snd name b x (pt_all name b x)
  | .cond x y z => pt_cond name b x y z (pt_all name b x) (pt_all name b y) (pt_all name b z)
  | .lete s x y => pt_let name b s x y (pt_all name b x) (pt_all name b y)
  | .func f z A B x => pt_fun name b f z A B x (pt_all name b x)
end Go.Proofs.YtfknoigbkleanaaGreatDoor
