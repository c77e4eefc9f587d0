/- The program reads a type back from its target type. -/
import Derived.Test.YtaoicbmepliklaaTgh
import Derived.Deep.RegionWith
namespace Go.Proofs.Ytaoicbmepliklaa
open Go.RowKit
set_option maxRecDepth 8000
set_option linter.unusedSimpArgs false
set_option linter.unusedVariables false
theorem sfPost_shape {B : Nat} {o : Option Tr} {e : Ending} {w' : World} (h : SfPost B o e w') : ∃ u p n c x y z b, e = .returned (.tuple #[.agg #[.string u, .slice p n c, .int .i64 x, .int .i64 y, .int .i64 z], .bool b]) := by
  cases o with
  | none => obtain ⟨u, p, n, c, x, y, z, h⟩ := h; exact ⟨u, p, n, c, x, y, z, false, h⟩
  | some t => obtain ⟨p, n, c, h, -⟩ := h; exact ⟨_, p, n, c, _, _, _, true, h⟩
theorem sfPost_move {B B' : Nat} {o : Option Tr} {e : Ending} {w' w'' : World} (h : SfPost B o e w') (hB : B' ≤ B) (hs : w'.heap.size ≤ w''.heap.size) (hX : ∀ k, B ≤ k → k < w'.heap.size → w''.heap[k]? = w'.heap[k]?) : SfPost B' o e w'' := by
  cases o with
  | none => exact h
  | some t =>
    obtain ⟨p, n, c, h1, h2⟩ := h
    exact ⟨p, n, c, h1, FV.move (fun k hk => ⟨Nat.le_trans hB hk.1, Nat.lt_of_lt_of_le hk.2 hs⟩) (fun k hk => hX k hk.1 hk.2) _ _ h2⟩
theorem second_sub {t g : Tr} (h : second t = some g) : (t.wf → g.wf) ∧ g.bytes < t.bytes ∧ g.depth < t.depth := by
  match t, h with
  | .list (a :: b :: ts), h =>
    simp only [second, Option.some.injEq] at h
    subst h
    refine ⟨fun hw => hw.2.2.1, by simp only [Tr.bytes, bytess]; omega, by simp only [Tr.depth, depths]; omega⟩
/-- packedNeeds of a form. -/
theorem pn_c (f : Tr) (hwf : f.wf) (hbt : f.bytes ≤ 12000) (p : Option Addr) (n c : Nat) (ok : Nat → Prop) (w : World) (hv : FV nI w ok f (nI f (.slice p n c))) (hok : ∀ k, ok k → k < w.heap.size) :
    Calls Try.prog 72 #[.agg #[.string (bs (atomOf f)), .slice p n c, .int .i64 f.bytes, .int .i64 f.size, .int .i64 f.depth]] w fun e w' => PnPost ok (pkNeeds f) e w' ∧ Below w.heap.size w w' := by
  by_cases hc : ∃ a b ns, pkCode f = some (.list (a :: b :: ns))
  · obtain ⟨a, b, ns, hc⟩ := hc
    cases h1 : second f with
    | none => rw [pkCode, h1] at hc; cases hc
    | some g =>
      have h2 : second g = some (.list (a :: b :: ns)) := by rw [pkCode, h1] at hc; exact hc
      have s1 := second_sub h1
      have s2 := second_sub h2
      have hw2 := s2.1 (s1.1 hwf)
      exact packedNeeds_long f hwf hbt p n c ok w hv hok a b g ns h1 h2 hw2.2.2.2 (by have h9 := s2.2.1; have := s1.2.1; simp only [Tr.bytes, bytess] at h9; omega)
  · have hsh : ∀ ts, pkCode f = some (.list ts) → ts.length < 2 := fun ts h => by
      match ts, h with
      | [], _ => simp
      | [_], _ => simp
      | a :: b :: ns, h => exact absurd ⟨a, b, ns, h⟩ hc
    rw [pkNeeds_no hsh]
    exact (packedNeeds_short f p n c ok w hv hok hsh).mono fun e w' ⟨h1, h2⟩ => ⟨⟨_, _, _, h1, Nat.zero_le _⟩, h2⟩
/-- sourceOfTwo of two forms. -/
theorem sot_c (n : Nat) (ih : SFc n) (hd : List UInt8) (hh : okAt hd) (a b : Tr) (ua ub : ByteArray) (pa pb : Option Addr) (ma ca mb cb : Nat) (a1 a2 a3 b1 b2 b3 : Int) (w : World) (hda : a.depth < n) (hdb : b.depth < n) (hwa : a.wf) (hwb : b.wf) (hba : a.bytes ≤ 12000) (hbb : b.bytes ≤ 12000)
    (hna : ∀ v, nI a v = [.string ua, v, .int .i64 a1, .int .i64 a2, .int .i64 a3]) (hnb : ∀ v, nI b v = [.string ub, v, .int .i64 b1, .int .i64 b2, .int .i64 b3])
    (hfa : FV nI w (fun k => k < w.heap.size) a [.string ua, .slice pa ma ca, .int .i64 a1, .int .i64 a2, .int .i64 a3]) (hfb : FV nI w (fun k => k < w.heap.size) b [.string ub, .slice pb mb cb, .int .i64 b1, .int .i64 b2, .int .i64 b3]) :
    Calls Try.prog 71 #[.string (bs hd), .agg #[.string ua, .slice pa ma ca, .int .i64 a1, .int .i64 a2, .int .i64 a3], .agg #[.string ub, .slice pb mb cb, .int .i64 b1, .int .i64 b2, .int .i64 b3]] w fun e w' => SfPost w.heap.size (two hd (src n a) (src n b)) e w' ∧ Below w.heap.size w w' := by
  have CA : ∀ W, Below w.heap.size w W → Calls Try.prog 39 #[.agg #[.string ua, .slice pa ma ca, .int .i64 a1, .int .i64 a2, .int .i64 a3]] W fun e w' => SfPost W.heap.size (src n a) e w' ∧ Below W.heap.size W w' := fun W hW => by
    have eqa := hna (.slice none 0 0)
    simp only [nI, List.cons.injEq, Value.string.injEq, Value.int.injEq, true_and, and_true] at eqa
    have := ih a pa ma ca W hda hwa hba (by rw [hna]; exact (hfa.below hW (fun k hk => hk)).wide (fun k hk => Nat.lt_of_lt_of_le hk hW.size))
    rw [eqa.1, eqa.2.1, eqa.2.2.1, eqa.2.2.2] at this
    exact this
  have CB : ∀ W, Below w.heap.size w W → Calls Try.prog 39 #[.agg #[.string ub, .slice pb mb cb, .int .i64 b1, .int .i64 b2, .int .i64 b3]] W fun e w' => SfPost W.heap.size (src n b) e w' ∧ Below W.heap.size W w' := fun W hW => by
    have eqb := hnb (.slice none 0 0)
    simp only [nI, List.cons.injEq, Value.string.injEq, Value.int.injEq, true_and, and_true] at eqb
    have := ih b pb mb cb W hdb hwb hbb (by rw [hnb]; exact (hfb.below hW (fun k hk => hk)).wide (fun k hk => Nat.lt_of_lt_of_le hk hW.size))
    rw [eqb.1, eqb.2.1, eqb.2.2.1, eqb.2.2.2] at this
    exact this
  cases ha : src n a with
  | none =>
    rw [ha] at CA
    exact sot_none n (bs hd) ua ub pa pb ma ca mb cb a1 a2 a3 b1 b2 b3 w CA
  | some x =>
    rw [ha] at CA
    have fx := src_fits hda ha
    cases hb : src n b with
    | none =>
      rw [hb] at CB
      exact sot_sn hd hh x fx.1 (by omega) ua ub pa pb ma ca mb cb a1 a2 a3 b1 b2 b3 w CA CB
    | some y =>
      rw [hb] at CB
      have fy := src_fits hdb hb
      exact sot_ss hd hh x y fy.1 (by omega) fx.1 (by omega) ua ub pa pb ma ca mb cb a1 a2 a3 b1 b2 b3 w CA CB
set_option maxHeartbeats 8000000 in
theorem sf_atom (n : Nat) (a : List UInt8) (b z d : Int) (hn : ∀ v, nI (.atom a) v = [.string (bs a), v, .int .i64 b, .int .i64 z, .int .i64 d]) (w : World) :
    Calls Try.prog 39 #[.agg #[.string (bs a), .slice none 0 0, .int .i64 b, .int .i64 z, .int .i64 d]] w fun e w' => SfPost w.heap.size (src (n + 1) (.atom a)) e w' ∧ Below w.heap.size w w' := by
  have HS : Hid (∀ W, SfPost w.heap.size (src (n + 1) (.atom a)) (.returned (.tuple #[.agg #[.string (bs a), .slice none 0 0, .int .i64 b, .int .i64 z, .int .i64 d], .bool (a == [105])])) W) := Lib.hid (fun W => by
    rw [src_atom]
    by_cases h : a = [105]
    · rw [if_pos h]
      have e := hn (.slice none 0 0)
      simp only [nI, List.cons.injEq, Value.string.injEq, Value.int.injEq, true_and, and_true] at e
      refine ⟨none, 0, 0, ?_, by simp only [FV]⟩
      rw [e.2.1, e.2.2.1, e.2.2.2, h]; rfl
    · rw [if_neg h]
      have h2 : (a == [105]) = false := by simpa using h
      rw [h2]
      exact ⟨_, _, _, _, _, _, _, rfl⟩)
  have x1 : ((bs a).toList == [105]) = (a == [105]) := by rw [bs_toList]
  generalize (a == [105]) = Q at *
  generalize bs a = A at *
  have y0 := heap_alloc_new2 w (.cells #[.string A, .slice none 0 0, .int .i64 b, .int .i64 z, .int .i64 d] 41) (.cells #[.string ⟨#[]⟩, .slice none 0 0, .int .i64 0, .int .i64 0, .int .i64 0] 41)
  have b0 := blk_alloc (o' := .cells #[.string ⟨#[]⟩, .slice none 0 0, .int .i64 0, .int .i64 0, .int .i64 0] 41) (heap_alloc_new w (.cells #[.string A, .slice none 0 0, .int .i64 b, .int .i64 z, .int .i64 d] 41))
  clear hn
  go_enter Try.func39, Try.ntmps39
  go_wp2_with (go_at_call 55; go_must (refine (isAtom_yes _ _ _ _ _ _ _).mono ?_; rintro e w1 ⟨rfl, hb1⟩; have y1 := below_blk hb1 (lt_of_block y0) y0; have d1 := below_blk hb1 (lt_of_block b0) b0; have hB1 := (below2 w _ _).trans (hb1.mono (by simp; omega)); have z0 := cell_of (j := 0) y1; have z1 := cell_of (j := 1) y1; have z2 := cell_of (j := 2) y1; have z3 := cell_of (j := 3) y1; have z4 := cell_of (j := 4) y1; have f0 := free_of (j := 0) y1; have f1 := free_of (j := 1) y1; have f2 := free_of (j := 2) y1; have f3 := free_of (j := 3) y1; have f4 := free_of (j := 4) y1; have q0 := cell_of (j := 0) d1; have q1 := cell_of (j := 1) d1; have q2 := cell_of (j := 2) d1; have q3 := cell_of (j := 3) d1; have q4 := cell_of (j := 4) d1))
  first | (go_region_with fail) | fail
  all_goals
    go_wp2_with fail
    have O := set5_same y1 (.string A) (.slice none 0 0) (.int .i64 b) (.int .i64 z) (.int .i64 d)
    have r0 := cell_of (j := 0) O
    have r1 := cell_of (j := 1) O
    have r2 := cell_of (j := 2) O
    have r3 := cell_of (j := 3) O
    have r4 := cell_of (j := 4) O
    have hlt := lt_of_block y1
    refine bodyPost_ret (v := .tuple #[.agg #[.string A, .slice none 0 0, .int .i64 b, .int .i64 z, .int .i64 d], .bool Q]) (by simp [results, Try.results39, go_sem, r0, r1, r2, r3, r4, hlt]) rfl ⟨HS.out _, ?_⟩
    first
      | exact (set5 hB1 (by omega) _ _ _ _ _).drew
      | exact set5 hB1 (by omega) _ _ _ _ _
end Go.Proofs.Ytaoicbmepliklaa
