/- Target types of types: the program's and the reference model's functions, and the walks of the two exact laws. -/
import Derived.Test.YtaoicbmepliklaaTga
import Derived.Test.YtaoicbmepliklaaS1z
namespace Go.Proofs.Ytaoicbmepliklaa
open Go.RowKit
set_option maxRecDepth 8000
set_option linter.unusedSimpArgs false
set_option linter.unusedVariables false
set_option maxHeartbeats 4000000 in
theorem tf_atom (p : Option Addr) (m c : Nat) (w : World) (hv : FV nI w (fun q => q < w.heap.size) (.atom [105]) (nI (.atom [105]) (.slice p m c))) :
    Calls Try.prog 33 #[.agg #[.string ⟨#[105]⟩, .slice p m c, .int .i64 1, .int .i64 1, .int .i64 0]] w fun e w' => MadeF (newK w.heap.size w') (.atom [105]) e w' ∧ Below w.heap.size w w' := by
  have hwf : (Tr.atom [105]).wf := (okAt_one (by decide)).1
  have CN : Hid (∀ (d : UInt8) W, Below w.heap.size w W → Calls Try.prog 61 #[.agg #[.string ⟨#[105]⟩, .slice p m c, .int .i64 1, .int .i64 1, .int .i64 0], .string ⟨#[d]⟩] W fun e w' => e = .returned (.tuple #[.agg #[.string ⟨#[]⟩, .slice none 0 0, .int .i64 0, .int .i64 0, .int .i64 0], .agg #[.string ⟨#[]⟩, .slice none 0 0, .int .i64 0, .int .i64 0, .int .i64 0], .bool false]) ∧ Below W.heap.size W w') :=
    Lib.hid (fun d W hW => sides_no_v (c := d) W p m c ⟨#[105]⟩ 1 1 0 (by rw [isTy_atom]; rfl) hwf ((hv.below hW (fun k hk => hk)).wide (fun k hk => Nat.lt_of_lt_of_le hk hW.size)) (by rw [sidesTr_atom]) (fun v => rfl))
  have HNA : Hid (∀ W, Calls Try.prog 64 #[.string ⟨#[105]⟩] W fun e w' => e = .returned (.agg #[.string ⟨#[105]⟩, .slice none 0 0, .int .i64 1, .int .i64 1, .int .i64 0]) ∧ Below W.heap.size W w') := Lib.hid (fun W => newAtom_c ⟨#[105]⟩ W (show 1 ≤ 12000 by decide))
  have CN1 := Lib.hid (CN.out 62)
  have CN2 := Lib.hid (CN.out 42)
  clear CN hv hwf
  go_enter Try.func33, Try.ntmps33
  go_wp2_with (first | (go_at_call 61; first | ((with_reducible refine (CN1.out _ (below2 w _ _)).mono ?_); rintro e w0 ⟨rfl, hb0⟩; have hs0 := hb0.size; have y0 := below_blk hb0 (by simp) (heap_alloc_new2 w _ _); have x0 := below_blk hb0 (by simp; omega) (blk_alloc (heap_alloc_new w _)); have xc0 := fun o o2 => cell_of (j := 0) (blk_alloc (o' := o2) (blk_alloc (o' := o) x0)); have xc1 := fun o o2 => cell_of (j := 1) (blk_alloc (o' := o2) (blk_alloc (o' := o) x0)); have xc2 := fun o o2 => cell_of (j := 2) (blk_alloc (o' := o2) (blk_alloc (o' := o) x0)); have xc3 := fun o o2 => cell_of (j := 3) (blk_alloc (o' := o2) (blk_alloc (o' := o) x0)); have xc4 := fun o o2 => cell_of (j := 4) (blk_alloc (o' := o2) (blk_alloc (o' := o) x0)); have hlt0 : w.heap.size < w0.heap.size := (by simp at hs0; omega); have hB0 := (below2 w _ _).trans (hb0.mono (by simp; omega)); have hB0a := (hB0.alloc hB0.size (.cells #[.string ⟨#[]⟩, .slice none 0 0, .int .i64 0, .int .i64 0, .int .i64 0] 41)).alloc (Nat.le_trans hB0.size (by simp)) (.cells #[.string ⟨#[]⟩, .slice none 0 0, .int .i64 0, .int .i64 0, .int .i64 0] 41)) | ((with_reducible refine (CN2.out _ hB0a).mono ?_); rintro e w1 ⟨rfl, hb1⟩; have hs1 := hb1.size; have y1 := below_blk hb1 (by simp at hs0; simp; omega) (blk_alloc (blk_alloc y0)); have hB1 := hB0a.trans (hb1.mono hB0a.size))) | (go_at_call 64; go_must (refine (HNA.out _).mono ?_; rintro e w2 ⟨rfl, hb2⟩; have y2 := below_blk hb2 (by simp at hs0 hs1; simp; omega) (blk_alloc (blk_alloc y1)); have z0 := cell_of (j := 0) y2; have z1 := cell_of (j := 1) y2; have z2 := cell_of (j := 2) y2; have z3 := cell_of (j := 3) y2; have z4 := cell_of (j := 4) y2; have f0 := free_of (j := 0) y2; have f1 := free_of (j := 1) y2; have f2 := free_of (j := 2) y2; have f3 := free_of (j := 3) y2; have f4 := free_of (j := 4) y2; have hB2 := (Below.alloc (hB1.alloc hB1.size _) (Nat.le_trans hB1.size (by simp)) _).trans (hb2.mono (Nat.le_trans hB1.size (by simp; omega))))))
  have O := set5_same y2 (.string ⟨#[105]⟩) (.slice none 0 0) (.int .i64 1) (.int .i64 1) (.int .i64 0)
  have u0 := cell_of (j := 0) O
  have u1 := cell_of (j := 1) O
  have u2 := cell_of (j := 2) O
  have u3 := cell_of (j := 3) O
  have u4 := cell_of (j := 4) O
  refine bodyPost_ret (v := .agg #[.string ⟨#[105]⟩, .slice none 0 0, .int .i64 1, .int .i64 1, .int .i64 0]) (by simp [results, Try.results33, go_sem, u0, u1, u2, u3, u4]) rfl ⟨⟨none, 0, 0, rfl, by simp only [FV]⟩, ?_⟩
  exact set5 (B := w.heap.size) hB2 (by omega) _ _ _ _ _
theorem tf_all : ∀ n, TFc n
  | 0 => fun t _ _ _ _ h => by omega
  | n + 1 => fun t p m c w hd hty hwf hsz hv => by
    rcases isTy_view t hty with rfl | ⟨x, a, b, hx, rfl, ha, hb⟩
    · rw [tOf_atom]; exact tf_atom p m c w hv
    · obtain ⟨u, x1, x2, x3, -, -, -, -, hn⟩ := nI_named (tyT x a b)
      have e := hn (.slice none 0 0)
      simp only [nI, List.cons.injEq, Value.string.injEq, Value.int.injEq, true_and, and_true] at e
      rw [e.1, e.2.1, e.2.2.1, e.2.2.2]
      rcases hx with rfl | rfl
      · rw [tOf_fun]; exact tf_fun n (tf_all n) a b p m c w hd hty hwf hsz hv u x1 x2 x3 hn
      · rw [tOf_pair]; exact tf_pair n (tf_all n) a b p m c w hd hty hwf hsz hv u x1 x2 x3 hn
/-- What a function that tells a text, or none, hands back. -/
def TxtP (r : Option (List UInt8)) (e : Ending) : Prop := e = .returned (.tuple #[.string (bs (r.getD [])), .bool r.isSome])
def tofT (l : List UInt8) : Option (List UInt8) := (readTy l).map (fun t => (tOf t).text)
def tnextT (l : List UInt8) : Option (List UInt8) := (readTy l).map (fun t => (pk [tOf t]).text)
end Go.Proofs.Ytaoicbmepliklaa
