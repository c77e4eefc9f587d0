/- The reference model's orders, and its functions that answer numbers and bools. -/
import Derived.Test.YtlinjnflhpldfaaGreatDoorSpec1d
import Derived.Test.YtlinjnflhpldfaaGreatDoorLawA
namespace Go.Proofs.YtlinjnflhpldfaaGreatDoor
open Go.RowKit
set_option maxRecDepth 8000
set_option linter.unusedSimpArgs false
set_option linter.unusedVariables false
set_option maxHeartbeats 400000 in
theorem l1Typed_c (t : Tr) (p : Option Addr) (m c : Nat) (ok : Nat → Prop) (w : World) (hwf : t.wf) (hb : t.bytes ≤ 1000000000) (hv : FV nS w ok t (nS t (.slice p m c))) (hok : ∀ k, ok k → k < w.heap.size) :
    Calls Tryz.prog 77 #[.agg #[.string (bs (atomOf t)), .slice p m c]] w fun e w' => e = .returned (.bool (isTy t && decide (t.size ≤ 16))) ∧ Below w.heap.size w w' := by
  have hs := (size_le t hwf).1
  have C1 : Hid (∀ W, Below w.heap.size w W → Calls Tryz.prog 99 #[.agg #[.string (bs (atomOf t)), .slice p m c]] W fun e w' => e = .returned (.bool (isTy t)) ∧ Below W.heap.size W w') :=
    Lib.hid (fun W hW => l1Type_c (t.depth + 1) t _ ok W (by omega) hwf (hv.below hW hok) (fun j hj => Nat.lt_of_lt_of_le (hok j hj) hW.size))
  have C2 : Hid (∀ W, Below w.heap.size w W → Calls Tryz.prog 56 #[.agg #[.string (bs (atomOf t)), .slice p m c]] W fun e w' => e = .returned (.int .i64 t.size) ∧ Below W.heap.size W w') :=
    Lib.hid (fun W hW => l1Size_c (t.depth + 1) t _ ok W (by omega) hwf hb (hv.below hW hok) (fun j hj => Nat.lt_of_lt_of_le (hok j hj) hW.size))
  clear hv
  cases ht : isTy t with
  | false =>
    rw [ht] at C1
    go_enter Tryz.func77, Tryz.ntmps77
    go_wp2_with (go_at_call 99; go_must (refine (C1.out _ (below1 _ _)).mono ?_; rintro e w1 ⟨rfl, hb1⟩))
    go_ret
    exact ⟨rfl, (below1 w _).trans (hb1.mono (by simp))⟩
  | true =>
    rw [ht] at C1
    go_enter Tryz.func77, Tryz.ntmps77
    go_wp2_with (first | (go_at_call 99; go_must (refine (C1.out _ (below1 _ _)).mono ?_; rintro e w1 ⟨rfl, hb1⟩; have hw1 := (below1 w _).trans (hb1.mono (by simp)); have c1 := below_blk hb1 (by simp) (heap_alloc_new _ _); have d0 := cell_of (j := 0) c1; have d1 := cell_of (j := 1) c1)) | (go_at_call 56; go_must (refine (C2.out _ hw1).mono ?_; rintro e w2 ⟨rfl, hb2⟩)))
    go_ret
    exact ⟨ret_bool (by rw [Bool.eq_iff_iff]; simp; omega), hw1.trans (hb2.mono hw1.size)⟩

end Go.Proofs.YtlinjnflhpldfaaGreatDoor
