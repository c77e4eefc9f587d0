/- The program's orders. The program reads types; its answers that are numbers and bools. -/
import Derived.Test.YtndbdiccjmlegaaGreatDoorI1y
import Derived.Deep.RegionHeld3
namespace Go.Proofs.YtndbdiccjmlegaaGreatDoor
open Go.RowKit
set_option maxRecDepth 8000
set_option linter.unusedSimpArgs false
set_option linter.unusedVariables false
theorem fin_below {w w1 W : World} {p : Prop} (h : Below w.heap.size w w1) (k : Below w1.heap.size w1 W ∧ p) : Below w.heap.size w W := h.trans (k.1.mono h.size)
end Go.Proofs.YtndbdiccjmlegaaGreatDoor
namespace Go.Proofs.YtndbdiccjmlegaaGreatDoor
open Go.RowKit
set_option linter.unusedSimpArgs false
set_option linter.unusedVariables false
theorem readForm_none {s : ByteArray} (hs : s.size ≤ 1048576) (hp : parse s.data.toList = none) (W : World) : Calls Tryz.prog 45 #[.string s] W fun e w' => e = .returned (.tuple #[.agg #[.string ⟨#[]⟩, .slice none 0 0, .int .i64 0, .int .i64 0, .int .i64 0], .bool false]) ∧ Below W.heap.size W w' :=
  (readForm_c s hs W).mono fun e w' ⟨h1, h2⟩ => ⟨by rw [hp] at h1; exact h1, h2⟩
theorem readForm_some {s : ByteArray} (hs : s.size ≤ 1048576) {t : Tr} (hp : parse s.data.toList = some t) (W : World) : Calls Tryz.prog 45 #[.string s] W fun e w' => (∃ p n c, e = .returned (.tuple #[.agg #[.string (bs (atomOf t)), .slice p n c, .int .i64 t.bytes, .int .i64 t.size, .int .i64 t.depth], .bool true]) ∧ FV nI w' (fun k => W.heap.size ≤ k ∧ k < w'.heap.size) t (nI t (.slice p n c))) ∧ Below W.heap.size W w' :=
  (readForm_c s hs W).mono fun e w' ⟨h1, h2⟩ => ⟨by rw [hp] at h1; exact h1, h2⟩
/-- What reading a type hands back. -/
def TyPost (B : Nat) (res : Option Tr) (e : Ending) (w' : World) : Prop :=
  match res with
  | none => e = .returned (.tuple #[.agg #[.string ⟨#[]⟩, .slice none 0 0, .int .i64 0, .int .i64 0, .int .i64 0], .bool false])
  | some t => ∃ p n c, e = .returned (.tuple #[.agg #[.string (bs (atomOf t)), .slice p n c, .int .i64 t.bytes, .int .i64 t.size, .int .i64 t.depth], .bool true]) ∧ FV nI w' (fun k => B ≤ k ∧ k < w'.heap.size) t (nI t (.slice p n c))
set_option maxHeartbeats 1000000 in
theorem isTypeInLimit_c (t : Tr) (p : Option Addr) (n c : Nat) (ok : Nat → Prop) (w : World) (hwf : t.wf) (hsz : t.size ≤ 1000000000) (hv : FV nI w ok t (nI t (.slice p n c))) (hok : ∀ k, ok k → k < w.heap.size) :
    Calls Tryz.prog 120 #[.agg #[.string (bs (atomOf t)), .slice p n c, .int .i64 t.bytes, .int .i64 t.size, .int .i64 t.depth]] w fun e w' => e = .returned (.bool (isTy t && decide (t.size ≤ 16))) ∧ Below w.heap.size w w' := by
  have T : Hid (Calls Tryz.prog 147 #[.agg #[.string (bs (atomOf t)), .slice p n c, .int .i64 t.bytes, .int .i64 t.size, .int .i64 t.depth]] (w.alloc (.cells #[.string (bs (atomOf t)), .slice p n c, .int .i64 t.bytes, .int .i64 t.size, .int .i64 t.depth] 57)) fun e w' => e = .returned (.bool (isTy t)) ∧ Below (w.heap.size + 1) (w.alloc (.cells #[.string (bs (atomOf t)), .slice p n c, .int .i64 t.bytes, .int .i64 t.size, .int .i64 t.depth] 57)) w') :=
    Lib.hid ((isType_all (t.depth + 1) t p n c ok _ (by omega) hwf (hv.below (below1 w _) hok) (fun k hk => by have := hok k hk; simp; omega)).mono fun e w' ⟨h1, h2⟩ => ⟨h1, by simpa using h2⟩)
  by_cases h16 : t.size ≤ 16
  · have hd : decide ((t.size : Int) ≤ 16) = true := by simp; omega
    have HF : Hid ((isTy t && decide (t.size ≤ 16)) = isTy t) := Lib.hid (by simp [h16])
    clear hv
    go_enter Tryz.func120, Tryz.ntmps120
    go_wp2_with (go_at_call 147; go_must (refine T.out.mono ?_; rintro e w2 ⟨rfl, hb2⟩))
    go_ret
    exact ⟨by rw [HF.out]; rfl, (below1 w _).trans (hb2.mono (by omega))⟩
  · have hd : decide ((t.size : Int) ≤ 16) = false := by simp; omega
    have HF : Hid ((isTy t && decide (t.size ≤ 16)) = false) := Lib.hid (by simp; omega)
    clear hv T
    go_enter Tryz.func120, Tryz.ntmps120
    go_wp2_with fail
    go_ret
    exact ⟨by rw [HF.out]; rfl, below1 w _⟩
end Go.Proofs.YtndbdiccjmlegaaGreatDoor
