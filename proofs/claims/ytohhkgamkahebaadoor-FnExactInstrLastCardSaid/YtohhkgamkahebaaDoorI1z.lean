/- The program's orders. The program reads types; its answers that are numbers and bools. -/
import Derived.Test.YtohhkgamkahebaaDoorI1y
import Derived.Deep.RegionHeld3
namespace Go.Proofs.YtohhkgamkahebaaDoor
open Go.RowKit
set_option maxRecDepth 8000
set_option linter.unusedSimpArgs false
set_option linter.unusedVariables false
theorem fin_below {w w1 W : World} {p : Prop} (h : Below w.heap.size w w1) (k : Below w1.heap.size w1 W ∧ p) : Below w.heap.size w W := h.trans (k.1.mono h.size)
end Go.Proofs.YtohhkgamkahebaaDoor
namespace Go.Proofs.YtohhkgamkahebaaDoor
open Go.RowKit
set_option linter.unusedSimpArgs false
set_option linter.unusedVariables false
theorem readForm_none {s : ByteArray} (hs : s.size ≤ 1048576) (hp : parse s.data.toList = none) (W : World) : Calls Tryd.prog 18 #[.string s] W fun e w' => e = .returned (.tuple #[.agg #[.string ⟨#[]⟩, .slice none 0 0, .int .i64 0, .int .i64 0, .int .i64 0], .bool false]) ∧ Below W.heap.size W w' :=
  (readForm_c s hs W).mono fun e w' ⟨h1, h2⟩ => ⟨by rw [hp] at h1; exact h1, h2⟩
theorem readForm_some {s : ByteArray} (hs : s.size ≤ 1048576) {t : Tr} (hp : parse s.data.toList = some t) (W : World) : Calls Tryd.prog 18 #[.string s] W fun e w' => (∃ p n c, e = .returned (.tuple #[.agg #[.string (bs (atomOf t)), .slice p n c, .int .i64 t.bytes, .int .i64 t.size, .int .i64 t.depth], .bool true]) ∧ FV nI w' (fun k => W.heap.size ≤ k ∧ k < w'.heap.size) t (nI t (.slice p n c))) ∧ Below W.heap.size W w' :=
  (readForm_c s hs W).mono fun e w' ⟨h1, h2⟩ => ⟨by rw [hp] at h1; exact h1, h2⟩
/-- What reading a type hands back. -/
def TyPost (B : Nat) (res : Option Tr) (e : Ending) (w' : World) : Prop :=
  match res with
  | none => e = .returned (.tuple #[.agg #[.string ⟨#[]⟩, .slice none 0 0, .int .i64 0, .int .i64 0, .int .i64 0], .bool false])
  | some t => ∃ p n c, e = .returned (.tuple #[.agg #[.string (bs (atomOf t)), .slice p n c, .int .i64 t.bytes, .int .i64 t.size, .int .i64 t.depth], .bool true]) ∧ FV nI w' (fun k => B ≤ k ∧ k < w'.heap.size) t (nI t (.slice p n c))
end Go.Proofs.YtohhkgamkahebaaDoor
