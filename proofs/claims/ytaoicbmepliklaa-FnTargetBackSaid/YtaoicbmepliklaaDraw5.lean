/- The reference's draws: a form or another text; a type or another text. -/
import Derived.Test.YtaoicbmepliklaaDraw4
namespace Go.Proofs.Ytaoicbmepliklaa
open Go.RowKit
set_option maxRecDepth 8000
set_option linter.unusedSimpArgs false
set_option linter.unusedVariables false
def oddTails : List (List UInt8) := [[41], [32], [40], [65], []]
def oddTexts : List (List UInt8) := [[], [40, 41], [40, 32, 97, 41], [40, 97, 32, 41], [40, 97, 32, 32, 98, 41], [97, 32, 98], [40, 97]]
/-- What a drawn text's function answers. -/
def DTx (w : World) (e : Ending) (w' : World) : Prop := (∃ s : ByteArray, e = .returned (.string s) ∧ s.size ≤ 2000) ∧ Below w.heap.size w w'
theorem dtx_of {q : Nat} {a : Option Addr} {L c p : Nat} {zs : List Int} {N M : Nat} {w w1 w' : World} {e : Ending} (hb : Below w.heap.size w w1) (hq : w.heap.size ≤ q) (h : DrPost q a L c p zs N M w1 e w') (hN : N ≤ 2000) : DTx w e w' := by
  obtain ⟨s, p', rfl, h2, h3, h4, h5⟩ := h
  exact ⟨⟨s, rfl, by omega⟩, Only.fresh hb h5 hq hb.size⟩
end Go.Proofs.Ytaoicbmepliklaa
