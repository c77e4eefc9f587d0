/- The program reads 'fun'. -/
import Derived.Test.YtibiennbjegomaaDoorI2a
import Derived.Test.YtibiennbjegomaaDoorI1z
import Derived.Test.YtibiennbjegomaaDoorB1
import Derived.BigRegion
import Derived.Deep.CutRange
namespace Go.Proofs.YtibiennbjegomaaDoor
open Go.RowKit
set_option maxRecDepth 8000
set_option linter.unusedSimpArgs false
set_option linter.unusedVariables false
theorem kid_I {w : World} {ok : Nat → Prop} {ts : List Tr} {xs : List Value} {r off : Nat} (h6 : FVs nI w ok ts xs) (h5 : hasRow w r off xs) (i : Nat) (hi : i < ts.length) :
    ∃ p m c, FV nI w ok ts[i] (nI ts[i] (.slice p m c)) ∧ (w.cell? ⟨r, off + i * 5, none⟩ = some (.string (bs (atomOf ts[i]))) ∧ w.cell? ⟨r, off + i * 5 + 1, none⟩ = some (.slice p m c) ∧ w.cell? ⟨r, off + i * 5 + 2, none⟩ = some (.int .i64 ts[i].bytes) ∧ w.cell? ⟨r, off + i * 5 + 3, none⟩ = some (.int .i64 ts[i].size) ∧ w.cell? ⟨r, off + i * 5 + 4, none⟩ = some (.int .i64 ts[i].depth)) := by
  obtain ⟨cs, g1, g2⟩ := FVs.get nI_len h6 h5 i hi
  obtain ⟨p, pn, pc, rfl⟩ := g1.node
  exact ⟨p, pn, pc, g1, g2 0 _ rfl, g2 1 _ rfl, g2 2 _ rfl, g2 3 _ rfl, g2 4 _ rfl⟩
end Go.Proofs.YtibiennbjegomaaDoor
