/- The program's free places: let, fun. -/
import Derived.Test.YtgliggljegghhaaDoorImpl2ma
import Derived.Deep.RegionHeldLaw
namespace Go.Proofs.YtgliggljegghhaaDoor
open Go.RowKit
set_option maxRecDepth 8000
set_option linter.unusedSimpArgs false
set_option linter.unusedVariables false
theorem fpPost_of {w w1 : World} {P : List Nm} {e : Ending} {w' : World} (h : Below w.heap.size w w1) (hp : FpPost w1 P e w') : FpPost w P e w' := by
  obtain ⟨⟨v, rfl, ho⟩, hb⟩ := hp
  exact ⟨⟨v, rfl, owns_base ho h.size⟩, h.trans (hb.mono h.size)⟩
theorem fun_end {w W w4 : World} {v2 v4 : Value} {Q : List Nm} {base n : Nat} {xs : List Value} (kW : Below w.heap.size w W) (hb : w.heap.size ≤ base) (ho2 : W.ownsRow base 9 1 v2 n xs) (hg : W.grownBy w4 v2.ownBlock) (ho4 : w4.ownsRow base 9 1 v4 Q.length (Q.map strV)) : FpPost w Q (.returned v4) w4 :=
  ⟨⟨v4, rfl, owns_base ho4 hb⟩, below_grown2 kW (Below.refl _ _) hg (fun k hk => by have := (own_lt ho2 hk).1; omega)⟩
end Go.Proofs.YtgliggljegghhaaDoor
