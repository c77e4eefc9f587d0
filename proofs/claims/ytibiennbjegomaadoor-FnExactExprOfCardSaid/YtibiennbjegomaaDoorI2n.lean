/- The program's free places: let, fun. The program's free places: all. The program's free names, each once; its counting and its closed expressions. -/
import Derived.Test.YtibiennbjegomaaDoorImpl2ma
import Derived.Deep.RegionHeldLaw
namespace Go.Proofs.YtibiennbjegomaaDoor
open Go.RowKit
set_option maxRecDepth 8000
set_option linter.unusedSimpArgs false
set_option linter.unusedVariables false
theorem fpPost_of {w w1 : World} {P : List Nm} {e : Ending} {w' : World} (h : Below w.heap.size w w1) (hp : FpPost w1 P e w') : FpPost w P e w' := by
  obtain ⟨⟨v, rfl, ho⟩, hb⟩ := hp
  exact ⟨⟨v, rfl, owns_base ho h.size⟩, h.trans (hb.mono h.size)⟩
theorem fun_end {w W w4 : World} {v2 v4 : Value} {Q : List Nm} {base n : Nat} {xs : List Value} (kW : Below w.heap.size w W) (hb : w.heap.size ≤ base) (ho2 : W.ownsRow base 9 1 v2 n xs) (hg : W.grownBy w4 v2.ownBlock) (ho4 : w4.ownsRow base 9 1 v4 Q.length (Q.map strV)) : FpPost w Q (.returned v4) w4 :=
  ⟨⟨v4, rfl, owns_base ho4 hb⟩, below_grown2 kW (Below.refl _ _) hg (fun k hk => by have := (own_lt ho2 hk).1; omega)⟩
end Go.Proofs.YtibiennbjegomaaDoor
namespace Go.Proofs.YtibiennbjegomaaDoor
open Go.RowKit
set_option maxRecDepth 8000
end Go.Proofs.YtibiennbjegomaaDoor
namespace Go.Proofs.YtibiennbjegomaaDoor
open Go.RowKit
set_option maxRecDepth 8000
set_option linter.unusedSimpArgs false
set_option linter.unusedVariables false
structure FnInv (w1 : World) (l : List Nm) (v1 : Value) (wr : World) : Prop where
  own : wr.ownsRow w1.heap.size 9 1 v1 l.length (l.map strV)
  below : Below w1.heap.size w1 wr
theorem FnInv.fin {w w1 wr : World} {l : List Nm} {v1 : Value} (h : FnInv w1 l v1 wr) (hb1 : Below w.heap.size w w1) : FpPost w l (.returned v1) wr := ⟨⟨_, rfl, owns_base h.own hb1.size⟩, hb1.trans (h.below.mono hb1.size)⟩
theorem strS_keep {w w' : World} {v : Value} {l : List Nm} (h : StrS w v l) (hb : Below w.heap.size w w') : StrS w' v l := by
  obtain ⟨p, c, rfl, h1, h2⟩ := h
  refine ⟨p, c, rfl, h1, fun hne => ?_⟩
  obtain ⟨r, off, rfl, h3⟩ := h2 hne
  refine ⟨r, off, rfl, h3.move (hb.block r ?_)⟩
  cases l with
  | nil => exact absurd rfl hne
  | cons x l =>
    have hc := h3 0 (strV x) (by simp)
    by_cases hr : r < w.heap.size
    · exact hr
    · simp [World.cell?, Array.getElem?_eq_none (Nat.le_of_not_lt hr)] at hc
end Go.Proofs.YtibiennbjegomaaDoor
