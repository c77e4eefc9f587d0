/- The program's free places: all. The program's free names, each once; its counting and its closed expressions. -/
import Derived.Test.YtgliggljegghhaaDoorImpl2m
namespace Go.Proofs.YtgliggljegghhaaDoor
open Go.RowKit
set_option maxRecDepth 8000
end Go.Proofs.YtgliggljegghhaaDoor
namespace Go.Proofs.YtgliggljegghhaaDoor
open Go.RowKit
set_option linter.unusedSimpArgs false
set_option linter.unusedVariables false
structure FnInv (w1 : World) (l : List Nm) (v1 : Value) (wr : World) : Prop where
  own : wr.ownsRow w1.heap.size 9 1 v1 l.length (l.map strV)
  below : Below w1.heap.size w1 wr
theorem FnInv.fin {w w1 wr : World} {l : List Nm} {v1 : Value} (h : FnInv w1 l v1 wr) (hb1 : Below w.heap.size w w1) : FpPost w l (.returned v1) wr := ⟨⟨_, rfl, owns_base h.own hb1.size⟩, hb1.trans (h.below.mono hb1.size)⟩
theorem strS_keep {w w' : World} {v : Value} {l : List Nm} (h : StrS w v l) (hb : Below w.heap.size w w') : StrS w' v l := by
  obtain ⟨p, c, rfl, h1, h2⟩ := h
  refine ⟨p, c, rfl, h1, fun hne => ?_⟩
  obtain ⟨r, off, rfl, h3⟩ := h2 hne
  refine ⟨r, off, rfl, h3.move (hb.block r ?_)⟩
  cases l with
  | nil => exact absurd rfl hne
  | cons x l =>
    have hc := h3 0 (strV x) (by simp)
    by_cases hr : r < w.heap.size
    · exact hr
    · simp [World.cell?, Array.getElem?_eq_none (Nat.le_of_not_lt hr)] at hc
end Go.Proofs.YtgliggljegghhaaDoor
