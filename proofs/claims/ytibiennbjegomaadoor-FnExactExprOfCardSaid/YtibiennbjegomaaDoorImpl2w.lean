/- The program changes the kids of an expression by a closure. -/
import Derived.Test.YtibiennbjegomaaDoorImpl2u
import Derived.Deep.RegionHeldLaw
namespace Go.Proofs.YtibiennbjegomaaDoor
open Go.RowKit
set_option maxRecDepth 8000
set_option linter.unusedSimpArgs false
set_option linter.unusedVariables false
/-- A closed expression put for the free places of a name. -/
def putE (name : Nm) (b : Ex) : Ex → Ex
  | .name s => if s = name then b else .name s
  | .num n => .num n
  | .two o x y => .two o (putE name b x) (putE name b y)
  | .one o x => .one o (putE name b x)
  | .cond x y z => .cond (putE name b x) (putE name b y) (putE name b z)
  | .lete s x y => .lete s (putE name b x) (if s = name then y else putE name b y)
  | .func f a A B x => .func f a A B (if f = name ∨ a = name then x else putE name b x)
theorem EV.on {B : Nat} {w w' : World} {x : Ex} {v : Value} (h : EV w (fun k => k < B) x v) (hB : B ≤ w.heap.size) (hb : Below w.heap.size w w') : EV w' (fun k => k < B) x v := h.below hb (fun k hk => Nat.lt_of_lt_of_le hk hB)
end Go.Proofs.YtibiennbjegomaaDoor
