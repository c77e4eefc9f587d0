/- The program's numerals. -/
import Derived.Test.YtibiennbjegomaaDoorNumS
import Derived.Test.YtibiennbjegomaaDoorShelf
import Derived.Lib.SmallJoins
import Derived.Deep.QuietTactic
import Derived.BigQuiet
namespace Go.Proofs.YtibiennbjegomaaDoor
open Go.RowKit
set_option maxRecDepth 8000
set_option linter.unusedSimpArgs false
set_option linter.unusedVariables false
theorem below_bytes (w : World) (e : TypeId) (s : ByteArray) : Below w.heap.size w (Lib.bytesWorld w e s) := Go.Joins.below_bytesWorld _ _ _ _ (Nat.le_refl _)
theorem numPost_shape (r : Option Int) : ∃ x z, ∀ e, NumPost r e → e = .returned (.tuple #[.int .i64 x, .bool z]) := ⟨_, _, fun e h => h⟩
end Go.Proofs.YtibiennbjegomaaDoor
