/- The program puts a closed expression for a name. -/
import Derived.Test.YtibiennbjegomaaDoorImpl2w
namespace Go.Proofs.YtibiennbjegomaaDoor
open Go.RowKit
set_option maxRecDepth 8000
set_option linter.unusedSimpArgs false
set_option linter.unusedVariables false
end Go.Proofs.YtibiennbjegomaaDoor
