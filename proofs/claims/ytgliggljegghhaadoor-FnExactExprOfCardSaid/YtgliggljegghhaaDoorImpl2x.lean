/- The program puts a closed expression for a name. -/
import Derived.Test.YtgliggljegghhaaDoorImpl2w
namespace Go.Proofs.YtgliggljegghhaaDoor
open Go.RowKit
set_option maxRecDepth 8000
set_option linter.unusedSimpArgs false
set_option linter.unusedVariables false
end Go.Proofs.YtgliggljegghhaaDoor
