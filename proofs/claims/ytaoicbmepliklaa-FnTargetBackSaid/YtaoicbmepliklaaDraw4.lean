/- The reference's draws: forms and texts. -/
import Derived.Test.YtaoicbmepliklaaDraw3
import Derived.Deep.LoopGhost
namespace Go.Proofs.Ytaoicbmepliklaa
open Go.RowKit
set_option maxRecDepth 8000
set_option linter.unusedSimpArgs false
set_option linter.unusedVariables false
end Go.Proofs.Ytaoicbmepliklaa
