/- Lists of texts: are two the same, is a text in one? -/
import Derived.Test.YtaoicbmepliklaaS1z
import Derived.OwnWalk
namespace Go.Proofs.Ytaoicbmepliklaa
open Go.RowKit
set_option maxRecDepth 8000
set_option linter.unusedSimpArgs false
set_option linter.unusedVariables false
end Go.Proofs.Ytaoicbmepliklaa
