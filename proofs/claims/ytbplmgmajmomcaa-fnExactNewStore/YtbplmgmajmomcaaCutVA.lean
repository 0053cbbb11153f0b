/- What the program's cutting of one value answers where there is one. -/
import Derived.Test.YtbplmgmajmomcaaCut
namespace Go.Proofs.Ytbplmgmajmomcaa
open Go.RowKit
set_option linter.unusedVariables false

end Go.Proofs.Ytbplmgmajmomcaa
