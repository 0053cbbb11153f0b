/- What the specification's cutting of one value answers, for every text. -/
import Derived.Test.YtbplmgmajmomcaaNext0
namespace Go.Proofs.Ytbplmgmajmomcaa
open Go.RowKit
set_option linter.unusedVariables false

end Go.Proofs.Ytbplmgmajmomcaa
