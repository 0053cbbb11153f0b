/- What the specification's test of a value answers for values that hold no others. -/
import Derived.Test.YtbplmgmajmomcaaFields
import Derived.Test.YtbplmgmajmomcaaFitsY
namespace Go.Proofs.Ytbplmgmajmomcaa
open Go.RowKit
set_option linter.unusedVariables false

end Go.Proofs.Ytbplmgmajmomcaa
