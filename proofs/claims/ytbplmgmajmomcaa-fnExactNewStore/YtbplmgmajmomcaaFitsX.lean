/- What the program's test of a value answers, for every value and every depth: documents, and the whole. -/
import Derived.Test.YtbplmgmajmomcaaFitsW
namespace Go.Proofs.Ytbplmgmajmomcaa
open Go.RowKit
set_option linter.unusedVariables false

end Go.Proofs.Ytbplmgmajmomcaa
