/- Trees made out of the laws' own, and trees held against each other: what the laws' helpers answer. -/
import Derived.Test.YtbplmgmajmomcaaTrP
namespace Go.Proofs.Ytbplmgmajmomcaa.Tr
open Go.RowKit
set_option linter.unusedVariables false

end Go.Proofs.Ytbplmgmajmomcaa.Tr
