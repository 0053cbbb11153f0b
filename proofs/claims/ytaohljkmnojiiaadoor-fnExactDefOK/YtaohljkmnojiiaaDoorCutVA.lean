/- What the program's cutting of one value answers where there is one. -/
import Derived.Test.YtaohljkmnojiiaaDoorCut
namespace Go.Proofs.YtaohljkmnojiiaaDoor
open Go.RowKit
set_option linter.unusedVariables false

end Go.Proofs.YtaohljkmnojiiaaDoor
