/- What the specification's cutting of one value answers, for every text. -/
import Derived.Test.YtaohljkmnojiiaaDoorNext0
namespace Go.Proofs.YtaohljkmnojiiaaDoor
open Go.RowKit
set_option linter.unusedVariables false

end Go.Proofs.YtaohljkmnojiiaaDoor
