/- What the specification's depth of a value answers, for every right value. -/
import Derived.Test.YtmchpaccdnnilaaDepthM
namespace Go.Proofs.Ytmchpaccdnnilaa
open Go.RowKit
set_option linter.unusedVariables false

end Go.Proofs.Ytmchpaccdnnilaa
