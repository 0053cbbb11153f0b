/- What the laws' taking of a byte out of a code answers. -/
import Derived.Test.YtmchpaccdnnilaaDrawS
namespace Go.Proofs.Ytmchpaccdnnilaa
open Go.RowKit
set_option linter.unusedVariables false

end Go.Proofs.Ytmchpaccdnnilaa
