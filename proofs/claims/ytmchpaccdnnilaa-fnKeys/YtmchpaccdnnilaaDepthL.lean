/- What the two functions that tell a value's depth answer, for every value. -/
import Derived.Test.YtmchpaccdnnilaaDepthI
import Derived.Test.YtmchpaccdnnilaaDepthS
import Derived.Test.YtmchpaccdnnilaaLawVal
namespace Go.Proofs.Ytmchpaccdnnilaa
open Go.RowKit
set_option linter.unusedVariables false

end Go.Proofs.Ytmchpaccdnnilaa
