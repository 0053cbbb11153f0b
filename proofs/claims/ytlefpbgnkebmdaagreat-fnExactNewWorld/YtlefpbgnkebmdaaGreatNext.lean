/- What the specification's cutting of one value answers, for every text. -/
import Derived.Test.YtlefpbgnkebmdaaGreatNext0
namespace Go.Proofs.YtlefpbgnkebmdaaGreat
open Go.RowKit
set_option linter.unusedVariables false

end Go.Proofs.YtlefpbgnkebmdaaGreat
