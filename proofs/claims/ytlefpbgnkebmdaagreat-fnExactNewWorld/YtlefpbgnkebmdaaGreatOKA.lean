/- What the specification's test of a value answers for values that hold no others. -/
import Derived.Test.YtlefpbgnkebmdaaGreatFields
import Derived.Test.YtlefpbgnkebmdaaGreatFitsY
namespace Go.Proofs.YtlefpbgnkebmdaaGreat
open Go.RowKit
set_option linter.unusedVariables false

end Go.Proofs.YtlefpbgnkebmdaaGreat
