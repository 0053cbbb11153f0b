/- What the program's cutting of one value answers where there is none. -/
import Derived.Test.YtlefpbgnkebmdaaGreatCut
namespace Go.Proofs.YtlefpbgnkebmdaaGreat
open Go.RowKit
set_option linter.unusedVariables false

end Go.Proofs.YtlefpbgnkebmdaaGreat
