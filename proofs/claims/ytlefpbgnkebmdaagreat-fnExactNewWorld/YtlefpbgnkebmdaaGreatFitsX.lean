/- What the program's test of a value answers, for every value and every depth: documents, and the whole. -/
import Derived.Test.YtlefpbgnkebmdaaGreatFitsW
namespace Go.Proofs.YtlefpbgnkebmdaaGreat
open Go.RowKit
set_option linter.unusedVariables false

end Go.Proofs.YtlefpbgnkebmdaaGreat
