/- Rows of texts made by the laws' helper, with what owns them. -/
import Derived.Test.YtlefpbgnkebmdaaGreatRowS
import Derived.Test.YtlefpbgnkebmdaaGreatStrM
namespace Go.Proofs.YtlefpbgnkebmdaaGreat.Ns
open Go.RowKit Tr
set_option linter.unusedVariables false

end Go.Proofs.YtlefpbgnkebmdaaGreat.Ns
