/- Trees made out of the laws' own, and trees held against each other: what the laws' helpers answer. -/
import Derived.Test.YtlefpbgnkebmdaaGreatTrP
namespace Go.Proofs.YtlefpbgnkebmdaaGreat.Tr
open Go.RowKit
set_option linter.unusedVariables false

end Go.Proofs.YtlefpbgnkebmdaaGreat.Tr
