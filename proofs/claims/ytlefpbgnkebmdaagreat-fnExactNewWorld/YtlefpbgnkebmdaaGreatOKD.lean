/- What the specification's test of a value answers, for every value of at most 1048576 bytes. -/
import Derived.Test.YtlefpbgnkebmdaaGreatOKC
namespace Go.Proofs.YtlefpbgnkebmdaaGreat
open Go.RowKit
set_option linter.unusedVariables false

theorem ok_big (v : Val) (h : 300 < v.t.size) : okB v = false := fits_big 5 v h

end Go.Proofs.YtlefpbgnkebmdaaGreat
