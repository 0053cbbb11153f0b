/- What the specification's cutting of one value answers, for every text. -/
import Derived.Test.YtpfbepbmiillbaaNext0
namespace Go.Proofs.Ytpfbepbmiillbaa
open Go.RowKit
set_option linter.unusedVariables false

end Go.Proofs.Ytpfbepbmiillbaa
