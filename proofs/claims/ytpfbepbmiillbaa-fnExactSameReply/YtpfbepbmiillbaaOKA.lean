/- What the specification's test of a value answers for values that hold no others. -/
import Derived.Test.YtpfbepbmiillbaaFields
import Derived.Test.YtpfbepbmiillbaaFitsY
namespace Go.Proofs.Ytpfbepbmiillbaa
open Go.RowKit
set_option linter.unusedVariables false

end Go.Proofs.Ytpfbepbmiillbaa
