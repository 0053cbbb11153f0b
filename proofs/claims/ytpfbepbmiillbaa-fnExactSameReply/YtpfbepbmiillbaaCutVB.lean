/- What the program's cutting of one value answers where there is none. -/
import Derived.Test.YtpfbepbmiillbaaCut
namespace Go.Proofs.Ytpfbepbmiillbaa
open Go.RowKit
set_option linter.unusedVariables false

end Go.Proofs.Ytpfbepbmiillbaa
