/- What the program's ListOf answers, for every row of values. -/
import Derived.Test.YtkeghknceccdmaaGreatDoorListS
import Derived.Test.YtkeghknceccdmaaGreatDoorDepthI
namespace Go.Proofs.YtkeghknceccdmaaGreatDoor
open Go.RowKit
set_option linter.unusedVariables false

end Go.Proofs.YtkeghknceccdmaaGreatDoor
