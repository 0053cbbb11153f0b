/- What the program's order of values answers, for every two right values. -/
import Derived.Test.YtdchhjnmhnehiaaGreatDoorOrdJ
import Derived.Test.YtdchhjnmhnehiaaGreatDoorOrdT
import Derived.Deep.RegionWith
namespace Go.Proofs.YtdchhjnmhnehiaaGreatDoor
open Go.RowKit
set_option linter.unusedVariables false

end Go.Proofs.YtdchhjnmhnehiaaGreatDoor
