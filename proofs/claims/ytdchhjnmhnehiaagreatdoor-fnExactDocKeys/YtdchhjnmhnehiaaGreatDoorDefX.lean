/- What the law of definitions leans on, together. -/
import Derived.Test.YtdchhjnmhnehiaaGreatDoorDefO
import Derived.Test.YtdchhjnmhnehiaaGreatDoorDefS
import Derived.Deep.RegionHeld3
namespace Go.Proofs.YtdchhjnmhnehiaaGreatDoor.Tr

end Go.Proofs.YtdchhjnmhnehiaaGreatDoor.Tr
