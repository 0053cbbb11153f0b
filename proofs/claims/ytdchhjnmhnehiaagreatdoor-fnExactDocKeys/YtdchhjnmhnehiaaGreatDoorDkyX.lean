/- What the frame of the law on a document's keys leans on. -/
import Derived.Test.YtdchhjnmhnehiaaGreatDoorDkyL
import Derived.Test.YtdchhjnmhnehiaaGreatDoorDefX
import Derived.Test.YtdchhjnmhnehiaaGreatDoorDefO
namespace Go.Proofs.YtdchhjnmhnehiaaGreatDoor
end Go.Proofs.YtdchhjnmhnehiaaGreatDoor
