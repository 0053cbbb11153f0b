/- Trees made out of the laws' own, and trees held against each other: what the laws' helpers answer. -/
import Derived.Test.YtkafanjfjplakaaGreatDoorTrP
namespace Go.Proofs.YtkafanjfjplakaaGreatDoor.Tr
open Go.RowKit
set_option linter.unusedVariables false

end Go.Proofs.YtkafanjfjplakaaGreatDoor.Tr
