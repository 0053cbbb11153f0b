/- The law's own walk. -/
import Derived.Test.YtkafanjfjplakaaGreatDoorInsY
import Derived.Test.YtkafanjfjplakaaGreatDoorRows
import Derived.Test.YtkafanjfjplakaaGreatDoorTie
import Derived.Test.YtkafanjfjplakaaGreatDoorCards
import Derived.LaidMore
import Derived.Lay
import Derived.Stop.Joined
import Derived.SevenTiedAt
import Derived.ProofKit
import Derived.OpenShut
import Derived.ShutString
import Derived.ChangeOld
import Derived.Below
import Derived.Lib.SmallJoins
namespace Go.Proofs.YtkafanjfjplakaaGreatDoor
open Go.ChangeShapes Go.WideShapes Go.ChangeAt Go.RowKit Go.Joins
open Go.ChangeMaps (open_string shut_string)
set_option linter.unusedVariables false
namespace CollInsf
open Tr Co


end CollInsf
end Go.Proofs.YtkafanjfjplakaaGreatDoor
