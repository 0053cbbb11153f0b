/- The law's own walk. -/
import Derived.Test.YtpfbepbmiillbaaGreatDoorDnsOQ
import Derived.Test.YtpfbepbmiillbaaGreatDoorRows
import Derived.Test.YtpfbepbmiillbaaGreatDoorTie
import Derived.Test.YtpfbepbmiillbaaGreatDoorCards
import Derived.LaidMore
import Derived.Lay
import Derived.Stop.Joined
import Derived.SevenTiedAt
import Derived.ProofKit
import Derived.OpenShut
import Derived.ShutString
import Derived.ChangeOld
import Derived.Below
import Derived.Lib.SmallJoins
namespace Go.Proofs.YtpfbepbmiillbaaGreatDoor
open Go.ChangeShapes Go.WideShapes Go.ChangeAt Go.RowKit Go.Joins
open Go.ChangeMaps (open_string shut_string)
set_option linter.unusedVariables false
namespace StoreOKf



end StoreOKf
end Go.Proofs.YtpfbepbmiillbaaGreatDoor
