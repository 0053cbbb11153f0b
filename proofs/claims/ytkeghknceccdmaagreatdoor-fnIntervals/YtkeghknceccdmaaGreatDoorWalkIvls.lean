/- The law's own walk. -/
import Derived.Test.YtkeghknceccdmaaGreatDoorIvlY
import Derived.Test.YtkeghknceccdmaaGreatDoorRows
import Derived.Test.YtkeghknceccdmaaGreatDoorTie
import Derived.Test.YtkeghknceccdmaaGreatDoorCards
import Derived.LaidMore
import Derived.Lay
import Derived.Stop.Joined
import Derived.SevenTiedAt
import Derived.ProofKit
import Derived.OpenShut
import Derived.ShutString
import Derived.ChangeOld
import Derived.Below
import Derived.Lib.SmallJoins
namespace Go.Proofs.YtkeghknceccdmaaGreatDoor
open Go.ChangeShapes Go.WideShapes Go.ChangeAt Go.RowKit Go.Joins
open Go.ChangeMaps (open_string shut_string)
set_option linter.unusedVariables false
namespace IvlLaw


theorem walk (x : Option Addr) (cap : Nat) (zs : List Int) (hm : zs.length ≤ maxLen) (hb : ∀ i, i < zs.length → 0 ≤ zs.getD i 0 ∧ zs.getD i 0 < 256) (x' : Option Addr) (cap' : Nat) (zs' : List Int) (hm' : zs'.length ≤ maxLen) (hb' : ∀ i, i < zs'.length → 0 ≤ zs'.getD i 0 ∧ zs'.getD i 0 < 256) (w : World) (hin : InB w x zs) (hin' : InB w x' zs') :
    Calls Tryz.prog 3 #[.slice x zs.length cap, .slice x' zs'.length cap'] w fun e w' => e = .returned (.bool true) ∧ Below w.heap.size w w' :=
  lawIntervals x x' cap cap' zs zs' w hin hin' hb hb' hm hm'

end IvlLaw
end Go.Proofs.YtkeghknceccdmaaGreatDoor
