/- The law's own walk. -/
import Derived.Test.YtkeghknceccdmaaGreatDoorFtxD
import Derived.Test.YtkeghknceccdmaaGreatDoorOpenF
import Derived.ChangeVars
import Derived.WalkSmall
import Derived.Test.YtkeghknceccdmaaGreatDoorRows
import Derived.Test.YtkeghknceccdmaaGreatDoorTie
import Derived.Test.YtkeghknceccdmaaGreatDoorCards
import Derived.LaidMore
import Derived.Lay
import Derived.Stop.Joined
import Derived.SevenTiedAt
import Derived.ProofKit
import Derived.OpenShut
import Derived.ShutString
import Derived.ChangeOld
import Derived.Below
import Derived.Lib.SmallJoins
namespace Go.Proofs.YtkeghknceccdmaaGreatDoor
open Go.ChangeShapes Go.WideShapes Go.ChangeAt Go.RowKit Go.Joins
open Go.ChangeMaps (open_string shut_string)
set_option linter.unusedVariables false
namespace FtxLaw


theorem tab_of_laid {W : World} (h : laidMetH Tryz.prog Rows.fnExactFilterTextRow.laid W) : Lib.TabIs Tryz.prog W "internal/strconv.uint64pow10" .u64 Lib.pow10Tab ∧ Wds W.heap.size W := ⟨tabT_of_laid h, wds_of h⟩
theorem walk (a : Option Addr) (cap : Nat) (f : List (List Trm)) (hl : f.length ≤ maxLen) (hs : ∀ l ∈ f, maxC l) (w : World) (htab : Lib.TabIs Tryz.prog w "internal/strconv.uint64pow10" .u64 Lib.pow10Tab ∧ Wds w.heap.size w) (hin : InCl w a f) :
    Calls Tryz.prog 4 #[.agg #[.slice a f.length cap]] w fun e w' => e = .returned (.bool true) ∧ Below w.heap.size w w' :=
  lawFT a cap f hl hs w (Lib.tabBelow_of_tabIs htab.1) htab.2 hin

end FtxLaw
end Go.Proofs.YtkeghknceccdmaaGreatDoor
