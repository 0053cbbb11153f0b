/- What the specification's way along a path answers, for every right value. -/
import Derived.Test.YtejphhhmblpapaaDoorGetM
import Derived.Test.YtejphhhmblpapaaDoorSplitS
import Derived.Test.YtejphhhmblpapaaDoorRowF
import Derived.Test.YtejphhhmblpapaaDoorListA
import Derived.Deep.RegionWith
namespace Go.Proofs.YtejphhhmblpapaaDoor
open Go.RowKit
set_option linter.unusedVariables false

/-- A value, and whether it is there. -/
def fieldR (nm : ByteArray) (l : List Fld) : Val × Bool := match fieldV nm l with | none => (zv, false) | some x => (x, true)
theorem fieldR_none (nm : ByteArray) (l : List Fld) (h : fieldV nm l = none) : fieldR nm l = (zv, false) := by unfold fieldR; rw [h]
theorem fieldR_some (nm : ByteArray) (l : List Fld) (x : Val) (h : fieldV nm l = some x) : fieldR nm l = (x, true) := by unfold fieldR; rw [h]

end Go.Proofs.YtejphhhmblpapaaDoor
