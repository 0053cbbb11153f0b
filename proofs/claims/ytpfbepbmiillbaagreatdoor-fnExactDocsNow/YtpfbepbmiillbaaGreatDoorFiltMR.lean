/- What holding a document to a filter answers, by the program and by the specification, for every right filter and document. -/
import Derived.Test.YtpfbepbmiillbaaGreatDoorOpenTR
import Derived.Test.YtpfbepbmiillbaaGreatDoorOrdKR
import Derived.Test.YtpfbepbmiillbaaGreatDoorChgVR
import Derived.Test.YtpfbepbmiillbaaGreatDoorTwcIR
import Derived.WalkMore
import Derived.RangeFuncFrom
import Derived.Deep.RegionHeld3
namespace Go.Proofs.YtpfbepbmiillbaaGreatDoor
open Go.RowKit
set_option linter.unusedVariables false

end Go.Proofs.YtpfbepbmiillbaaGreatDoor

/- Whether a read hangs on a change: what both sides answer. -/
namespace Go.Proofs.YtpfbepbmiillbaaGreatDoor.Ce
open Go.RowKit Tr Co Rea
set_option linter.unusedVariables false

end Go.Proofs.YtpfbepbmiillbaaGreatDoor.Ce

/- The places of the pairs that are bound, in their order. -/
namespace Go.Proofs.YtpfbepbmiillbaaGreatDoor.Ce
open Go.RowKit Go.Shelf Tr Co Rea
set_option linter.unusedVariables false

end Go.Proofs.YtpfbepbmiillbaaGreatDoor.Ce

/- The pairs of reads and changes that are bound: the iterator's walk. -/
namespace Go.Proofs.YtpfbepbmiillbaaGreatDoor.Ce
open Go.RowKit Go.Shelf Tr Co Rea
set_option linter.unusedVariables false
attribute [local go_sem] Oper.semAt_some

end Go.Proofs.YtpfbepbmiillbaaGreatDoor.Ce

/- Whether some read hangs on some change: the program's loop over the pairs. -/
namespace Go.Proofs.YtpfbepbmiillbaaGreatDoor.Ce
open Go.RowKit Go.Shelf Tr Co Rea
set_option linter.unusedVariables false
attribute [local go_sem] Oper.semAt_some

end Go.Proofs.YtpfbepbmiillbaaGreatDoor.Ce

/- Whether some read hangs on some change: the specification's answer; whether one must come ahead of another: both answers. -/
namespace Go.Proofs.YtpfbepbmiillbaaGreatDoor.Ce
open Go.RowKit Go.ChangeShapes Go.WideShapes Go.ChangeAt Go.Joins Tr Co Rea
set_option linter.unusedVariables false

set_option maxRecDepth 4000 in
set_option maxHeartbeats 1000000 in
theorem isPivot_any (xs xt : Int) (xr xc : Value) (xi xo : Bool) (w : World) :
    Calls Tryz.prog 77 #[.agg #[.int .i64 xs, .int .i64 xt, xr, xc, .bool xi, .bool xo]] w fun e w' => e = .returned (.bool (xi && xo)) ∧ Below w.heap.size w w' := by
  have hb0 : Below w.heap.size w (w.alloc (.cells #[.int .i64 xs, .int .i64 xt, xr, xc, .bool xi, .bool xo] 81)) := (Below.refl _ _).alloc (Nat.le_refl _) _
  cases xi
  all_goals
    go_enter Tryz.func77, Tryz.ntmps77
    go_wp2_with fail
    go_ret
    exact ⟨rfl, hb0⟩

end Go.Proofs.YtpfbepbmiillbaaGreatDoor.Ce
