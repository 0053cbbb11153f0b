/- The row's closed facts, one by one. -/
import Derived.Test.YtcggkeleaepebaaGreatDoorRows
import Derived.Test.YtcggkeleaepebaaGreatDoorTie
import Derived.Test.YtcggkeleaepebaaGreatDoorCards
import Derived.LaidMore
import Derived.Lay
import Derived.Stop.Joined
import Derived.SevenTiedAt
import Derived.ProofKit
import Derived.OpenShut
import Derived.ShutString
import Derived.ChangeOld
import Derived.Below
import Derived.Lib.SmallJoins
namespace Go.Proofs.YtcggkeleaepebaaGreatDoor
open Go.ChangeShapes Go.WideShapes Go.ChangeAt Go.RowKit Go.Joins
open Go.ChangeMaps (open_string shut_string)
set_option linter.unusedVariables false
set_option maxHeartbeats 16000000 in
theorem fnExactCleanDone_facts : joinedFacts Tryz.checked.prog 4 Tryz.f4 Rows.fnExactCleanDoneSpec Rows.fnExactCleanDoneRow = true := by
  unfold joinedFacts
  simp only [Bool.and_eq_true]
  repeat' apply And.intro
  all_goals as_aux_lemma => kernel_rfl
end Go.Proofs.YtcggkeleaepebaaGreatDoor
