/- The law's own walk. -/
import Derived.Test.YtdchhjnmhnehiaaGreatDoorDkyX
import Derived.Test.YtdchhjnmhnehiaaGreatDoorRows
import Derived.Test.YtdchhjnmhnehiaaGreatDoorTie
import Derived.Test.YtdchhjnmhnehiaaGreatDoorCards
import Derived.LaidMore
import Derived.Lay
import Derived.Stop.Joined
import Derived.SevenTiedAt
import Derived.ProofKit
import Derived.OpenShut
import Derived.ShutString
import Derived.ChangeOld
import Derived.Below
import Derived.Lib.SmallJoins
namespace Go.Proofs.YtdchhjnmhnehiaaGreatDoor
open Go.ChangeShapes Go.WideShapes Go.ChangeAt Go.RowKit Go.Joins
open Go.ChangeMaps (open_string shut_string)
set_option linter.unusedVariables false
namespace DefKeysf
open Tr

theorem walk (n : ByteArray) (a : Option Addr) (cap : Nat) (l : List Prt) (hn : n.size ≤ maxLen) (hl : l.length ≤ maxLen) (hs : ∀ v ∈ l, maxPt v) (k m : Int) (t : ByteArray) (ht : t.size ≤ maxLen) (_ : (Lit.int .i64 k).wf = true) (_ : (Lit.int .i64 m).wf = true) (w : World) (hin : InD w a l) :
    Calls Tryz.prog 4 #[.agg #[.string n, .slice a l.length cap], .agg #[.int .i64 k, .int .i64 m, .string t]] w fun e w' => e = .returned (.bool true) ∧ Below w.heap.size w w' :=
  Dk.lawDK n a cap l hn hl hs k m t ht w hin

end DefKeysf
end Go.Proofs.YtdchhjnmhnehiaaGreatDoor
