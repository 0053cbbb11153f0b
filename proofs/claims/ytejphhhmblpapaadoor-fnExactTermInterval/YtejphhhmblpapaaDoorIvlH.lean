/- What an interval has: the program's and the specification's answer, for every interval and text. -/
import Derived.Test.YtejphhhmblpapaaDoorLawVal
import Derived.Test.YtejphhhmblpapaaDoorFits
namespace Go.Proofs.YtejphhhmblpapaaDoor
open Go.RowKit
set_option linter.unusedVariables false

/-- An interval of texts. -/
structure Ivl where
  lo : ByteArray
  hi : ByteArray
  op : Bool
def hasI (i : Ivl) (key : ByteArray) : Bool := (Op.bytesLess i.lo.toList key.toList || i.lo.toList == key.toList) && (i.op || Op.bytesLess key.toList i.hi.toList)
def hasP (i : Ivl) (key : ByteArray) : Bool := decide (key.size ≤ 65536) && hasI i key

end Go.Proofs.YtejphhhmblpapaaDoor
