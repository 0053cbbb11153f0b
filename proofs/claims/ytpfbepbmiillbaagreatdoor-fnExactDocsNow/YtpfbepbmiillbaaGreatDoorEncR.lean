/- How the program and the specification lay numbers into bytes. -/
import Derived.Test.YtpfbepbmiillbaaGreatDoorOKCQ
import Derived.Laws.BytesArg
import Derived.Laws.OwnMore
import Derived.Maps.AppendAt
import Derived.Maps.Range
import Derived.Test.YtpfbepbmiillbaaGreatDoorOKAQ
import Derived.Test.YtpfbepbmiillbaaGreatDoorFindMR
import Derived.Lib.AppendStr
import Derived.Laws.IdiomStrings
import Derived.Test.YtpfbepbmiillbaaGreatDoorInQ
namespace Go.Proofs.YtpfbepbmiillbaaGreatDoor
open Go.RowKit
set_option linter.unusedVariables false

def rowE (zs : List Int) : List Value := zs.map (Value.int .u8)
/-- The byte of a number that j others stand behind. -/
def nb (n : Int) (j : Nat) : Int := n / 2 ^ (8 * j) % 256
/-- The first k of a number's wd bytes. -/
def numK (n : Int) (wd k : Nat) : List Int := (List.range k).map fun j => nb n (wd - 1 - j)
def numB (n : Int) (wd : Nat) : List Int := numK n wd wd
/-- The text that numbers are, a byte each. -/
def txt (zs : List Int) : ByteArray := strOfNums zs
end Go.Proofs.YtpfbepbmiillbaaGreatDoor

/- How the specification lays a value into bytes. -/
namespace Go.Proofs.YtpfbepbmiillbaaGreatDoor
open Go.RowKit
set_option linter.unusedVariables false

theorem txt_size (zs : List Int) : (txt zs).size = zs.length := strOfNums_size zs
end Go.Proofs.YtpfbepbmiillbaaGreatDoor

/- How the program lays a value into bytes. -/
namespace Go.Proofs.YtpfbepbmiillbaaGreatDoor
open Go.RowKit
set_option linter.unusedVariables false

theorem heap_size_alloc (w : World) (o : Obj) : (w.alloc o).heap.size = w.heap.size + 1 := by simp
end Go.Proofs.YtpfbepbmiillbaaGreatDoor

/- Which kinds right values are of, and how a right value is laid into bytes. -/
namespace Go.Proofs.YtpfbepbmiillbaaGreatDoor
open Go.RowKit
set_option linter.unusedVariables false

end Go.Proofs.YtpfbepbmiillbaaGreatDoor

/- Values are read back from their bytes, said plainly: nothing of the program is used here. -/
namespace Go.Proofs.YtpfbepbmiillbaaGreatDoor
open Go.RowKit
set_option linter.unusedVariables false

end Go.Proofs.YtpfbepbmiillbaaGreatDoor

/- A right value fits a depth just if it is no deeper; lists and documents made of right values; nothing of the program is used here. -/
namespace Go.Proofs.YtpfbepbmiillbaaGreatDoor
open Go.RowKit
set_option linter.unusedVariables false

end Go.Proofs.YtpfbepbmiillbaaGreatDoor
