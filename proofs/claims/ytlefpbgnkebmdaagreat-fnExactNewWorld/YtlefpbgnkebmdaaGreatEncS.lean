/- How the specification lays a value into bytes. -/
import Derived.Test.YtlefpbgnkebmdaaGreatEnc
import Derived.Test.YtlefpbgnkebmdaaGreatUnder
import Derived.Test.YtlefpbgnkebmdaaGreatLawVal
import Derived.Lib.AppendStr
namespace Go.Proofs.YtlefpbgnkebmdaaGreat
open Go.RowKit
set_option linter.unusedVariables false

def bytesI (t : ByteArray) : List Int := t.data.toList.map fun c => (c.toNat : Int)
/-- A value's bytes. -/
def encB (v : Val) : List Int :=
  numB v.k 1 ++ (if v.k = 0 then [] else if v.k = 1 then numB v.n 1 else if v.k = 2 then numB (v.n + 4611686018427387904) 8 else numB v.t.size 2 ++ bytesI v.t)
theorem txt_append (a b : List Int) : txt (a ++ b) = txt a ++ txt b := by
  apply ByteArray.ext; simp [txt, strOfNums]
theorem txt_bytes (t : ByteArray) : txt (bytesI t) = t := by
  apply ByteArray.ext
  simp [txt, strOfNums, bytesI, Function.comp_def]
theorem bytesI_len (t : ByteArray) : (bytesI t).length = t.size := by unfold bytesI; simp
theorem txt_size (zs : List Int) : (txt zs).size = zs.length := strOfNums_size zs
theorem numB_len (n : Int) (wd : Nat) : (numB n wd).length = wd := numK_len _ _ _

end Go.Proofs.YtlefpbgnkebmdaaGreat
