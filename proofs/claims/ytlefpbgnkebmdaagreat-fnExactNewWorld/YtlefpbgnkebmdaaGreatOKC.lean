/- What the specification's test of a value answers for documents. -/
import Derived.Test.YtlefpbgnkebmdaaGreatUnder
namespace Go.Proofs.YtlefpbgnkebmdaaGreat
open Go.RowKit
set_option linter.unusedVariables false

theorem rise_drop (p : Val → Bool) (m : ByteArray) (l : List Fld) (k : Nat) (h : k < l.length) :
    riseAll p m (l.drop k) = (shortB l[k].name && ltB m l[k].name && p l[k].v && riseAll p l[k].name (l.drop (k + 1))) := by
  rw [List.drop_eq_getElem_cons h]; rfl

end Go.Proofs.YtlefpbgnkebmdaaGreat
