/- A copy of a text is the same text, in new memory; so is a value with it. -/
import Derived.Test.YtdchhjnmhnehiaaGreatDoorRowV
import Derived.Test.YtdchhjnmhnehiaaGreatDoorEncI
import Derived.Lib.Walk
import Derived.Lib.BufferWrite
import Derived.Lib.UnsafeStr
import Derived.Laws.MakeOwn
namespace Go.Proofs.YtdchhjnmhnehiaaGreatDoor
open Go.RowKit
set_option linter.unusedVariables false

theorem list_of_bytes (s : ByteArray) : (⟨s.data.toList.toArray⟩ : ByteArray) = s := by cases s; simp
end Go.Proofs.YtdchhjnmhnehiaaGreatDoor
