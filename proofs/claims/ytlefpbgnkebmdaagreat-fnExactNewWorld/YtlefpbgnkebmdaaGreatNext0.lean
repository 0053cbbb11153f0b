/- What the specification's cutting of one value answers, case by case. -/
import Derived.Test.YtlefpbgnkebmdaaGreatSpec
namespace Go.Proofs.YtlefpbgnkebmdaaGreat
open Go.RowKit
set_option linter.unusedVariables false

theorem minus_ext (s : ByteArray) (a b : Nat) (h : 1 + b ≤ s.size) : (s.extract 1 s.size).extract a b = s.extract (1 + a) (1 + b) := by
  rw [ByteArray.extract_extract]; congr 1; omega

end Go.Proofs.YtlefpbgnkebmdaaGreat
