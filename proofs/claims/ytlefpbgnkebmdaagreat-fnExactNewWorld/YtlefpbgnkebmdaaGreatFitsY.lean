/- What the program's test of a value answers, for every value. -/
import Derived.Test.YtlefpbgnkebmdaaGreatFitsX
namespace Go.Proofs.YtlefpbgnkebmdaaGreat
open Go.RowKit
set_option linter.unusedVariables false

theorem base_null (n : Int) (t : ByteArray) : base ⟨0, n, t⟩ = decide (n = 0 ∧ t.size = 0) := rfl
theorem base_bool (n : Int) (t : ByteArray) : base ⟨1, n, t⟩ = decide (0 ≤ n ∧ n ≤ 1 ∧ t.size = 0) := rfl
theorem base_int (n : Int) (t : ByteArray) : base ⟨2, n, t⟩ = decide (-1000000000000 ≤ n ∧ n ≤ 1000000000000 ∧ t.size = 0) := rfl
theorem base_text (n : Int) (t : ByteArray) : base ⟨3, n, t⟩ = decide (n = 0 ∧ t.size ≤ 300) := rfl
/-- The value is right. -/
def okB (v : Val) : Bool := fits 5 v

end Go.Proofs.YtlefpbgnkebmdaaGreat
