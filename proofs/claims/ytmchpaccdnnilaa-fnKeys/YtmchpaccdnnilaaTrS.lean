/- What the specification's test of entries and of trees answers. -/
import Derived.Test.YtmchpaccdnnilaaTrQ
namespace Go.Proofs.Ytmchpaccdnnilaa.Tr
open Go.RowKit
set_option linter.unusedVariables false

theorem lessE_def (k k' : ByteArray) (i i' : Int) : lessE ⟨k, i⟩ ⟨k', i'⟩ = (Op.bytesLess k.toList k'.toList || (k.toList == k'.toList && decide (i < i'))) := rfl
set_option maxHeartbeats 1000000 in
theorem in_any (x a b : Int) (w : World) : Calls Try.prog 84 #[.int .i64 x, .int .i64 a, .int .i64 b] w fun e w' => e = .returned (.bool (decide (a ≤ x) && decide (x ≤ b))) ∧ w' = w := by
  by_cases h1 : a ≤ x <;> by_cases h2 : x ≤ b
  all_goals
    simp only [h1, h2, decide_true, decide_false, Bool.true_and, Bool.false_and]
    go_enter Try.func84, Try.ntmps84
    go_wp2_with fail
    go_ret
    exact ⟨rfl, rfl⟩

end Go.Proofs.Ytmchpaccdnnilaa.Tr
