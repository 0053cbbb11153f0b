/- What the calls about names answer, for every text: the small byte tests, and the two functions that ask whether a text is a name. -/
import Derived.Test.YtpfbepbmiillbaaProg
import Derived.WalkKit
import Derived.WalkSpells
import Derived.WalkLawsBesides
namespace Go.Proofs.Ytpfbepbmiillbaa
open Go.RowKit

def digB (n : Int) : Bool := decide (48 ≤ n ∧ n ≤ 57)
def letB (n : Int) : Bool := decide ((97 ≤ n ∧ n ≤ 122) ∨ (65 ≤ n ∧ n ≤ 90) ∨ n = 95)
def ldB (n : Int) : Bool := letB n || digB n
theorem ret_bool {a b : Bool} (h : a = b) : Ending.returned (.bool a) = .returned (.bool b) := by rw [h]
theorem let_of (n : Int) : ldB n = true → digB n = false → letB n = true := by
  unfold ldB; intro h k; simpa [k] using h
theorem dig_of_let (n : Int) (h : letB n = true) : digB n = false := by
  unfold letB at h; unfold digB; simp at *; omega

end Go.Proofs.Ytpfbepbmiillbaa
