/- The words of a term's operation, said plainly, and the specification's row of them. -/
import Derived.Test.YtkeghknceccdmaaGreatDoorFtxJ
namespace Go.Proofs.YtkeghknceccdmaaGreatDoor
open Go.RowKit
set_option linter.unusedVariables false

/-- The words of the operations, the first of them none's. -/
def words : List ByteArray := [⟨#[]⟩, ⟨#[101, 113]⟩, ⟨#[110, 101]⟩, ⟨#[108, 116]⟩, ⟨#[108, 116, 101]⟩, ⟨#[103, 116]⟩, ⟨#[103, 116, 101]⟩, ⟨#[105, 110]⟩, ⟨#[101, 120, 105, 115, 116, 115]⟩, ⟨#[116, 121, 112, 101]⟩, ⟨#[115, 105, 122, 101]⟩]
set_option maxRecDepth 4000 in
set_option maxHeartbeats 1000000 in
theorem l03Words_any (w : World) : Calls Tryz.prog 137 #[] w fun e w' => e = .returned (.slice (some ⟨w.heap.size, 0, none⟩) 11 11) ∧ ReadS w' w.heap.size 0 words ∧ Below w.heap.size w w' := by
  go_enter Tryz.func137, Tryz.ntmps137
  go_wp2_with fail
  go_ret
  refine ⟨rfl, ⟨by simp, fun i hi => ?_⟩, (Below.refl _ _).alloc (Nat.le_refl _) _⟩
  have hi' : i < 11 := hi
  rcases (show i = 0 ∨ i = 1 ∨ i = 2 ∨ i = 3 ∨ i = 4 ∨ i = 5 ∨ i = 6 ∨ i = 7 ∨ i = 8 ∨ i = 9 ∨ i = 10 by omega) with rfl | rfl | rfl | rfl | rfl | rfl | rfl | rfl | rfl | rfl | rfl <;> simp [go_sem, words]

end Go.Proofs.YtkeghknceccdmaaGreatDoor
