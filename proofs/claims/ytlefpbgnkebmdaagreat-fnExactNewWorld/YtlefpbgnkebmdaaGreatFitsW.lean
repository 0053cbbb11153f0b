/- What the program's test of a value answers, for every value and every depth. -/
import Derived.Test.YtlefpbgnkebmdaaGreatCutVA
import Derived.Test.YtlefpbgnkebmdaaGreatCutVB
import Derived.Test.YtlefpbgnkebmdaaGreatFits
namespace Go.Proofs.YtlefpbgnkebmdaaGreat
open Go.RowKit
set_option linter.unusedVariables false

theorem bcell {W w1 : World} (hb : Below W.heap.size W w1) : (∀ b o, b < W.heap.size → w1.cell? ⟨b, o, none⟩ = W.cell? ⟨b, o, none⟩) ∧ (∀ b o, b < W.heap.size → w1.frozen? ⟨b, o, none⟩ = W.frozen? ⟨b, o, none⟩) :=
  ⟨fun b o h => hb.cell (p := ⟨b, o, none⟩) h, fun b o h => hb.frozen (p := ⟨b, o, none⟩) h⟩

set_option maxHeartbeats 400000 in
theorem shortNameOK_any (s : ByteArray) (w : World) (hs : s.size ≤ maxLen) :
    Calls Tryz.prog 23 #[.string s] w fun e w' => e = .returned (.bool (shortB s)) ∧ w' = w := by
  by_cases h : s.size ≤ 12
  · have e : shortB s = nameB s := by unfold shortB; simp [h]
    rw [e]; clear e
    go_enter Tryz.func23, Tryz.ntmps23
    go_wp2_with (go_at_call 45; refine (nameOK_any _ _ hs).mono ?_; rintro e w' ⟨rfl, rfl⟩)
    go_ret
    exact ⟨rfl, rfl⟩
  · have e : shortB s = false := by unfold shortB; simp [h]
    rw [e]; clear e
    go_enter Tryz.func23, Tryz.ntmps23
    go_wp2_with fail
    go_ret
    exact ⟨rfl, rfl⟩

end Go.Proofs.YtlefpbgnkebmdaaGreat
