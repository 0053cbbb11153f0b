/- What the two functions that tell a value's depth answer, for every value. -/
import Derived.Test.YtgjknfbkkfidbaaDepthI
import Derived.Test.YtgjknfbkkfidbaaDepthS
import Derived.Test.YtgjknfbkkfidbaaLawVal
namespace Go.Proofs.Ytgjknfbkkfidbaa
open Go.RowKit
set_option linter.unusedVariables false

set_option maxHeartbeats 400000 in
theorem depth_bad (k n : Int) (t : ByteArray) (w : World) (hs : t.size ≤ maxLen) (hok : okB ⟨k, n, t⟩ = false) :
    Calls Try.prog 12 #[.agg #[.int .i64 k, .int .i64 n, .string t]] w fun e w' => e = .returned (.tuple #[.int .i64 0, .int .i64 1]) ∧ Below w.heap.size w w' := by
  go_enter Try.func12, Try.ntmps12
  go_wp2_with (go_at_call 9; refine (valueOK_any k n t _ hs).mono ?_; rintro e w1 ⟨rfl, hb⟩; rw [hok])
  go_ret2
  exact ⟨rfl, ((Below.refl _ _).alloc (Nat.le_refl _) _).trans (hb.mono (by simp))⟩
set_option maxHeartbeats 400000 in
theorem depth_ok (k n : Int) (t : ByteArray) (w : World) (hs : t.size ≤ 1048576) (hok : okB ⟨k, n, t⟩ = true) :
    Calls Try.prog 12 #[.agg #[.int .i64 k, .int .i64 n, .string t]] w fun e w' => e = .returned (.tuple #[.int .i64 (depthV 5 ⟨k, n, t⟩), .int .i64 0]) ∧ Below w.heap.size w w' := by
  have hm : t.size ≤ maxLen := by unfold maxLen; omega
  have X0 := Boxed.start w (.int .i64 k) (.int .i64 n) (.string t) 24
  go_enter Try.func12, Try.ntmps12
  go_wp2_with (first | (go_at_call 9; refine (valueOK_any k n t _ hm).mono ?_; rintro e w1 ⟨rfl, hb⟩; rw [hok]; have X := Boxed.step (by assumption) hb; have g0 := X.c0; have g1 := X.c1; have g2 := X.c2; clear hb) | (go_at_call 33; refine (depthOf_at 5 (by omega) ⟨k, n, t⟩ _ hs hok).mono ?_; rintro e w2 ⟨rfl, hb⟩; have X := Boxed.step (by assumption) hb; have g0 := X.c0; have g1 := X.c1; have g2 := X.c2; clear hb))
  go_ret2
  exact ⟨rfl, X.bel⟩
set_option maxHeartbeats 400000 in
theorem specDepth_bad (k n : Int) (t : ByteArray) (w : World) (hs : t.size ≤ 1048576) (hok : okB ⟨k, n, t⟩ = false) :
    Calls Try.prog 13 #[.agg #[.int .i64 k, .int .i64 n, .string t]] w fun e w' => e = .returned (.tuple #[.int .i64 0, .int .i64 1]) ∧ Below w.heap.size w w' := by
  go_enter Try.func13, Try.ntmps13
  go_wp2_with (go_at_call 29; refine (specValueOK_any k n t _ hs).mono ?_; rintro e w1 ⟨rfl, hb⟩; rw [hok])
  go_ret2
  exact ⟨rfl, ((Below.refl _ _).alloc (Nat.le_refl _) _).trans (hb.mono (by simp))⟩
set_option maxHeartbeats 400000 in
theorem specDepth_ok (k n : Int) (t : ByteArray) (w : World) (hs : t.size ≤ 1048576) (hok : okB ⟨k, n, t⟩ = true) :
    Calls Try.prog 13 #[.agg #[.int .i64 k, .int .i64 n, .string t]] w fun e w' => e = .returned (.tuple #[.int .i64 (depthV 5 ⟨k, n, t⟩), .int .i64 0]) ∧ Below w.heap.size w w' := by
  have X0 := Boxed.start w (.int .i64 k) (.int .i64 n) (.string t) 24
  go_enter Try.func13, Try.ntmps13
  go_wp2_with (first | (go_at_call 29; refine (specValueOK_any k n t _ hs).mono ?_; rintro e w1 ⟨rfl, hb⟩; rw [hok]; have X := Boxed.step (by assumption) hb; have g0 := X.c0; have g1 := X.c1; have g2 := X.c2; clear hb) | (go_at_call 34; refine (l01Depth_at 5 (by omega) ⟨k, n, t⟩ _ hs hok).mono ?_; rintro e w2 ⟨rfl, hb⟩; have X := Boxed.step (by assumption) hb; have g0 := X.c0; have g1 := X.c1; have g2 := X.c2; clear hb))
  go_ret2
  exact ⟨rfl, X.bel⟩

end Go.Proofs.Ytgjknfbkkfidbaa
