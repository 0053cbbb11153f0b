/- What the two functions that tell the order of values answer, for every two values. -/
import Derived.Test.YtmchpaccdnnilaaOrdK
namespace Go.Proofs.Ytmchpaccdnnilaa
open Go.RowKit
set_option linter.unusedVariables false

def ordP (a b : Val) : Int × Int := if okB a = true ∧ okB b = true then (ordV 5 a b, 0) else (0, 1)
set_option maxRecDepth 4000 in
set_option maxHeartbeats 1000000 in
theorem implOrder_bad1 (k n k' n' : Int) (t t' : ByteArray) (w : World) (hs : t.size ≤ 1048576) (hs' : t'.size ≤ 1048576) (h1 : okB ⟨k, n, t⟩ = false) :
    Calls Try.prog 6 #[.agg #[.int .i64 k, .int .i64 n, .string t], .agg #[.int .i64 k', .int .i64 n', .string t']] w fun e w' => e = .returned (.tuple #[.int .i64 0, .int .i64 1]) ∧ Below w.heap.size w w' := by
  have X0 := Two.start w (.int .i64 k) (.int .i64 n) (.string t) (.int .i64 k') (.int .i64 n') (.string t') 24
  go_enter Try.func6, Try.ntmps6
  go_wp2_with (first | (go_at_call_of 18 (Value.string t); refine (valueOK_any k n t _ (by unfold maxLen; omega)).mono ?_; rintro e w1 ⟨rfl, hb⟩; rw [h1]; have X := Two.step (by assumption) hb; have g0 := X.c0; have g1 := X.c1; have g2 := X.c2; have f0 := X.d0; have f1 := X.d1; have f2 := X.d2; clear hb))
  go_ret2
  exact ⟨rfl, X.bel⟩
set_option maxRecDepth 4000 in
set_option maxHeartbeats 1000000 in
theorem implOrder_bad2 (k n k' n' : Int) (t t' : ByteArray) (w : World) (hs : t.size ≤ 1048576) (hs' : t'.size ≤ 1048576) (h1 : okB ⟨k, n, t⟩ = true) (h2 : okB ⟨k', n', t'⟩ = false) :
    Calls Try.prog 6 #[.agg #[.int .i64 k, .int .i64 n, .string t], .agg #[.int .i64 k', .int .i64 n', .string t']] w fun e w' => e = .returned (.tuple #[.int .i64 0, .int .i64 1]) ∧ Below w.heap.size w w' := by
  have X0 := Two.start w (.int .i64 k) (.int .i64 n) (.string t) (.int .i64 k') (.int .i64 n') (.string t') 24
  go_enter Try.func6, Try.ntmps6
  go_wp2_with (first | (go_at_call_of 18 (Value.string t); refine (valueOK_any k n t _ (by unfold maxLen; omega)).mono ?_; rintro e w1 ⟨rfl, hb⟩; rw [h1]; have X := Two.step (by assumption) hb; have g0 := X.c0; have g1 := X.c1; have g2 := X.c2; have f0 := X.d0; have f1 := X.d1; have f2 := X.d2; clear hb) | (go_at_call_of 18 (Value.string t'); refine (valueOK_any k' n' t' _ (by unfold maxLen; omega)).mono ?_; rintro e w2 ⟨rfl, hb⟩; rw [h2]; have X := Two.step (by assumption) hb; have g0 := X.c0; have g1 := X.c1; have g2 := X.c2; have f0 := X.d0; have f1 := X.d1; have f2 := X.d2; clear hb))
  go_ret2
  exact ⟨rfl, X.bel⟩
set_option maxRecDepth 4000 in
set_option maxHeartbeats 1000000 in
theorem implOrder_ok (k n k' n' : Int) (t t' : ByteArray) (w : World) (hs : t.size ≤ 1048576) (hs' : t'.size ≤ 1048576) (h1 : okB ⟨k, n, t⟩ = true) (h2 : okB ⟨k', n', t'⟩ = true) :
    Calls Try.prog 6 #[.agg #[.int .i64 k, .int .i64 n, .string t], .agg #[.int .i64 k', .int .i64 n', .string t']] w fun e w' => e = .returned (.tuple #[.int .i64 (ordV 5 ⟨k, n, t⟩ ⟨k', n', t'⟩), .int .i64 0]) ∧ Below w.heap.size w w' := by
  have X0 := Two.start w (.int .i64 k) (.int .i64 n) (.string t) (.int .i64 k') (.int .i64 n') (.string t') 24
  go_enter Try.func6, Try.ntmps6
  go_wp2_with (first | (go_at_call_of 18 (Value.string t); refine (valueOK_any k n t _ (by unfold maxLen; omega)).mono ?_; rintro e w1 ⟨rfl, hb⟩; rw [h1]; have X := Two.step (by assumption) hb; have g0 := X.c0; have g1 := X.c1; have g2 := X.c2; have f0 := X.d0; have f1 := X.d1; have f2 := X.d2; clear hb) | (go_at_call_of 18 (Value.string t'); refine (valueOK_any k' n' t' _ (by unfold maxLen; omega)).mono ?_; rintro e w2 ⟨rfl, hb⟩; rw [h2]; have X := Two.step (by assumption) hb; have g0 := X.c0; have g1 := X.c1; have g2 := X.c2; have f0 := X.d0; have f1 := X.d1; have f2 := X.d2; clear hb) | (go_at_call 19; refine (compare_at 5 ⟨k, n, t⟩ ⟨k', n', t'⟩ _ hs hs' h1 h2).mono ?_; rintro e w3 ⟨rfl, hb⟩; have X := Two.step (by assumption) hb; have g0 := X.c0; have g1 := X.c1; have g2 := X.c2; have f0 := X.d0; have f1 := X.d1; have f2 := X.d2; clear hb))
  go_ret2
  exact ⟨rfl, X.bel⟩
theorem implOrder_any (k n k' n' : Int) (t t' : ByteArray) (w : World) (hs : t.size ≤ 1048576) (hs' : t'.size ≤ 1048576) :
    Calls Try.prog 6 #[.agg #[.int .i64 k, .int .i64 n, .string t], .agg #[.int .i64 k', .int .i64 n', .string t']] w fun e w' => e = .returned (.tuple #[.int .i64 (ordP ⟨k, n, t⟩ ⟨k', n', t'⟩).1, .int .i64 (ordP ⟨k, n, t⟩ ⟨k', n', t'⟩).2]) ∧ Below w.heap.size w w' := by
  cases h1 : okB ⟨k, n, t⟩
  · have e : ordP ⟨k, n, t⟩ ⟨k', n', t'⟩ = (0, 1) := by unfold ordP; rw [if_neg (by simp [h1])]
    rw [e]; exact implOrder_bad1 k n k' n' t t' w hs hs' h1
  · cases h2 : okB ⟨k', n', t'⟩
    · have e : ordP ⟨k, n, t⟩ ⟨k', n', t'⟩ = (0, 1) := by unfold ordP; rw [if_neg (by simp [h2])]
      rw [e]; exact implOrder_bad2 k n k' n' t t' w hs hs' h1 h2
    · have e : ordP ⟨k, n, t⟩ ⟨k', n', t'⟩ = (ordV 5 ⟨k, n, t⟩ ⟨k', n', t'⟩, 0) := by unfold ordP; rw [if_pos ⟨h1, h2⟩]
      rw [e]; exact implOrder_ok k n k' n' t t' w hs hs' h1 h2
end Go.Proofs.Ytmchpaccdnnilaa
