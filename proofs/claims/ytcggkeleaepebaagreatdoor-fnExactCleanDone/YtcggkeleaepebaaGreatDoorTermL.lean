/- What the laws' own small helpers on terms answer. -/
import Derived.Test.YtcggkeleaepebaaGreatDoorTermW
namespace Go.Proofs.YtcggkeleaepebaaGreatDoor
open Go.RowKit
set_option linter.unusedVariables false

set_option maxRecDepth 4000 in
set_option maxHeartbeats 1000000 in
theorem szTerm_any (op : Int) (p : ByteArray) (k n : Int) (t : ByteArray) (c : Int) (w : World) (hp : p.size ≤ maxLen) (ht : t.size ≤ maxLen) (hc : 0 ≤ c) (hc2 : c ≤ 1048576) :
    Calls Tryz.prog 143 #[.agg #[.int .i64 op, .string p, .int .i64 k, .int .i64 n, .string t], .int .i64 c] w fun e w' => (∃ r : Int, e = .returned (.int .i64 r) ∧ (r < 0 ∨ (0 ≤ r ∧ r ≤ c ∧ p.size ≤ 1048576 ∧ t.size ≤ 1048576))) ∧ Below w.heap.size w w' := by
  have X0 := Box5.start w (.int .i64 op) (.string p) (.int .i64 k) (.int .i64 n) (.string t) 171
  unfold maxLen at hp
  by_cases h : c < p.size
  · go_enter Tryz.func143, Tryz.ntmps143
    go_wp2_with fail
    go_ret
    exact ⟨⟨-1, rfl, .inl (by omega)⟩, X0.bel⟩
  · go_enter Tryz.func143, Tryz.ntmps143
    go_wp2_with fail
    refine (szValue_any k n t _ _ ht (by omega) (by omega)).mono ?_
    rintro e w1 ⟨rfl, hb⟩
    have X1 := X0.step hb
    clear hb X0
    by_cases h2 : c - p.size < t.size
    · rw [if_pos h2]
      go_wp2_with fail
      go_ret
      exact ⟨⟨-1, rfl, .inl (by omega)⟩, X1.bel⟩
    · rw [if_neg h2]
      go_wp2_with fail
      go_ret
      exact ⟨⟨_, rfl, .inr ⟨by omega, by omega, by omega, by omega⟩⟩, X1.bel⟩

set_option maxRecDepth 4000 in
set_option maxHeartbeats 1000000 in
theorem toTerm_any (op : Int) (p : ByteArray) (k n : Int) (t : ByteArray) (w : World) :
    Calls Tryz.prog 151 #[.agg #[.int .i64 op, .string p, .int .i64 k, .int .i64 n, .string t]] w fun e w' => e = .returned (.agg #[.int .i64 op, .string p, .int .i64 k, .int .i64 n, .string t]) ∧ Below w.heap.size w w' := by
  go_enter Tryz.func151, Tryz.ntmps151
  go_wp2_with fail
  refine (toValue_any k n t _).mono ?_
  rintro e w1 ⟨rfl, hb⟩
  obtain ⟨hc, hf⟩ := bcell hb
  have hz : w.heap.size + 2 < w1.heap.size := by have := hb.size; simp at this; omega
  have hbw : Below w.heap.size w w1 := ((((Below.refl _ _).alloc (Nat.le_refl _) _).alloc (by simp) _).alloc (by simp; omega) _).trans (hb.mono (by simp; omega))
  clear hb
  go_wp2_with fail
  refine bodyPost_ret (v := .agg #[.int .i64 op, .string p, .int .i64 k, .int .i64 n, .string t]) (by simp [results, Tryz.results151, go_sem, *]) rfl ⟨rfl, ?_⟩
  (repeat (first | (with_reducible exact Below.refl _ _) | (with_reducible assumption) | (with_reducible apply below_drewN) | (with_reducible apply Below.drew) | ((with_reducible refine Below.setCell ?_ ?_ _); rotate_left; focus (first | (simp; done) | (simp; omega) | omega)) | ((with_reducible refine Below.alloc ?_ ?_ _); rotate_left; focus (first | (simp; done) | (simp; omega) | omega))))

end Go.Proofs.YtcggkeleaepebaaGreatDoor
