/- What the laws' own small helpers on values answer. -/
import Derived.Test.YtcggkeleaepebaaGreatDoorOKD
namespace Go.Proofs.YtcggkeleaepebaaGreatDoor
open Go.RowKit
set_option linter.unusedVariables false

/-- Block number w.heap.size of W holds three cells, and all that lay in w lies in W as it did. -/
structure Boxed (w W : World) (a b c : Value) : Prop where
  bel : Below w.heap.size w W
  lt : w.heap.size < W.heap.size
  c0 : W.cell? ⟨w.heap.size, 0, none⟩ = some a
  c1 : W.cell? ⟨w.heap.size, 1, none⟩ = some b
  c2 : W.cell? ⟨w.heap.size, 2, none⟩ = some c
theorem Boxed.start (w : World) (a b c : Value) (T : TypeId) : Boxed w (w.alloc (.cells #[a, b, c] T)) a b c :=
  ⟨(Below.refl _ _).alloc (Nat.le_refl _) _, by simp, by simp [go_sem], by simp [go_sem], by simp [go_sem]⟩
theorem Boxed.step {w W W' : World} {a b c : Value} (h : Boxed w W a b c) (hb : Below W.heap.size W W') : Boxed w W' a b c :=
  ⟨h.bel.trans (hb.mono h.bel.size), Nat.lt_of_lt_of_le h.lt hb.size, (hb.cell h.lt).trans h.c0, (hb.cell h.lt).trans h.c1, (hb.cell h.lt).trans h.c2⟩

set_option maxHeartbeats 400000 in
theorem szValue_any (k n : Int) (t : ByteArray) (c : Int) (w : World) (hs : t.size ≤ maxLen) (hc : 0 ≤ c) (hc2 : c ≤ 1048576) :
    Calls Tryz.prog 68 #[.agg #[.int .i64 k, .int .i64 n, .string t], .int .i64 c] w fun e w' => e = .returned (.int .i64 (if c < t.size then -1 else c - t.size)) ∧ Below w.heap.size w w' := by
  unfold maxLen at hs
  by_cases h : c < t.size
  · rw [if_pos h]
    go_enter Tryz.func68, Tryz.ntmps68
    go_wp2
    go_ret
    exact ⟨rfl, (Below.refl _ _).alloc (Nat.le_refl _) _⟩
  · rw [if_neg h]
    go_enter Tryz.func68, Tryz.ntmps68
    go_wp2
    go_ret
    exact ⟨rfl, (Below.refl _ _).alloc (Nat.le_refl _) _⟩

set_option maxHeartbeats 400000 in
theorem toValue_any (k n : Int) (t : ByteArray) (w : World) :
    Calls Tryz.prog 74 #[.agg #[.int .i64 k, .int .i64 n, .string t]] w fun e w' => e = .returned (.agg #[.int .i64 k, .int .i64 n, .string t]) ∧ Below w.heap.size w w' := by
  go_enter Tryz.func74, Tryz.ntmps74
  go_wp2
  exact bodyPost_ret (v := .agg #[.int .i64 k, .int .i64 n, .string t]) (by simp [results, Tryz.results74, go_sem]) rfl ⟨rfl, by (repeat (first | (with_reducible exact Below.refl _ _) | (with_reducible assumption) | (with_reducible apply below_drewN) | (with_reducible apply Below.drew) | ((with_reducible refine Below.setCell ?_ ?_ _); rotate_left; focus (first | (simp; done) | (simp; omega) | omega)) | ((with_reducible refine Below.alloc ?_ ?_ _); rotate_left; focus (first | (simp; done) | (simp; omega) | omega))))⟩

end Go.Proofs.YtcggkeleaepebaaGreatDoor
