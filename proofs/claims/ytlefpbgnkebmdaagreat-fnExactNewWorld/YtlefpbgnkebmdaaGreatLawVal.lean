/- What the laws' own small helpers on values answer. -/
import Derived.Test.YtlefpbgnkebmdaaGreatOKD
namespace Go.Proofs.YtlefpbgnkebmdaaGreat
open Go.RowKit
set_option linter.unusedVariables false

/-- Block number w.heap.size of W holds three cells, and all that lay in w lies in W as it did. -/
structure Boxed (w W : World) (a b c : Value) : Prop where
  bel : Below w.heap.size w W
  lt : w.heap.size < W.heap.size
  c0 : W.cell? ⟨w.heap.size, 0, none⟩ = some a
  c1 : W.cell? ⟨w.heap.size, 1, none⟩ = some b
  c2 : W.cell? ⟨w.heap.size, 2, none⟩ = some c
theorem Boxed.start (w : World) (a b c : Value) (T : TypeId) : Boxed w (w.alloc (.cells #[a, b, c] T)) a b c :=
  ⟨(Below.refl _ _).alloc (Nat.le_refl _) _, by simp, by simp [go_sem], by simp [go_sem], by simp [go_sem]⟩
theorem Boxed.step {w W W' : World} {a b c : Value} (h : Boxed w W a b c) (hb : Below W.heap.size W W') : Boxed w W' a b c :=
  ⟨h.bel.trans (hb.mono h.bel.size), Nat.lt_of_lt_of_le h.lt hb.size, (hb.cell h.lt).trans h.c0, (hb.cell h.lt).trans h.c1, (hb.cell h.lt).trans h.c2⟩

end Go.Proofs.YtlefpbgnkebmdaaGreat
