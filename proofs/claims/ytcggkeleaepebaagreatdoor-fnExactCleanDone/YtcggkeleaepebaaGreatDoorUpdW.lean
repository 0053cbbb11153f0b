/- What the two functions that ask whether an operation is right answer, for every operation. -/
import Derived.Test.YtcggkeleaepebaaGreatDoorPathW
import Derived.Test.YtcggkeleaepebaaGreatDoorLawVal
namespace Go.Proofs.YtcggkeleaepebaaGreatDoor
open Go.RowKit
set_option linter.unusedVariables false

/-- Block number w.heap.size of W holds five cells, and all that lay in w lies in W as it did. -/
structure Box5 (w W : World) (a b c d e : Value) : Prop where
  bel : Below w.heap.size w W
  lt : w.heap.size < W.heap.size
  c0 : W.cell? ⟨w.heap.size, 0, none⟩ = some a
  c1 : W.cell? ⟨w.heap.size, 1, none⟩ = some b
  c2 : W.cell? ⟨w.heap.size, 2, none⟩ = some c
  c3 : W.cell? ⟨w.heap.size, 3, none⟩ = some d
  c4 : W.cell? ⟨w.heap.size, 4, none⟩ = some e
theorem Box5.start (w : World) (a b c d e : Value) (T : TypeId) : Box5 w (w.alloc (.cells #[a, b, c, d, e] T)) a b c d e :=
  ⟨(Below.refl _ _).alloc (Nat.le_refl _) _, by simp, by simp [go_sem], by simp [go_sem], by simp [go_sem], by simp [go_sem], by simp [go_sem]⟩
theorem Box5.step {w W W' : World} {a b c d e : Value} (h : Box5 w W a b c d e) (hb : Below W.heap.size W W') : Box5 w W' a b c d e :=
  ⟨h.bel.trans (hb.mono h.bel.size), Nat.lt_of_lt_of_le h.lt hb.size, (hb.cell h.lt).trans h.c0, (hb.cell h.lt).trans h.c1, (hb.cell h.lt).trans h.c2, (hb.cell h.lt).trans h.c3, (hb.cell h.lt).trans h.c4⟩

/-- Does an operation take such a kind of value. -/
def takesB (op k : Int) : Bool :=
  if op = 1 then true else if op = 4 then true else if op = 5 then true else if op = 2 then decide (k = 0) else if op = 3 then decide (k = 2) else false
/-- Is an operation right. -/
def updB (op : Int) (p : ByteArray) (v : Val) : Bool := !(p.toList == [105, 100]) && (pathB p && (okB v && takesB op v.k))
theorem okB_null (n : Int) (t : ByteArray) (h : okB ⟨0, n, t⟩ = true) : n = 0 ∧ t = em := by
  have e : okB ⟨0, n, t⟩ = decide (n = 0 ∧ t.size = 0) := by
    unfold okB; rw [fits_base 5 _ (by show (0 : Int) ≠ 4; decide) (by show (0 : Int) ≠ 5; decide)]; rfl
  rw [e, decide_eq_true_eq] at h
  exact ⟨h.1, empty_of t h.2⟩

end Go.Proofs.YtcggkeleaepebaaGreatDoor
