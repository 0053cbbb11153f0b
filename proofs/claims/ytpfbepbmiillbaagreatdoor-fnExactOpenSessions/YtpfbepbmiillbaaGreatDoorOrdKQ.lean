/- What the program's order of values answers, for every two right values. -/
import Derived.Test.YtpfbepbmiillbaaGreatDoorDocBQ
import Derived.Test.YtpfbepbmiillbaaGreatDoorOwnQ
import Derived.Deep.RegionWith
import Derived.Test.YtpfbepbmiillbaaGreatDoorOKAQ
import Derived.BigQuiet
import Derived.Test.YtpfbepbmiillbaaGreatDoorTermWQ
import Derived.Test.YtpfbepbmiillbaaGreatDoorGetTQ
import Derived.Deep.DeepCutAuto
import Derived.Deep.RegionHeld3
namespace Go.Proofs.YtpfbepbmiillbaaGreatDoor
open Go.RowKit
set_option linter.unusedVariables false

end Go.Proofs.YtpfbepbmiillbaaGreatDoor

/- What the program's single trials of a value answer, for every right value. -/
namespace Go.Proofs.YtpfbepbmiillbaaGreatDoor
open Go.RowKit
set_option linter.unusedVariables false

/-- Four cells in the first new block, three in the second. -/
structure B43 (w W : World) (a b c d x y z : Value) : Prop where
  bel : Below w.heap.size w W
  lt : w.heap.size + 1 < W.heap.size
  c0 : W.cell? ⟨w.heap.size, 0, none⟩ = some a
  c1 : W.cell? ⟨w.heap.size, 1, none⟩ = some b
  c2 : W.cell? ⟨w.heap.size, 2, none⟩ = some c
  c3 : W.cell? ⟨w.heap.size, 3, none⟩ = some d
  d0 : W.cell? ⟨w.heap.size + 1, 0, none⟩ = some x
  d1 : W.cell? ⟨w.heap.size + 1, 1, none⟩ = some y
  d2 : W.cell? ⟨w.heap.size + 1, 2, none⟩ = some z
theorem B43.start (w : World) (a b c d x y z : Value) (T U : TypeId) : B43 w ((w.alloc (.cells #[a, b, c, d] T)).alloc (.cells #[x, y, z] U)) a b c d x y z :=
  ⟨((Below.refl _ _).alloc (Nat.le_refl _) _).alloc (by simp) _, by simp, by simp [go_sem], by simp [go_sem], by simp [go_sem], by simp [go_sem], by simp [go_sem], by simp [go_sem], by simp [go_sem]⟩
theorem B43.step {w W W' : World} {a b c d x y z : Value} (h : B43 w W a b c d x y z) (hb : Below W.heap.size W W') : B43 w W' a b c d x y z :=
  have hl : w.heap.size < W.heap.size := Nat.lt_of_succ_lt h.lt
  ⟨h.bel.trans (hb.mono h.bel.size), Nat.lt_of_lt_of_le h.lt hb.size, (hb.cell hl).trans h.c0, (hb.cell hl).trans h.c1, (hb.cell hl).trans h.c2, (hb.cell hl).trans h.c3, (hb.cell h.lt).trans h.d0, (hb.cell h.lt).trans h.d1, (hb.cell h.lt).trans h.d2⟩
end Go.Proofs.YtpfbepbmiillbaaGreatDoor

/- What the library's search among values by one of the program's trials answers. -/
namespace Go.Proofs.YtpfbepbmiillbaaGreatDoor
open Go.RowKit
set_option linter.unusedVariables false

end Go.Proofs.YtpfbepbmiillbaaGreatDoor

/- What the specification's trial of one value, and of a whole document, by a term answers. -/
namespace Go.Proofs.YtpfbepbmiillbaaGreatDoor
open Go.RowKit
set_option linter.unusedVariables false

/-- Five cells in the first new block, three in the second. -/
structure B53 (w W : World) (a b c d e x y z : Value) : Prop where
  bel : Below w.heap.size w W
  lt : w.heap.size + 1 < W.heap.size
  c0 : W.cell? ⟨w.heap.size, 0, none⟩ = some a
  c1 : W.cell? ⟨w.heap.size, 1, none⟩ = some b
  c2 : W.cell? ⟨w.heap.size, 2, none⟩ = some c
  c3 : W.cell? ⟨w.heap.size, 3, none⟩ = some d
  c4 : W.cell? ⟨w.heap.size, 4, none⟩ = some e
  d0 : W.cell? ⟨w.heap.size + 1, 0, none⟩ = some x
  d1 : W.cell? ⟨w.heap.size + 1, 1, none⟩ = some y
  d2 : W.cell? ⟨w.heap.size + 1, 2, none⟩ = some z
theorem B53.start (w : World) (a b c d e x y z : Value) (T U : TypeId) : B53 w ((w.alloc (.cells #[a, b, c, d, e] T)).alloc (.cells #[x, y, z] U)) a b c d e x y z :=
  ⟨((Below.refl _ _).alloc (Nat.le_refl _) _).alloc (by simp) _, by simp, by simp [go_sem], by simp [go_sem], by simp [go_sem], by simp [go_sem], by simp [go_sem], by simp [go_sem], by simp [go_sem], by simp [go_sem]⟩
theorem B53.step {w W W' : World} {a b c d e x y z : Value} (h : B53 w W a b c d e x y z) (hb : Below W.heap.size W W') : B53 w W' a b c d e x y z :=
  have hl : w.heap.size < W.heap.size := Nat.lt_of_succ_lt h.lt
  ⟨h.bel.trans (hb.mono h.bel.size), Nat.lt_of_lt_of_le h.lt hb.size, (hb.cell hl).trans h.c0, (hb.cell hl).trans h.c1, (hb.cell hl).trans h.c2, (hb.cell hl).trans h.c3, (hb.cell hl).trans h.c4, (hb.cell h.lt).trans h.d0, (hb.cell h.lt).trans h.d1, (hb.cell h.lt).trans h.d2⟩

end Go.Proofs.YtpfbepbmiillbaaGreatDoor

/- What the program's trials by a term's operation answer. -/
namespace Go.Proofs.YtpfbepbmiillbaaGreatDoor
open Go.RowKit
set_option linter.unusedVariables false

/-- Four cells in the first new block. -/
structure Box4 (w W : World) (a b c d : Value) : Prop where
  bel : Below w.heap.size w W
  lt : w.heap.size < W.heap.size
  c0 : W.cell? ⟨w.heap.size, 0, none⟩ = some a
  c1 : W.cell? ⟨w.heap.size, 1, none⟩ = some b
  c2 : W.cell? ⟨w.heap.size, 2, none⟩ = some c
  c3 : W.cell? ⟨w.heap.size, 3, none⟩ = some d
theorem Box4.start (w : World) (a b c d : Value) (T : TypeId) : Box4 w (w.alloc (.cells #[a, b, c, d] T)) a b c d :=
  ⟨(Below.refl _ _).alloc (Nat.le_refl _) _, by simp, by simp [go_sem], by simp [go_sem], by simp [go_sem], by simp [go_sem]⟩
theorem Box4.step {w W W' : World} {a b c d : Value} (h : Box4 w W a b c d) (hb : Below W.heap.size W W') : Box4 w W' a b c d :=
  ⟨h.bel.trans (hb.mono h.bel.size), Nat.lt_of_lt_of_le h.lt hb.size, (hb.cell h.lt).trans h.c0, (hb.cell h.lt).trans h.c1, (hb.cell h.lt).trans h.c2, (hb.cell h.lt).trans h.c3⟩
end Go.Proofs.YtpfbepbmiillbaaGreatDoor

/- What the program's trial of a document by a term answers, for every right term and document. -/
namespace Go.Proofs.YtpfbepbmiillbaaGreatDoor
open Go.RowKit
set_option linter.unusedVariables false

theorem RowV.below {w w' : World} {p : Option Addr} {l : List Val} (h : RowV w p l) (hb : Below w.heap.size w w') : RowV w' p l := h.next hb

end Go.Proofs.YtpfbepbmiillbaaGreatDoor

/- What the specification's trial of a document by a term answers. -/
namespace Go.Proofs.YtpfbepbmiillbaaGreatDoor
open Go.RowKit
set_option linter.unusedVariables false

end Go.Proofs.YtpfbepbmiillbaaGreatDoor

/- What the two functions that hold a document to a term answer, for every term and every value. -/
namespace Go.Proofs.YtpfbepbmiillbaaGreatDoor
open Go.RowKit
set_option linter.unusedVariables false

end Go.Proofs.YtpfbepbmiillbaaGreatDoor
