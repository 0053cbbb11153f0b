/- What holding a document to a filter answers, by the program and by the specification, for every right filter and document. -/
import Derived.Test.YtpfbepbmiillbaaGreatDoorOpenTQ
import Derived.Test.YtpfbepbmiillbaaGreatDoorOrdKQ
import Derived.Test.YtpfbepbmiillbaaGreatDoorChgVQ
import Derived.Test.YtpfbepbmiillbaaGreatDoorTwcIQ
import Derived.WalkMore
import Derived.RangeFuncFrom
import Derived.Deep.RegionHeld3
namespace Go.Proofs.YtpfbepbmiillbaaGreatDoor
open Go.RowKit
set_option linter.unusedVariables false

/-- One cell in the first new block, three in the second. -/
structure B13 (w W : World) (a x y z : Value) : Prop where
  bel : Below w.heap.size w W
  lt : w.heap.size + 1 < W.heap.size
  c0 : W.cell? ⟨w.heap.size, 0, none⟩ = some a
  d0 : W.cell? ⟨w.heap.size + 1, 0, none⟩ = some x
  d1 : W.cell? ⟨w.heap.size + 1, 1, none⟩ = some y
  d2 : W.cell? ⟨w.heap.size + 1, 2, none⟩ = some z
theorem B13.start (w : World) (a x y z : Value) (T U : TypeId) : B13 w ((w.alloc (.cells #[a] T)).alloc (.cells #[x, y, z] U)) a x y z :=
  ⟨((Below.refl _ _).alloc (Nat.le_refl _) _).alloc (by simp) _, by simp, by simp [go_sem], by simp [go_sem], by simp [go_sem], by simp [go_sem]⟩
theorem B13.step {w W W' : World} {a x y z : Value} (h : B13 w W a x y z) (hb : Below W.heap.size W W') : B13 w W' a x y z :=
  have hl : w.heap.size < W.heap.size := Nat.lt_of_succ_lt h.lt
  ⟨h.bel.trans (hb.mono h.bel.size), Nat.lt_of_lt_of_le h.lt hb.size, (hb.cell hl).trans h.c0, (hb.cell h.lt).trans h.d0, (hb.cell h.lt).trans h.d1, (hb.cell h.lt).trans h.d2⟩
/-- A document lies in a block. -/
structure DocIn (W : World) (b : Nat) (v : Val) : Prop where
  lt : b < W.heap.size
  c0 : W.cell? ⟨b, 0, none⟩ = some (.int .i64 v.k)
  c1 : W.cell? ⟨b, 1, none⟩ = some (.int .i64 v.n)
  c2 : W.cell? ⟨b, 2, none⟩ = some (.string v.t)
theorem DocIn.step {W W' : World} {b : Nat} {v : Val} (h : DocIn W b v) (hb : Below W.heap.size W W') : DocIn W' b v :=
  ⟨Nat.lt_of_lt_of_le h.lt hb.size, (hb.cell h.lt).trans h.c0, (hb.cell h.lt).trans h.c1, (hb.cell h.lt).trans h.c2⟩

end Go.Proofs.YtpfbepbmiillbaaGreatDoor

/- Whether a read hangs on a change: what both sides answer. -/
namespace Go.Proofs.YtpfbepbmiillbaaGreatDoor.Ce
open Go.RowKit Tr Co Rea
set_option linter.unusedVariables false

/-- The two boxes, as later worlds have them. -/
structure BxH (w W : World) (v g0 g1 g2 g3 g4 : Value) : Prop where
  bel : Below w.heap.size w W
  lt : w.heap.size + 1 < W.heap.size
  c1 : W.cell? ⟨w.heap.size, 1, none⟩ = some v
  d2 : W.cell? ⟨w.heap.size + 1, 2, none⟩ = some g0
  d3 : W.cell? ⟨w.heap.size + 1, 3, none⟩ = some g1
  d4 : W.cell? ⟨w.heap.size + 1, 4, none⟩ = some g2
  d5 : W.cell? ⟨w.heap.size + 1, 5, none⟩ = some g3
theorem BxH.step {w W W' : World} {v g0 g1 g2 g3 g4 : Value} (h : BxH w W v g0 g1 g2 g3 g4) (hb : Below W.heap.size W W') : BxH w W' v g0 g1 g2 g3 g4 :=
  ⟨h.bel.trans (hb.mono h.bel.size), Nat.lt_of_lt_of_le h.lt hb.size, (hb.cell (Nat.lt_of_succ_lt h.lt)).trans h.c1, (hb.cell h.lt).trans h.d2, (hb.cell h.lt).trans h.d3, (hb.cell h.lt).trans h.d4, (hb.cell h.lt).trans h.d5⟩
theorem BxH.start (w : World) (u v a0 a1 a2 a3 a4 a5 a6 a7 a8 a9 : Value) (T U : TypeId) : BxH w ((w.alloc (.cells #[u, v] T)).alloc (.cells #[a0, a1, a2, a3, a4, a5, a6, a7, a8, a9] U)) v a2 a3 a4 a5 a5 :=
  ⟨((Below.refl _ _).alloc (Nat.le_refl _) _).alloc (by simp) _, by simp, by simp [go_sem], by simp [go_sem], by simp [go_sem], by simp [go_sem], by simp [go_sem]⟩

end Go.Proofs.YtpfbepbmiillbaaGreatDoor.Ce

/- The places of the pairs that are bound, in their order. -/
namespace Go.Proofs.YtpfbepbmiillbaaGreatDoor.Ce
open Go.RowKit Go.Shelf Tr Co Rea
set_option linter.unusedVariables false

/-- A read in a box of its own. -/
structure BxU (W : World) (b : Nat) (s : ByteArray) (v : Value) : Prop where
  c0 : W.cell? ⟨b, 0, none⟩ = some (.string s)
  c1 : W.cell? ⟨b, 1, none⟩ = some v
theorem BxU.kc {W W' : World} {b : Nat} {s : ByteArray} {v : Value} (h : BxU W b s v) (k : Kc W W') : BxU W' b s v := ⟨k.cell _ _ _ h.c0, k.cell _ _ _ h.c1⟩
theorem BxU.start (w : World) (s : ByteArray) (v : Value) (T : TypeId) : BxU (w.alloc (.cells #[.string s, v] T)) w.heap.size s v := by
  constructor <;> simp [go_sem]

end Go.Proofs.YtpfbepbmiillbaaGreatDoor.Ce

/- The pairs of reads and changes that are bound: the iterator's walk. -/
namespace Go.Proofs.YtpfbepbmiillbaaGreatDoor.Ce
open Go.RowKit Go.Shelf Tr Co Rea
set_option linter.unusedVariables false
attribute [local go_sem] Oper.semAt_some

end Go.Proofs.YtpfbepbmiillbaaGreatDoor.Ce

/- Whether some read hangs on some change: the program's loop over the pairs. -/
namespace Go.Proofs.YtpfbepbmiillbaaGreatDoor.Ce
open Go.RowKit Go.Shelf Tr Co Rea
set_option linter.unusedVariables false
attribute [local go_sem] Oper.semAt_some

end Go.Proofs.YtpfbepbmiillbaaGreatDoor.Ce

/- Whether some read hangs on some change: the specification's answer; whether one must come ahead of another: both answers. -/
namespace Go.Proofs.YtpfbepbmiillbaaGreatDoor.Ce
open Go.RowKit Go.ChangeShapes Go.WideShapes Go.ChangeAt Go.Joins Tr Co Rea
set_option linter.unusedVariables false

set_option maxRecDepth 4000 in
set_option maxHeartbeats 1000000 in
theorem isPivot_any (xs xt : Int) (xr xc : Value) (xi xo : Bool) (w : World) :
    Calls Tryz.prog 77 #[.agg #[.int .i64 xs, .int .i64 xt, xr, xc, .bool xi, .bool xo]] w fun e w' => e = .returned (.bool (xi && xo)) ∧ Below w.heap.size w w' := by
  have hb0 : Below w.heap.size w (w.alloc (.cells #[.int .i64 xs, .int .i64 xt, xr, xc, .bool xi, .bool xo] 81)) := (Below.refl _ _).alloc (Nat.le_refl _) _
  cases xi
  all_goals
    go_enter Tryz.func77, Tryz.ntmps77
    go_wp2_with fail
    go_ret
    exact ⟨rfl, hb0⟩

end Go.Proofs.YtpfbepbmiillbaaGreatDoor.Ce
