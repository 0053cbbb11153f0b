/- A tree and an entry that the laws keep while their calls make new memory. -/
import Derived.Test.YtnmpfooegnmknaaTrX
namespace Go.Proofs.Ytnmpfooegnmknaa.Tr
open Go.RowKit
set_option linter.unusedVariables false

theorem keepM {w W w0 : World} {v : Value} {next : Int} {e : Ent} (X : BoxTE w W v next e) (hb : Below W.heap.size W w0) :
    w0.cell? ⟨w.heap.size, 0, none⟩ = some v ∧ w0.cell? ⟨w.heap.size, 1, none⟩ = some (.int .i64 next) ∧ w0.cell? ⟨w.heap.size + 1, 0, none⟩ = some (.string e.key) ∧ w0.cell? ⟨w.heap.size + 1, 1, none⟩ = some (.int .i64 e.id) :=
  ⟨(X.step hb).c0, (X.step hb).c1, (X.step hb).d0, (X.step hb).d1⟩
theorem keepN {w W w0 : World} {v : Value} {next : Int} {e : Ent} {bx : Nat} {a b : Value} (X : BoxTE w W v next e) (m : bx < W.heap.size) (x : W.cell? ⟨bx, 0, none⟩ = some a) (y : W.cell? ⟨bx, 1, none⟩ = some b) (hb : Below W.heap.size W w0) :
    w0.cell? ⟨w.heap.size, 0, none⟩ = some v ∧ w0.cell? ⟨w.heap.size, 1, none⟩ = some (.int .i64 next) ∧ w0.cell? ⟨w.heap.size + 1, 0, none⟩ = some (.string e.key) ∧ w0.cell? ⟨w.heap.size + 1, 1, none⟩ = some (.int .i64 e.id) ∧ w0.cell? ⟨bx, 0, none⟩ = some a ∧ w0.cell? ⟨bx, 1, none⟩ = some b :=
  ⟨(X.step hb).c0, (X.step hb).c1, (X.step hb).d0, (X.step hb).d1, (hb.cell m).trans x, (hb.cell m).trans y⟩

end Go.Proofs.Ytnmpfooegnmknaa.Tr
