/- What the two functions that lay a value into bytes answer, for every value. -/
import Derived.Test.YtmchpaccdnnilaaEncU
namespace Go.Proofs.Ytmchpaccdnnilaa
open Go.RowKit
set_option linter.unusedVariables false

/-- The bytes zs can be read at the head of block g. -/
def ReadE (w : World) (g : Nat) (zs : List Int) : Prop := g < w.heap.size ∧ ∀ i, i < zs.length → w.cell? ⟨g, i, none⟩ = some (.int .u8 (zs.getD i 0))
theorem ReadE.step {w w' : World} {g : Nat} {zs : List Int} (h : ReadE w g zs) (hb : Below w.heap.size w w') : ReadE w' g zs :=
  ⟨Nat.lt_of_lt_of_le h.1 hb.size, fun i hi => (hb.cell h.1).trans (h.2 i hi)⟩
theorem ReadE.of_own {w : World} {base g cap : Nat} {zs : List Int} (h : OwnE w base (.slice (some ⟨g, 0, none⟩) zs.length cap) zs) : ReadE w g zs := by
  refine ⟨(World.ownsRow.lt h g rfl).2, fun i hi => owns_cell h i _ ?_⟩
  unfold rowE; rw [List.getElem?_map, List.getElem?_eq_getElem hi, List.getD_eq_getElem?_getD, List.getElem?_eq_getElem hi]; rfl

theorem cell_new_drew (w : World) (C : Array Value) (T : TypeId) (fr : Nat × Nat) (i : Nat) : ((w.alloc (.cells C T fr)).drew).cell? ⟨w.heap.size, i, none⟩ = C[i]? := by
  show (w.alloc (.cells C T fr)).cell? _ = _
  have h : (w.alloc (.cells C T fr)).heap[w.heap.size]? = some (.cells C T fr) := by
    show (w.heap.push (.cells C T fr))[w.heap.size]? = _
    simp
  unfold World.cell?
  simp only [h]
  rfl

end Go.Proofs.Ytmchpaccdnnilaa
