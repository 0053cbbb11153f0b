/- What the laws on collections lean on, together. -/
import Derived.Test.YtkafanjfjplakaaGreatDoorColO
import Derived.Deep.RegionHeld3
namespace Go.Proofs.YtkafanjfjplakaaGreatDoor.Co
open Go.RowKit Tr
set_option linter.unusedVariables false

/-- A collection that can be read, its rows at the heads of their blocks. -/
structure RdCol (w : World) (g1 g2 : Nat) (c : Col) : Prop where
  ch : RowCh w (some ⟨g1, 0, none⟩) c.chs
  df : RowDf w (some ⟨g2, 0, none⟩) c.dfs
theorem RdCol.next {w w' : World} {g1 g2 : Nat} {c : Col} (h : RdCol w g1 g2 c) (hb : Below w.heap.size w w') : RdCol w' g1 g2 c := ⟨h.ch.next hb, h.df.next hb⟩
theorem RdCol.inCh {w : World} {g1 g2 : Nat} {c : Col} (h : RdCol w g1 g2 c) : InCh w (some ⟨g1, 0, none⟩) c.chs := by
  rcases h.ch with h | ⟨g, e, h⟩
  · exact .inl (by rw [h]; rfl)
  · injection e with e; injection e with e; subst e; exact InVr.rowOf h
theorem rdCol_of {w : World} {lo mid hi g1 g2 n m c1 c2 : Nat} {c : Col} (h1 : OwnChH w lo mid (.slice (some ⟨g1, 0, none⟩) n c1) c.chs) (h2 : OwnDfH w mid hi (.slice (some ⟨g2, 0, none⟩) m c2) c.dfs) : RdCol w g1 g2 c := ⟨h1.own.rowCh, h2.own.rowDf⟩
theorem SzCol.vs {c : Col} (h : SzCol c) : ∀ l ∈ c.chs, l.vs.length ≤ 1048576 := fun l hl => (h.chs l hl).1
theorem SzCol.ps {c : Col} (h : SzCol c) : ∀ l ∈ c.dfs, l.ps.length ≤ 1048576 := fun l hl => (h.dfs l hl).2.1
/-- The laws' own collection and the program's, in their boxes. -/
theorem keepC {w W w0 : World} {a b c : Value} {bx : Nat} {x y z : Value} (X : Boxed w W a b c) (m : bx < W.heap.size) (e0 : W.cell? ⟨bx, 0, none⟩ = some x) (e1 : W.cell? ⟨bx, 1, none⟩ = some y) (e2 : W.cell? ⟨bx, 2, none⟩ = some z) (hb : Below W.heap.size W w0) :
    w0.cell? ⟨w.heap.size, 0, none⟩ = some a ∧ w0.cell? ⟨w.heap.size, 1, none⟩ = some b ∧ w0.cell? ⟨w.heap.size, 2, none⟩ = some c ∧ w0.cell? ⟨bx, 0, none⟩ = some x ∧ w0.cell? ⟨bx, 1, none⟩ = some y ∧ w0.cell? ⟨bx, 2, none⟩ = some z :=
  ⟨(X.step hb).c0, (X.step hb).c1, (X.step hb).c2, (hb.cell m).trans e0, (hb.cell m).trans e1, (hb.cell m).trans e2⟩

end Go.Proofs.YtkafanjfjplakaaGreatDoor.Co
