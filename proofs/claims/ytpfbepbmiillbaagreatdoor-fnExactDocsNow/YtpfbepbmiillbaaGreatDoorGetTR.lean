/- What the specification's way along a path answers, for every right value: the whole of it. -/
import Derived.Test.YtpfbepbmiillbaaGreatDoorDocBR
import Derived.Laws.AppendOwnNone
import Derived.Deep.DeepCutAuto
import Derived.Maps.AppendAt
import Derived.Deep.RegionWith
import Derived.Test.YtpfbepbmiillbaaGreatDoorSplitWR
namespace Go.Proofs.YtpfbepbmiillbaaGreatDoor
open Go.RowKit
set_option linter.unusedVariables false

theorem addr0 (g j : Nat) : (⟨g, 0, none⟩ : Addr).add j = ⟨g, j, none⟩ := by unfold Addr.add; split <;> simp_all
theorem ReadV.flat {w : World} {g : Nat} {l : List Val} (h : ReadV w g l) : ∀ j u, (flat l)[j]? = some u → w.cell? ((⟨g, 0, none⟩ : Addr).add j) = some u := by
  intro j u hu
  rw [addr0]
  obtain ⟨i, hi, hc⟩ := flat_at l j u hu
  have hx := h.cells i hi
  rcases hc with ⟨rfl, rfl⟩ | ⟨rfl, rfl⟩ | ⟨rfl, rfl⟩
  · exact hx.1
  · exact hx.2.1
  · exact hx.2.2
end Go.Proofs.YtpfbepbmiillbaaGreatDoor

/- What the specification's way along a path answers, for every right value and all names. -/
namespace Go.Proofs.YtpfbepbmiillbaaGreatDoor
open Go.RowKit
set_option linter.unusedVariables false

theorem ReadV.grown {w w' : World} {g : Nat} {l : List Val} {row : Option Nat} (h : ReadV w g l) (hg : w.grownBy w' row) (hne : some g ≠ row) : ReadV w' g l :=
  ⟨Nat.lt_of_lt_of_le h.lt hg.size, fun i hi => ⟨(World.cell?_of_block (hg.block g h.lt hne)).trans (h.cells i hi).1, (World.cell?_of_block (hg.block g h.lt hne)).trans (h.cells i hi).2.1, (World.cell?_of_block (hg.block g h.lt hne)).trans (h.cells i hi).2.2⟩⟩
end Go.Proofs.YtpfbepbmiillbaaGreatDoor

/- What the program's way along a path answers, for every right value and all names: the value itself with its items, and what a document's field comes to. -/
namespace Go.Proofs.YtpfbepbmiillbaaGreatDoor
open Go.RowKit
set_option linter.unusedVariables false

end Go.Proofs.YtpfbepbmiillbaaGreatDoor

/- What the program's way along a path answers, for every right value and all names: through lists, and the whole of it. -/
namespace Go.Proofs.YtpfbepbmiillbaaGreatDoor
open Go.RowKit
set_option linter.unusedVariables false

end Go.Proofs.YtpfbepbmiillbaaGreatDoor

/- What the specification's parting of a path answers, with the room of the row; and the program's. -/
namespace Go.Proofs.YtpfbepbmiillbaaGreatDoor
open Go.RowKit
set_option linter.unusedVariables false

end Go.Proofs.YtpfbepbmiillbaaGreatDoor
