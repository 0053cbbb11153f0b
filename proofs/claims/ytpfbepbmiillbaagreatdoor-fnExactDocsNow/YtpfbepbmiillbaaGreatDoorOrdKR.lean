/- What the program's order of values answers, for every two right values. -/
import Derived.Test.YtpfbepbmiillbaaGreatDoorDocBR
import Derived.Test.YtpfbepbmiillbaaGreatDoorOwnR
import Derived.Deep.RegionWith
import Derived.Test.YtpfbepbmiillbaaGreatDoorOKAQ
import Derived.BigQuiet
import Derived.Test.YtpfbepbmiillbaaGreatDoorTermWR
import Derived.Test.YtpfbepbmiillbaaGreatDoorGetTR
import Derived.Deep.DeepCutAuto
import Derived.Deep.RegionHeld3
namespace Go.Proofs.YtpfbepbmiillbaaGreatDoor
open Go.RowKit
set_option linter.unusedVariables false

end Go.Proofs.YtpfbepbmiillbaaGreatDoor

/- What the program's single trials of a value answer, for every right value. -/
namespace Go.Proofs.YtpfbepbmiillbaaGreatDoor
open Go.RowKit
set_option linter.unusedVariables false

end Go.Proofs.YtpfbepbmiillbaaGreatDoor

/- What the library's search among values by one of the program's trials answers. -/
namespace Go.Proofs.YtpfbepbmiillbaaGreatDoor
open Go.RowKit
set_option linter.unusedVariables false

end Go.Proofs.YtpfbepbmiillbaaGreatDoor

/- What the specification's trial of one value, and of a whole document, by a term answers. -/
namespace Go.Proofs.YtpfbepbmiillbaaGreatDoor
open Go.RowKit
set_option linter.unusedVariables false

end Go.Proofs.YtpfbepbmiillbaaGreatDoor

/- What the program's trials by a term's operation answer. -/
namespace Go.Proofs.YtpfbepbmiillbaaGreatDoor
open Go.RowKit
set_option linter.unusedVariables false

end Go.Proofs.YtpfbepbmiillbaaGreatDoor

/- What the program's trial of a document by a term answers, for every right term and document. -/
namespace Go.Proofs.YtpfbepbmiillbaaGreatDoor
open Go.RowKit
set_option linter.unusedVariables false

theorem RowV.far {w U : World} {q s : Option Addr} {l : List Val} {tb n c : Nat} (h : RowV w q l) (ht : w.cell? ⟨tb, 0, none⟩ = some (.slice s n c)) (hg : w.grownBy U (some tb)) : RowV U q l := by
  rcases h with h | ⟨g, hp, R⟩
  · exact .inl h
  · cases l with
    | nil => exact .inl rfl
    | cons v l =>
      refine .inr ⟨g, hp, R.grown hg (fun e => ?_)⟩
      injection e with e
      have := (R.cells 0 (by simp)).1
      rw [Nat.zero_mul, e, ht] at this
      cases this
theorem RowV.below {w w' : World} {p : Option Addr} {l : List Val} (h : RowV w p l) (hb : Below w.heap.size w w') : RowV w' p l := h.next hb

end Go.Proofs.YtpfbepbmiillbaaGreatDoor

/- What the specification's trial of a document by a term answers. -/
namespace Go.Proofs.YtpfbepbmiillbaaGreatDoor
open Go.RowKit
set_option linter.unusedVariables false

end Go.Proofs.YtpfbepbmiillbaaGreatDoor

/- What the two functions that hold a document to a term answer, for every term and every value. -/
namespace Go.Proofs.YtpfbepbmiillbaaGreatDoor
open Go.RowKit
set_option linter.unusedVariables false

end Go.Proofs.YtpfbepbmiillbaaGreatDoor
