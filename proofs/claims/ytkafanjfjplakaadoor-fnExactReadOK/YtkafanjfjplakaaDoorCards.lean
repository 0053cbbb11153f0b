/-
  DERIVED. GIVEN WITH THE SEED: THE CARDS: each row of YtkafanjfjplakaaDoorRows.lean that lists a variable, with what it lists TIED to the program's text (the seventh form; the later family's looks); each row that meets fmt, with fmt's text TOLD by the authors' own Lean function (tested against real Go, not proved from fmt's source: count such statements apart). THE CARD IS WHAT COUNTS. Prove the row's statement (the work); the ties are given (YtkafanjfjplakaaDoorTie.lean); close each card by the builder's one call (the guide's Derived/Test/ToyasCard.lean, 'card_holds'). Laid BY PROGRAM, IN A SANDBOX (cutbox-door.mjs). By AI agents, Wed Nov 11 2026. No macro, syntax, notation, axiom, sorry.
-/
import Derived.Test.YtkafanjfjplakaaDoorRows
import GoSem.ClaimSeven
namespace Go.Proofs.YtkafanjfjplakaaDoor
namespace Rows

/-- THE TIED CARD OF 'laws.FnExactReadOK'. -/
def fnExactReadOKCard : Claim7 := { stood := { row := fnExactReadOKRow, standIns := [], harness := (true, "c0d94fec9a84c84bb50b072275078a3a89ce4a08150e2e21c9474ee8322c7209"), looks := false }, kinds := [], alts := [], laidByText := true, laidKinds := [.data, .pinned], laidTests := true, laidLooks := .later }
def FnExactReadOKCardSaid : Prop := Claim7.holds Tryd.pinned (.plain (OpenSpec.ofChange fnExactReadOKSpec)) fnExactReadOKCard

/-- THE SECOND FORM's CARD OF 'laws.FnExactReadOK'. -/
def fnExactReadOKUptoCard : Claim7 := { stood := { row := fnExactReadOKUptoRow, standIns := [], harness := (true, "c0d94fec9a84c84bb50b072275078a3a89ce4a08150e2e21c9474ee8322c7209"), looks := false }, kinds := [], alts := [], laidByText := true, laidKinds := [.data, .pinned], laidTests := true, laidLooks := .later }
def FnExactReadOKUptoCardSaid : Prop := Claim7.holds Tryd.pinned (.plain (OpenSpec.upto fnExactReadOKSpec)) fnExactReadOKUptoCard
end Rows
end Go.Proofs.YtkafanjfjplakaaDoor
