/-
  DERIVED. GIVEN WITH THE SEED: THE CARDS: each row of YtaohljkmnojiiaaDoorRows.lean that lists a variable, with what it lists TIED to the program's text (the seventh form; the later family's looks); each row that meets fmt, with fmt's text TOLD by the authors' own Lean function (tested against real Go, not proved from fmt's source: count such statements apart). THE CARD IS WHAT COUNTS. Prove the row's statement (the work); the ties are given (YtaohljkmnojiiaaDoorTie.lean); close each card by the builder's one call (the guide's Derived/Test/ToyasCard.lean, 'card_holds'). Laid BY PROGRAM, IN A SANDBOX (cutbox-door.mjs). By AI agents, Wed Nov 11 2026. No macro, syntax, notation, axiom, sorry.
-/
import Derived.Test.YtaohljkmnojiiaaDoorRows
import GoSem.ClaimSeven
namespace Go.Proofs.YtaohljkmnojiiaaDoor
namespace Rows

/-- THE TIED CARD OF 'laws.FnExactDefOK'. -/
def fnExactDefOKCard : Claim7 := { stood := { row := fnExactDefOKRow, standIns := [], harness := (true, "d3f08b3eb6bf77db52292dfb1818746c98f27ba173deb39d714b47dea327c7c7"), looks := false }, kinds := [], alts := [], laidByText := true, laidKinds := [.data, .pinned], laidTests := true, laidLooks := .later }
def FnExactDefOKCardSaid : Prop := Claim7.holds Tryd.pinned (.plain (OpenSpec.ofChange fnExactDefOKSpec)) fnExactDefOKCard

/-- THE SECOND FORM's CARD OF 'laws.FnExactDefOK'. -/
def fnExactDefOKUptoCard : Claim7 := { stood := { row := fnExactDefOKUptoRow, standIns := [], harness := (true, "d3f08b3eb6bf77db52292dfb1818746c98f27ba173deb39d714b47dea327c7c7"), looks := false }, kinds := [], alts := [], laidByText := true, laidKinds := [.data, .pinned], laidTests := true, laidLooks := .later }
def FnExactDefOKUptoCardSaid : Prop := Claim7.holds Tryd.pinned (.plain (OpenSpec.upto fnExactDefOKSpec)) fnExactDefOKUptoCard
end Rows
end Go.Proofs.YtaohljkmnojiiaaDoor
