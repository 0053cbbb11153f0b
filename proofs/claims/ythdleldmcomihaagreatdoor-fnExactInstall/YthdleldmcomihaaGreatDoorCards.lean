/-
  DERIVED. GIVEN WITH THE SEED: THE CARDS: each row of YthdleldmcomihaaGreatDoorRows.lean that lists a variable, with what it lists TIED to the program's text (the seventh form; the later family's looks); each row that meets fmt, with fmt's text TOLD by the authors' own Lean function (tested against real Go, not proved from fmt's source: count such statements apart). THE CARD IS WHAT COUNTS. Prove the row's statement (the work); the ties are given (YthdleldmcomihaaGreatDoorTie.lean); close each card by the builder's one call (the guide's Derived/Test/ToyasCard.lean, 'card_holds'). Laid BY PROGRAM, IN A SANDBOX (cutbox-door.mjs). By AI agents, Wed Nov 11 2026. No macro, syntax, notation, axiom, sorry.
-/
import Derived.Test.YthdleldmcomihaaGreatDoorRows
import GoSem.ClaimSeven
namespace Go.Proofs.YthdleldmcomihaaGreatDoor
namespace Rows

/-- THE TIED CARD OF 'laws.FnExactInstall'. -/
def fnExactInstallCard : Claim7 := { stood := { row := fnExactInstallRow, standIns := [], harness := (true, "4bcfb2521a4b7d3e7e702a834bb89485c65da58814ffe0f8d18fbc769e1720b0"), looks := false }, kinds := [], alts := [], laidByText := true, laidKinds := [.data, .pinned], laidTests := true, laidLooks := .later }
def FnExactInstallCardSaid : Prop := Claim7.holds Tryz.pinned (.plain (OpenSpec.ofChange fnExactInstallSpec)) fnExactInstallCard

/-- THE SECOND FORM's CARD OF 'laws.FnExactInstall'. -/
def fnExactInstallUptoCard : Claim7 := { stood := { row := fnExactInstallUptoRow, standIns := [], harness := (true, "4bcfb2521a4b7d3e7e702a834bb89485c65da58814ffe0f8d18fbc769e1720b0"), looks := false }, kinds := [], alts := [], laidByText := true, laidKinds := [.data, .pinned], laidTests := true, laidLooks := .later }
def FnExactInstallUptoCardSaid : Prop := Claim7.holds Tryz.pinned (.plain (OpenSpec.upto fnExactInstallSpec)) fnExactInstallUptoCard
end Rows
end Go.Proofs.YthdleldmcomihaaGreatDoor
