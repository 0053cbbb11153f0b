/-
  DERIVED. GIVEN WITH THE SEED: THE CARDS: each row of YtkafanjfjplakaaGreatDoorRows.lean that lists a variable, with what it lists TIED to the program's text (the seventh form; the later family's looks); each row that meets fmt, with fmt's text TOLD by the authors' own Lean function (tested against real Go, not proved from fmt's source: count such statements apart). THE CARD IS WHAT COUNTS. Prove the row's statement (the work); the ties are given (YtkafanjfjplakaaGreatDoorTie.lean); close each card by the builder's one call (the guide's Derived/Test/ToyasCard.lean, 'card_holds'). Laid BY PROGRAM, IN A SANDBOX (cutbox-door.mjs). By AI agents, Wed Nov 11 2026. No macro, syntax, notation, axiom, sorry.
-/
import Derived.Test.YtkafanjfjplakaaGreatDoorRows
import GoSem.ClaimSeven
namespace Go.Proofs.YtkafanjfjplakaaGreatDoor
namespace Rows

/-- THE TIED CARD OF 'laws.FnExactVacuum'. -/
def fnExactVacuumCard : Claim7 := { stood := { row := fnExactVacuumRow, standIns := [], harness := (true, "8c0559c089a08e5b4d17cdfcaf9e7c7f859c1d39d3b2ca50b0f1738c697e4da4"), looks := false }, kinds := [], alts := [], laidByText := true, laidKinds := [.data, .pinned], laidTests := true, laidLooks := .later }
def FnExactVacuumCardSaid : Prop := Claim7.holds Tryz.pinned (.plain (OpenSpec.ofChange fnExactVacuumSpec)) fnExactVacuumCard

/-- THE TIED CARD OF 'laws.FnExactInstall'. -/
def fnExactInstallCard : Claim7 := { stood := { row := fnExactInstallRow, standIns := [], harness := (true, "8c0559c089a08e5b4d17cdfcaf9e7c7f859c1d39d3b2ca50b0f1738c697e4da4"), looks := false }, kinds := [], alts := [], laidByText := true, laidKinds := [.data, .pinned], laidTests := true, laidLooks := .later }
def FnExactInstallCardSaid : Prop := Claim7.holds Tryz.pinned (.plain (OpenSpec.ofChange fnExactInstallSpec)) fnExactInstallCard

/-- THE TIED CARD OF 'laws.FnExactDoneOK'. -/
def fnExactDoneOKCard : Claim7 := { stood := { row := fnExactDoneOKRow, standIns := [], harness := (true, "8c0559c089a08e5b4d17cdfcaf9e7c7f859c1d39d3b2ca50b0f1738c697e4da4"), looks := false }, kinds := [], alts := [], laidByText := true, laidKinds := [.data, .pinned], laidTests := true, laidLooks := .later }
def FnExactDoneOKCardSaid : Prop := Claim7.holds Tryz.pinned (.plain (OpenSpec.ofChange fnExactDoneOKSpec)) fnExactDoneOKCard

/-- THE TIED CARD OF 'laws.FnExactHits'. -/
def fnExactHitsCard : Claim7 := { stood := { row := fnExactHitsRow, standIns := [], harness := (true, "8c0559c089a08e5b4d17cdfcaf9e7c7f859c1d39d3b2ca50b0f1738c697e4da4"), looks := false }, kinds := [], alts := [], laidByText := true, laidKinds := [.data, .pinned], laidTests := true, laidLooks := .later }
def FnExactHitsCardSaid : Prop := Claim7.holds Tryz.pinned (.plain (OpenSpec.ofChange fnExactHitsSpec)) fnExactHitsCard

/-- THE TIED CARD OF 'laws.FnExactCleanDone'. -/
def fnExactCleanDoneCard : Claim7 := { stood := { row := fnExactCleanDoneRow, standIns := [], harness := (true, "8c0559c089a08e5b4d17cdfcaf9e7c7f859c1d39d3b2ca50b0f1738c697e4da4"), looks := false }, kinds := [], alts := [], laidByText := true, laidKinds := [.data, .pinned], laidTests := true, laidLooks := .later }
def FnExactCleanDoneCardSaid : Prop := Claim7.holds Tryz.pinned (.plain (OpenSpec.ofChange fnExactCleanDoneSpec)) fnExactCleanDoneCard

/-- THE TIED CARD OF 'laws.FnExactEdgesOf'. -/
def fnExactEdgesOfCard : Claim7 := { stood := { row := fnExactEdgesOfRow, standIns := [], harness := (true, "8c0559c089a08e5b4d17cdfcaf9e7c7f859c1d39d3b2ca50b0f1738c697e4da4"), looks := false }, kinds := [], alts := [], laidByText := true, laidKinds := [.data, .pinned], laidTests := true, laidLooks := .later }
def FnExactEdgesOfCardSaid : Prop := Claim7.holds Tryz.pinned (.plain (OpenSpec.ofChange fnExactEdgesOfSpec)) fnExactEdgesOfCard

/-- THE SECOND FORM's CARD OF 'laws.FnExactVacuum'. -/
def fnExactVacuumUptoCard : Claim7 := { stood := { row := fnExactVacuumUptoRow, standIns := [], harness := (true, "8c0559c089a08e5b4d17cdfcaf9e7c7f859c1d39d3b2ca50b0f1738c697e4da4"), looks := false }, kinds := [], alts := [], laidByText := true, laidKinds := [.data, .pinned], laidTests := true, laidLooks := .later }
def FnExactVacuumUptoCardSaid : Prop := Claim7.holds Tryz.pinned (.plain (OpenSpec.upto fnExactVacuumSpec)) fnExactVacuumUptoCard

/-- THE SECOND FORM's CARD OF 'laws.FnExactInstall'. -/
def fnExactInstallUptoCard : Claim7 := { stood := { row := fnExactInstallUptoRow, standIns := [], harness := (true, "8c0559c089a08e5b4d17cdfcaf9e7c7f859c1d39d3b2ca50b0f1738c697e4da4"), looks := false }, kinds := [], alts := [], laidByText := true, laidKinds := [.data, .pinned], laidTests := true, laidLooks := .later }
def FnExactInstallUptoCardSaid : Prop := Claim7.holds Tryz.pinned (.plain (OpenSpec.upto fnExactInstallSpec)) fnExactInstallUptoCard

/-- THE SECOND FORM's CARD OF 'laws.FnExactDoneOK'. -/
def fnExactDoneOKUptoCard : Claim7 := { stood := { row := fnExactDoneOKUptoRow, standIns := [], harness := (true, "8c0559c089a08e5b4d17cdfcaf9e7c7f859c1d39d3b2ca50b0f1738c697e4da4"), looks := false }, kinds := [], alts := [], laidByText := true, laidKinds := [.data, .pinned], laidTests := true, laidLooks := .later }
def FnExactDoneOKUptoCardSaid : Prop := Claim7.holds Tryz.pinned (.plain (OpenSpec.upto fnExactDoneOKSpec)) fnExactDoneOKUptoCard

/-- THE SECOND FORM's CARD OF 'laws.FnExactHits'. -/
def fnExactHitsUptoCard : Claim7 := { stood := { row := fnExactHitsUptoRow, standIns := [], harness := (true, "8c0559c089a08e5b4d17cdfcaf9e7c7f859c1d39d3b2ca50b0f1738c697e4da4"), looks := false }, kinds := [], alts := [], laidByText := true, laidKinds := [.data, .pinned], laidTests := true, laidLooks := .later }
def FnExactHitsUptoCardSaid : Prop := Claim7.holds Tryz.pinned (.plain (OpenSpec.upto fnExactHitsSpec)) fnExactHitsUptoCard

/-- THE SECOND FORM's CARD OF 'laws.FnExactCleanDone'. -/
def fnExactCleanDoneUptoCard : Claim7 := { stood := { row := fnExactCleanDoneUptoRow, standIns := [], harness := (true, "8c0559c089a08e5b4d17cdfcaf9e7c7f859c1d39d3b2ca50b0f1738c697e4da4"), looks := false }, kinds := [], alts := [], laidByText := true, laidKinds := [.data, .pinned], laidTests := true, laidLooks := .later }
def FnExactCleanDoneUptoCardSaid : Prop := Claim7.holds Tryz.pinned (.plain (OpenSpec.upto fnExactCleanDoneSpec)) fnExactCleanDoneUptoCard

/-- THE SECOND FORM's CARD OF 'laws.FnExactEdgesOf'. -/
def fnExactEdgesOfUptoCard : Claim7 := { stood := { row := fnExactEdgesOfUptoRow, standIns := [], harness := (true, "8c0559c089a08e5b4d17cdfcaf9e7c7f859c1d39d3b2ca50b0f1738c697e4da4"), looks := false }, kinds := [], alts := [], laidByText := true, laidKinds := [.data, .pinned], laidTests := true, laidLooks := .later }
def FnExactEdgesOfUptoCardSaid : Prop := Claim7.holds Tryz.pinned (.plain (OpenSpec.upto fnExactEdgesOfSpec)) fnExactEdgesOfUptoCard
end Rows
end Go.Proofs.YtkafanjfjplakaaGreatDoor
