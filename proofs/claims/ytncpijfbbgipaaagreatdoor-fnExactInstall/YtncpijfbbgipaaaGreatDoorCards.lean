/-
  DERIVED. GIVEN WITH THE SEED: THE CARDS: each row of YtncpijfbbgipaaaGreatDoorRows.lean that lists a variable, with what it lists TIED to the program's text (the seventh form; the later family's looks); each row that meets fmt, with fmt's text TOLD by the authors' own Lean function (tested against real Go, not proved from fmt's source: count such statements apart). THE CARD IS WHAT COUNTS. Prove the row's statement (the work); the ties are given (YtncpijfbbgipaaaGreatDoorTie.lean); close each card by the builder's one call (the guide's Derived/Test/ToyasCard.lean, 'card_holds'). Laid BY PROGRAM, IN A SANDBOX (cutbox-door.mjs). By AI agents, Wed Nov 11 2026. No macro, syntax, notation, axiom, sorry.
-/
import Derived.Test.YtncpijfbbgipaaaGreatDoorRows
import GoSem.ClaimSeven
namespace Go.Proofs.YtncpijfbbgipaaaGreatDoor
namespace Rows

/-- THE TIED CARD OF 'laws.FnExactInstall'. -/
def fnExactInstallCard : Claim7 := { stood := { row := fnExactInstallRow, standIns := [], harness := (true, "354b447890fc7ab7b1a1fb1a85e432694b65d1c99af6196497f183fbefa27b64"), looks := false }, kinds := [], alts := [], laidByText := true, laidKinds := [.data, .pinned], laidTests := true, laidLooks := .later }
def FnExactInstallCardSaid : Prop := Claim7.holds Tryz.pinned (.plain (OpenSpec.ofChange fnExactInstallSpec)) fnExactInstallCard

/-- THE TIED CARD OF 'laws.FnExactVacuum'. -/
def fnExactVacuumCard : Claim7 := { stood := { row := fnExactVacuumRow, standIns := [], harness := (true, "354b447890fc7ab7b1a1fb1a85e432694b65d1c99af6196497f183fbefa27b64"), looks := false }, kinds := [], alts := [], laidByText := true, laidKinds := [.data, .pinned], laidTests := true, laidLooks := .later }
def FnExactVacuumCardSaid : Prop := Claim7.holds Tryz.pinned (.plain (OpenSpec.ofChange fnExactVacuumSpec)) fnExactVacuumCard

/-- THE SECOND FORM's CARD OF 'laws.FnExactInstall'. -/
def fnExactInstallUptoCard : Claim7 := { stood := { row := fnExactInstallUptoRow, standIns := [], harness := (true, "354b447890fc7ab7b1a1fb1a85e432694b65d1c99af6196497f183fbefa27b64"), looks := false }, kinds := [], alts := [], laidByText := true, laidKinds := [.data, .pinned], laidTests := true, laidLooks := .later }
def FnExactInstallUptoCardSaid : Prop := Claim7.holds Tryz.pinned (.plain (OpenSpec.upto fnExactInstallSpec)) fnExactInstallUptoCard

/-- THE SECOND FORM's CARD OF 'laws.FnExactVacuum'. -/
def fnExactVacuumUptoCard : Claim7 := { stood := { row := fnExactVacuumUptoRow, standIns := [], harness := (true, "354b447890fc7ab7b1a1fb1a85e432694b65d1c99af6196497f183fbefa27b64"), looks := false }, kinds := [], alts := [], laidByText := true, laidKinds := [.data, .pinned], laidTests := true, laidLooks := .later }
def FnExactVacuumUptoCardSaid : Prop := Claim7.holds Tryz.pinned (.plain (OpenSpec.upto fnExactVacuumSpec)) fnExactVacuumUptoCard
end Rows
end Go.Proofs.YtncpijfbbgipaaaGreatDoor
