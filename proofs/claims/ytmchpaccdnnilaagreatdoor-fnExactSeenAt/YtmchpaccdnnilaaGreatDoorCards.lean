/-
  DERIVED. GIVEN WITH THE SEED: THE CARDS: each row of YtmchpaccdnnilaaGreatDoorRows.lean that lists a variable, with what it lists TIED to the program's text (the seventh form; the later family's looks); each row that meets fmt, with fmt's text TOLD by the authors' own Lean function (tested against real Go, not proved from fmt's source: count such statements apart). THE CARD IS WHAT COUNTS. Prove the row's statement (the work); the ties are given (YtmchpaccdnnilaaGreatDoorTie.lean); close each card by the builder's one call (the guide's Derived/Test/ToyasCard.lean, 'card_holds'). Laid BY PROGRAM, IN A SANDBOX (cutbox-door.mjs). By AI agents, Wed Nov 11 2026. No macro, syntax, notation, axiom, sorry.
-/
import Derived.Test.YtmchpaccdnnilaaGreatDoorRows
import GoSem.ClaimSeven
namespace Go.Proofs.YtmchpaccdnnilaaGreatDoor
namespace Rows

/-- THE TIED CARD OF 'laws.FnExactCollOK'. -/
def fnExactCollOKCard : Claim7 := { stood := { row := fnExactCollOKRow, standIns := [], harness := (true, "b210bda4b009971b6d568a6468f85d98af7cb3c0458082e4f51a9556c69ed204"), looks := false }, kinds := [], alts := [], laidByText := true, laidKinds := [.data, .pinned], laidTests := true, laidLooks := .later }
def FnExactCollOKCardSaid : Prop := Claim7.holds Tryz.pinned (.plain (OpenSpec.ofChange fnExactCollOKSpec)) fnExactCollOKCard

/-- THE TIED CARD OF 'laws.FnExactSeenAt'. -/
def fnExactSeenAtCard : Claim7 := { stood := { row := fnExactSeenAtRow, standIns := [], harness := (true, "b210bda4b009971b6d568a6468f85d98af7cb3c0458082e4f51a9556c69ed204"), looks := false }, kinds := [], alts := [], laidByText := true, laidKinds := [.data, .pinned], laidTests := true, laidLooks := .later }
def FnExactSeenAtCardSaid : Prop := Claim7.holds Tryz.pinned (.plain (OpenSpec.ofChange fnExactSeenAtSpec)) fnExactSeenAtCard

/-- THE TIED CARD OF 'laws.FnExactLastAt'. -/
def fnExactLastAtCard : Claim7 := { stood := { row := fnExactLastAtRow, standIns := [], harness := (true, "b210bda4b009971b6d568a6468f85d98af7cb3c0458082e4f51a9556c69ed204"), looks := false }, kinds := [], alts := [], laidByText := true, laidKinds := [.data, .pinned], laidTests := true, laidLooks := .later }
def FnExactLastAtCardSaid : Prop := Claim7.holds Tryz.pinned (.plain (OpenSpec.ofChange fnExactLastAtSpec)) fnExactLastAtCard

/-- THE TIED CARD OF 'laws.FnExactInstall'. -/
def fnExactInstallCard : Claim7 := { stood := { row := fnExactInstallRow, standIns := [], harness := (true, "b210bda4b009971b6d568a6468f85d98af7cb3c0458082e4f51a9556c69ed204"), looks := false }, kinds := [], alts := [], laidByText := true, laidKinds := [.data, .pinned], laidTests := true, laidLooks := .later }
def FnExactInstallCardSaid : Prop := Claim7.holds Tryz.pinned (.plain (OpenSpec.ofChange fnExactInstallSpec)) fnExactInstallCard

/-- THE TIED CARD OF 'laws.FnExactVacuum'. -/
def fnExactVacuumCard : Claim7 := { stood := { row := fnExactVacuumRow, standIns := [], harness := (true, "b210bda4b009971b6d568a6468f85d98af7cb3c0458082e4f51a9556c69ed204"), looks := false }, kinds := [], alts := [], laidByText := true, laidKinds := [.data, .pinned], laidTests := true, laidLooks := .later }
def FnExactVacuumCardSaid : Prop := Claim7.holds Tryz.pinned (.plain (OpenSpec.ofChange fnExactVacuumSpec)) fnExactVacuumCard

/-- THE TIED CARD OF 'laws.FnExactVersionsOf'. -/
def fnExactVersionsOfCard : Claim7 := { stood := { row := fnExactVersionsOfRow, standIns := [], harness := (true, "b210bda4b009971b6d568a6468f85d98af7cb3c0458082e4f51a9556c69ed204"), looks := false }, kinds := [], alts := [], laidByText := true, laidKinds := [.data, .pinned], laidTests := true, laidLooks := .later }
def FnExactVersionsOfCardSaid : Prop := Claim7.holds Tryz.pinned (.plain (OpenSpec.ofChange fnExactVersionsOfSpec)) fnExactVersionsOfCard

/-- THE SECOND FORM's CARD OF 'laws.FnExactCollOK'. -/
def fnExactCollOKUptoCard : Claim7 := { stood := { row := fnExactCollOKUptoRow, standIns := [], harness := (true, "b210bda4b009971b6d568a6468f85d98af7cb3c0458082e4f51a9556c69ed204"), looks := false }, kinds := [], alts := [], laidByText := true, laidKinds := [.data, .pinned], laidTests := true, laidLooks := .later }
def FnExactCollOKUptoCardSaid : Prop := Claim7.holds Tryz.pinned (.plain (OpenSpec.upto fnExactCollOKSpec)) fnExactCollOKUptoCard

/-- THE SECOND FORM's CARD OF 'laws.FnExactSeenAt'. -/
def fnExactSeenAtUptoCard : Claim7 := { stood := { row := fnExactSeenAtUptoRow, standIns := [], harness := (true, "b210bda4b009971b6d568a6468f85d98af7cb3c0458082e4f51a9556c69ed204"), looks := false }, kinds := [], alts := [], laidByText := true, laidKinds := [.data, .pinned], laidTests := true, laidLooks := .later }
def FnExactSeenAtUptoCardSaid : Prop := Claim7.holds Tryz.pinned (.plain (OpenSpec.upto fnExactSeenAtSpec)) fnExactSeenAtUptoCard

/-- THE SECOND FORM's CARD OF 'laws.FnExactLastAt'. -/
def fnExactLastAtUptoCard : Claim7 := { stood := { row := fnExactLastAtUptoRow, standIns := [], harness := (true, "b210bda4b009971b6d568a6468f85d98af7cb3c0458082e4f51a9556c69ed204"), looks := false }, kinds := [], alts := [], laidByText := true, laidKinds := [.data, .pinned], laidTests := true, laidLooks := .later }
def FnExactLastAtUptoCardSaid : Prop := Claim7.holds Tryz.pinned (.plain (OpenSpec.upto fnExactLastAtSpec)) fnExactLastAtUptoCard

/-- THE SECOND FORM's CARD OF 'laws.FnExactInstall'. -/
def fnExactInstallUptoCard : Claim7 := { stood := { row := fnExactInstallUptoRow, standIns := [], harness := (true, "b210bda4b009971b6d568a6468f85d98af7cb3c0458082e4f51a9556c69ed204"), looks := false }, kinds := [], alts := [], laidByText := true, laidKinds := [.data, .pinned], laidTests := true, laidLooks := .later }
def FnExactInstallUptoCardSaid : Prop := Claim7.holds Tryz.pinned (.plain (OpenSpec.upto fnExactInstallSpec)) fnExactInstallUptoCard

/-- THE SECOND FORM's CARD OF 'laws.FnExactVacuum'. -/
def fnExactVacuumUptoCard : Claim7 := { stood := { row := fnExactVacuumUptoRow, standIns := [], harness := (true, "b210bda4b009971b6d568a6468f85d98af7cb3c0458082e4f51a9556c69ed204"), looks := false }, kinds := [], alts := [], laidByText := true, laidKinds := [.data, .pinned], laidTests := true, laidLooks := .later }
def FnExactVacuumUptoCardSaid : Prop := Claim7.holds Tryz.pinned (.plain (OpenSpec.upto fnExactVacuumSpec)) fnExactVacuumUptoCard

/-- THE SECOND FORM's CARD OF 'laws.FnExactVersionsOf'. -/
def fnExactVersionsOfUptoCard : Claim7 := { stood := { row := fnExactVersionsOfUptoRow, standIns := [], harness := (true, "b210bda4b009971b6d568a6468f85d98af7cb3c0458082e4f51a9556c69ed204"), looks := false }, kinds := [], alts := [], laidByText := true, laidKinds := [.data, .pinned], laidTests := true, laidLooks := .later }
def FnExactVersionsOfUptoCardSaid : Prop := Claim7.holds Tryz.pinned (.plain (OpenSpec.upto fnExactVersionsOfSpec)) fnExactVersionsOfUptoCard
end Rows
end Go.Proofs.YtmchpaccdnnilaaGreatDoor
