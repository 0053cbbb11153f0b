/-
  DERIVED. GIVEN WITH THE SEED: THE CARDS: each row of YtmipdjlogjdglaaGreatDoorRows.lean that lists a variable, with what it lists TIED to the program's text (the seventh form; the later family's looks); each row that meets fmt, with fmt's text TOLD by the authors' own Lean function (tested against real Go, not proved from fmt's source: count such statements apart). THE CARD IS WHAT COUNTS. Prove the row's statement (the work); the ties are given (YtmipdjlogjdglaaGreatDoorTie.lean); close each card by the builder's one call (the guide's Derived/Test/ToyasCard.lean, 'card_holds'). Laid BY PROGRAM, IN A SANDBOX (cutbox-door.mjs). By AI agents, Wed Nov 11 2026. No macro, syntax, notation, axiom, sorry.
-/
import Derived.Test.YtmipdjlogjdglaaGreatDoorRows
import GoSem.ClaimSeven
namespace Go.Proofs.YtmipdjlogjdglaaGreatDoor
namespace Rows

/-- THE TIED CARD OF 'laws.FnIntervals'. -/
def fnIntervalsCard : Claim7 := { stood := { row := fnIntervalsRow, standIns := [], harness := (true, "bf17afa66dc947d0f498a9f3dd9b672ff151ad9125968f4f4e7c96abc6549a62"), looks := false }, kinds := [], alts := [], laidByText := true, laidKinds := [.data, .pinned], laidTests := true, laidLooks := .later }
def FnIntervalsCardSaid : Prop := Claim7.holds Tryz.pinned (.plain (OpenSpec.ofChange fnIntervalsSpec)) fnIntervalsCard

/-- THE TIED CARD OF 'laws.FnExactFilterText'. -/
def fnExactFilterTextCard : Claim7 := { stood := { row := fnExactFilterTextRow, standIns := [], harness := (true, "bf17afa66dc947d0f498a9f3dd9b672ff151ad9125968f4f4e7c96abc6549a62"), looks := false }, kinds := [], alts := [], laidByText := true, laidKinds := [.data, .data, .data, .data, .data, .pinned], laidTests := true, laidLooks := .later }
def FnExactFilterTextCardSaid : Prop := Claim7.holds Tryz.pinned (.plain (OpenSpec.ofChange fnExactFilterTextSpec)) fnExactFilterTextCard

/-- THE TIED CARD OF 'laws.FnExactDoneOK'. -/
def fnExactDoneOKCard : Claim7 := { stood := { row := fnExactDoneOKRow, standIns := [], harness := (true, "bf17afa66dc947d0f498a9f3dd9b672ff151ad9125968f4f4e7c96abc6549a62"), looks := false }, kinds := [], alts := [], laidByText := true, laidKinds := [.data, .pinned], laidTests := true, laidLooks := .later }
def FnExactDoneOKCardSaid : Prop := Claim7.holds Tryz.pinned (.plain (OpenSpec.ofChange fnExactDoneOKSpec)) fnExactDoneOKCard

/-- THE TIED CARD OF 'laws.FnExactCleanDone'. -/
def fnExactCleanDoneCard : Claim7 := { stood := { row := fnExactCleanDoneRow, standIns := [], harness := (true, "bf17afa66dc947d0f498a9f3dd9b672ff151ad9125968f4f4e7c96abc6549a62"), looks := false }, kinds := [], alts := [], laidByText := true, laidKinds := [.data, .pinned], laidTests := true, laidLooks := .later }
def FnExactCleanDoneCardSaid : Prop := Claim7.holds Tryz.pinned (.plain (OpenSpec.ofChange fnExactCleanDoneSpec)) fnExactCleanDoneCard

/-- THE TIED CARD OF 'laws.FnExactEdgesOf'. -/
def fnExactEdgesOfCard : Claim7 := { stood := { row := fnExactEdgesOfRow, standIns := [], harness := (true, "bf17afa66dc947d0f498a9f3dd9b672ff151ad9125968f4f4e7c96abc6549a62"), looks := false }, kinds := [], alts := [], laidByText := true, laidKinds := [.data, .pinned], laidTests := true, laidLooks := .later }
def FnExactEdgesOfCardSaid : Prop := Claim7.holds Tryz.pinned (.plain (OpenSpec.ofChange fnExactEdgesOfSpec)) fnExactEdgesOfCard

/-- THE SECOND FORM's CARD OF 'laws.FnIntervals'. -/
def fnIntervalsUptoCard : Claim7 := { stood := { row := fnIntervalsUptoRow, standIns := [], harness := (true, "bf17afa66dc947d0f498a9f3dd9b672ff151ad9125968f4f4e7c96abc6549a62"), looks := false }, kinds := [], alts := [], laidByText := true, laidKinds := [.data, .pinned], laidTests := true, laidLooks := .later }
def FnIntervalsUptoCardSaid : Prop := Claim7.holds Tryz.pinned (.plain (OpenSpec.upto fnIntervalsSpec)) fnIntervalsUptoCard

/-- THE SECOND FORM's CARD OF 'laws.FnExactFilterText'. -/
def fnExactFilterTextUptoCard : Claim7 := { stood := { row := fnExactFilterTextUptoRow, standIns := [], harness := (true, "bf17afa66dc947d0f498a9f3dd9b672ff151ad9125968f4f4e7c96abc6549a62"), looks := false }, kinds := [], alts := [], laidByText := true, laidKinds := [.data, .data, .data, .data, .data, .pinned], laidTests := true, laidLooks := .later }
def FnExactFilterTextUptoCardSaid : Prop := Claim7.holds Tryz.pinned (.plain (OpenSpec.upto fnExactFilterTextSpec)) fnExactFilterTextUptoCard

/-- THE SECOND FORM's CARD OF 'laws.FnExactDoneOK'. -/
def fnExactDoneOKUptoCard : Claim7 := { stood := { row := fnExactDoneOKUptoRow, standIns := [], harness := (true, "bf17afa66dc947d0f498a9f3dd9b672ff151ad9125968f4f4e7c96abc6549a62"), looks := false }, kinds := [], alts := [], laidByText := true, laidKinds := [.data, .pinned], laidTests := true, laidLooks := .later }
def FnExactDoneOKUptoCardSaid : Prop := Claim7.holds Tryz.pinned (.plain (OpenSpec.upto fnExactDoneOKSpec)) fnExactDoneOKUptoCard

/-- THE SECOND FORM's CARD OF 'laws.FnExactCleanDone'. -/
def fnExactCleanDoneUptoCard : Claim7 := { stood := { row := fnExactCleanDoneUptoRow, standIns := [], harness := (true, "bf17afa66dc947d0f498a9f3dd9b672ff151ad9125968f4f4e7c96abc6549a62"), looks := false }, kinds := [], alts := [], laidByText := true, laidKinds := [.data, .pinned], laidTests := true, laidLooks := .later }
def FnExactCleanDoneUptoCardSaid : Prop := Claim7.holds Tryz.pinned (.plain (OpenSpec.upto fnExactCleanDoneSpec)) fnExactCleanDoneUptoCard

/-- THE SECOND FORM's CARD OF 'laws.FnExactEdgesOf'. -/
def fnExactEdgesOfUptoCard : Claim7 := { stood := { row := fnExactEdgesOfUptoRow, standIns := [], harness := (true, "bf17afa66dc947d0f498a9f3dd9b672ff151ad9125968f4f4e7c96abc6549a62"), looks := false }, kinds := [], alts := [], laidByText := true, laidKinds := [.data, .pinned], laidTests := true, laidLooks := .later }
def FnExactEdgesOfUptoCardSaid : Prop := Claim7.holds Tryz.pinned (.plain (OpenSpec.upto fnExactEdgesOfSpec)) fnExactEdgesOfUptoCard
end Rows
end Go.Proofs.YtmipdjlogjdglaaGreatDoor
