/-
  DERIVED. GIVEN WITH THE SEED: THE CARDS: each row of YtbplmgmajmomcaaGreatDoorRows.lean that lists a variable, with what it lists TIED to the program's text (the seventh form; the later family's looks); each row that meets fmt, with fmt's text TOLD by the authors' own Lean function (tested against real Go, not proved from fmt's source: count such statements apart). THE CARD IS WHAT COUNTS. Prove the row's statement (the work); the ties are given (YtbplmgmajmomcaaGreatDoorTie.lean); close each card by the builder's one call (the guide's Derived/Test/ToyasCard.lean, 'card_holds'). Laid BY PROGRAM, IN A SANDBOX (cutbox-door.mjs). By AI agents, Wed Nov 11 2026. No macro, syntax, notation, axiom, sorry.
-/
import Derived.Test.YtbplmgmajmomcaaGreatDoorRows
import GoSem.ClaimSeven
namespace Go.Proofs.YtbplmgmajmomcaaGreatDoor
namespace Rows

/-- THE TIED CARD OF 'laws.FnExactStoreOK'. -/
def fnExactStoreOKCard : Claim7 := { stood := { row := fnExactStoreOKRow, standIns := [], harness := (true, "6ef42346d613d12803b045d6f98a8b18f2bf898fcc08221bb29f6ddb2a601a9a"), looks := false }, kinds := [], alts := [], laidByText := true, laidKinds := [.data, .pinned], laidTests := true, laidLooks := .later }
def FnExactStoreOKCardSaid : Prop := Claim7.holds Tryz.pinned (.plain (OpenSpec.ofChange fnExactStoreOKSpec)) fnExactStoreOKCard

/-- THE TIED CARD OF 'laws.FnExactCommandOK'. -/
def fnExactCommandOKCard : Claim7 := { stood := { row := fnExactCommandOKRow, standIns := [], harness := (true, "6ef42346d613d12803b045d6f98a8b18f2bf898fcc08221bb29f6ddb2a601a9a"), looks := false }, kinds := [], alts := [], laidByText := true, laidKinds := [.data, .pinned], laidTests := true, laidLooks := .later }
def FnExactCommandOKCardSaid : Prop := Claim7.holds Tryz.pinned (.plain (OpenSpec.ofChange fnExactCommandOKSpec)) fnExactCommandOKCard

/-- THE TIED CARD OF 'laws.FnExactOpenSessions'. -/
def fnExactOpenSessionsCard : Claim7 := { stood := { row := fnExactOpenSessionsRow, standIns := [], harness := (true, "6ef42346d613d12803b045d6f98a8b18f2bf898fcc08221bb29f6ddb2a601a9a"), looks := false }, kinds := [], alts := [], laidByText := true, laidKinds := [.data, .pinned], laidTests := true, laidLooks := .later }
def FnExactOpenSessionsCardSaid : Prop := Claim7.holds Tryz.pinned (.plain (OpenSpec.ofChange fnExactOpenSessionsSpec)) fnExactOpenSessionsCard

/-- THE TIED CARD OF 'laws.FnExactDocsNow'. -/
def fnExactDocsNowCard : Claim7 := { stood := { row := fnExactDocsNowRow, standIns := [], harness := (true, "6ef42346d613d12803b045d6f98a8b18f2bf898fcc08221bb29f6ddb2a601a9a"), looks := false }, kinds := [], alts := [], laidByText := true, laidKinds := [.data, .pinned], laidTests := true, laidLooks := .later }
def FnExactDocsNowCardSaid : Prop := Claim7.holds Tryz.pinned (.plain (OpenSpec.ofChange fnExactDocsNowSpec)) fnExactDocsNowCard

/-- THE TIED CARD OF 'laws.FnExactOldestSnap'. -/
def fnExactOldestSnapCard : Claim7 := { stood := { row := fnExactOldestSnapRow, standIns := [], harness := (true, "6ef42346d613d12803b045d6f98a8b18f2bf898fcc08221bb29f6ddb2a601a9a"), looks := false }, kinds := [], alts := [], laidByText := true, laidKinds := [.data, .pinned], laidTests := true, laidLooks := .later }
def FnExactOldestSnapCardSaid : Prop := Claim7.holds Tryz.pinned (.plain (OpenSpec.ofChange fnExactOldestSnapSpec)) fnExactOldestSnapCard

/-- THE SECOND FORM's CARD OF 'laws.FnExactStoreOK'. -/
def fnExactStoreOKUptoCard : Claim7 := { stood := { row := fnExactStoreOKUptoRow, standIns := [], harness := (true, "6ef42346d613d12803b045d6f98a8b18f2bf898fcc08221bb29f6ddb2a601a9a"), looks := false }, kinds := [], alts := [], laidByText := true, laidKinds := [.data, .pinned], laidTests := true, laidLooks := .later }
def FnExactStoreOKUptoCardSaid : Prop := Claim7.holds Tryz.pinned (.plain (OpenSpec.upto fnExactStoreOKSpec)) fnExactStoreOKUptoCard

/-- THE SECOND FORM's CARD OF 'laws.FnExactCommandOK'. -/
def fnExactCommandOKUptoCard : Claim7 := { stood := { row := fnExactCommandOKUptoRow, standIns := [], harness := (true, "6ef42346d613d12803b045d6f98a8b18f2bf898fcc08221bb29f6ddb2a601a9a"), looks := false }, kinds := [], alts := [], laidByText := true, laidKinds := [.data, .pinned], laidTests := true, laidLooks := .later }
def FnExactCommandOKUptoCardSaid : Prop := Claim7.holds Tryz.pinned (.plain (OpenSpec.upto fnExactCommandOKSpec)) fnExactCommandOKUptoCard

/-- THE SECOND FORM's CARD OF 'laws.FnExactOpenSessions'. -/
def fnExactOpenSessionsUptoCard : Claim7 := { stood := { row := fnExactOpenSessionsUptoRow, standIns := [], harness := (true, "6ef42346d613d12803b045d6f98a8b18f2bf898fcc08221bb29f6ddb2a601a9a"), looks := false }, kinds := [], alts := [], laidByText := true, laidKinds := [.data, .pinned], laidTests := true, laidLooks := .later }
def FnExactOpenSessionsUptoCardSaid : Prop := Claim7.holds Tryz.pinned (.plain (OpenSpec.upto fnExactOpenSessionsSpec)) fnExactOpenSessionsUptoCard

/-- THE SECOND FORM's CARD OF 'laws.FnExactDocsNow'. -/
def fnExactDocsNowUptoCard : Claim7 := { stood := { row := fnExactDocsNowUptoRow, standIns := [], harness := (true, "6ef42346d613d12803b045d6f98a8b18f2bf898fcc08221bb29f6ddb2a601a9a"), looks := false }, kinds := [], alts := [], laidByText := true, laidKinds := [.data, .pinned], laidTests := true, laidLooks := .later }
def FnExactDocsNowUptoCardSaid : Prop := Claim7.holds Tryz.pinned (.plain (OpenSpec.upto fnExactDocsNowSpec)) fnExactDocsNowUptoCard

/-- THE SECOND FORM's CARD OF 'laws.FnExactOldestSnap'. -/
def fnExactOldestSnapUptoCard : Claim7 := { stood := { row := fnExactOldestSnapUptoRow, standIns := [], harness := (true, "6ef42346d613d12803b045d6f98a8b18f2bf898fcc08221bb29f6ddb2a601a9a"), looks := false }, kinds := [], alts := [], laidByText := true, laidKinds := [.data, .pinned], laidTests := true, laidLooks := .later }
def FnExactOldestSnapUptoCardSaid : Prop := Claim7.holds Tryz.pinned (.plain (OpenSpec.upto fnExactOldestSnapSpec)) fnExactOldestSnapUptoCard
end Rows
end Go.Proofs.YtbplmgmajmomcaaGreatDoor
