/-
  DERIVED. GIVEN WITH THE SEED: THE CARDS: each row of YtpfbepbmiillbaaGreatDoorRows.lean that lists a variable, with what it lists TIED to the program's text (the seventh form; the later family's looks); each row that meets fmt, with fmt's text TOLD by the authors' own Lean function (tested against real Go, not proved from fmt's source: count such statements apart). THE CARD IS WHAT COUNTS. Prove the row's statement (the work); the ties are given (YtpfbepbmiillbaaGreatDoorTie.lean); close each card by the builder's one call (the guide's Derived/Test/ToyasCard.lean, 'card_holds'). Laid BY PROGRAM, IN A SANDBOX (cutbox-door.mjs). By AI agents, Wed Nov 11 2026. No macro, syntax, notation, axiom, sorry.
-/
import Derived.Test.YtpfbepbmiillbaaGreatDoorRows
import GoSem.ClaimSeven
namespace Go.Proofs.YtpfbepbmiillbaaGreatDoor
namespace Rows

/-- THE TIED CARD OF 'laws.FnExactStoreOK'. -/
def fnExactStoreOKCard : Claim7 := { stood := { row := fnExactStoreOKRow, standIns := [], harness := (true, "600674310bf268d45fd1e86b779ce7b9f3de861423041fa2a6b6824339be0a18"), looks := false }, kinds := [], alts := [], laidByText := true, laidKinds := [.data, .pinned], laidTests := true, laidLooks := .later }
def FnExactStoreOKCardSaid : Prop := Claim7.holds Tryz.pinned (.plain (OpenSpec.ofChange fnExactStoreOKSpec)) fnExactStoreOKCard

/-- THE TIED CARD OF 'laws.FnExactOldestSnap'. -/
def fnExactOldestSnapCard : Claim7 := { stood := { row := fnExactOldestSnapRow, standIns := [], harness := (true, "600674310bf268d45fd1e86b779ce7b9f3de861423041fa2a6b6824339be0a18"), looks := false }, kinds := [], alts := [], laidByText := true, laidKinds := [.data, .pinned], laidTests := true, laidLooks := .later }
def FnExactOldestSnapCardSaid : Prop := Claim7.holds Tryz.pinned (.plain (OpenSpec.ofChange fnExactOldestSnapSpec)) fnExactOldestSnapCard

/-- THE TIED CARD OF 'laws.FnExactOpenSessions'. -/
def fnExactOpenSessionsCard : Claim7 := { stood := { row := fnExactOpenSessionsRow, standIns := [], harness := (true, "600674310bf268d45fd1e86b779ce7b9f3de861423041fa2a6b6824339be0a18"), looks := false }, kinds := [], alts := [], laidByText := true, laidKinds := [.data, .pinned], laidTests := true, laidLooks := .later }
def FnExactOpenSessionsCardSaid : Prop := Claim7.holds Tryz.pinned (.plain (OpenSpec.ofChange fnExactOpenSessionsSpec)) fnExactOpenSessionsCard

/-- THE TIED CARD OF 'laws.FnExactDocsNow'. -/
def fnExactDocsNowCard : Claim7 := { stood := { row := fnExactDocsNowRow, standIns := [], harness := (true, "600674310bf268d45fd1e86b779ce7b9f3de861423041fa2a6b6824339be0a18"), looks := false }, kinds := [], alts := [], laidByText := true, laidKinds := [.data, .pinned], laidTests := true, laidLooks := .later }
def FnExactDocsNowCardSaid : Prop := Claim7.holds Tryz.pinned (.plain (OpenSpec.ofChange fnExactDocsNowSpec)) fnExactDocsNowCard

/-- THE TIED CARD OF 'laws.FnExactSameDocs'. -/
def fnExactSameDocsCard : Claim7 := { stood := { row := fnExactSameDocsRow, standIns := [], harness := (true, "600674310bf268d45fd1e86b779ce7b9f3de861423041fa2a6b6824339be0a18"), looks := false }, kinds := [], alts := [], laidByText := true, laidKinds := [.data, .pinned], laidTests := true, laidLooks := .later }
def FnExactSameDocsCardSaid : Prop := Claim7.holds Tryz.pinned (.plain (OpenSpec.ofChange fnExactSameDocsSpec)) fnExactSameDocsCard

/-- THE SECOND FORM's CARD OF 'laws.FnExactStoreOK'. -/
def fnExactStoreOKUptoCard : Claim7 := { stood := { row := fnExactStoreOKUptoRow, standIns := [], harness := (true, "600674310bf268d45fd1e86b779ce7b9f3de861423041fa2a6b6824339be0a18"), looks := false }, kinds := [], alts := [], laidByText := true, laidKinds := [.data, .pinned], laidTests := true, laidLooks := .later }
def FnExactStoreOKUptoCardSaid : Prop := Claim7.holds Tryz.pinned (.plain (OpenSpec.upto fnExactStoreOKSpec)) fnExactStoreOKUptoCard

/-- THE SECOND FORM's CARD OF 'laws.FnExactOldestSnap'. -/
def fnExactOldestSnapUptoCard : Claim7 := { stood := { row := fnExactOldestSnapUptoRow, standIns := [], harness := (true, "600674310bf268d45fd1e86b779ce7b9f3de861423041fa2a6b6824339be0a18"), looks := false }, kinds := [], alts := [], laidByText := true, laidKinds := [.data, .pinned], laidTests := true, laidLooks := .later }
def FnExactOldestSnapUptoCardSaid : Prop := Claim7.holds Tryz.pinned (.plain (OpenSpec.upto fnExactOldestSnapSpec)) fnExactOldestSnapUptoCard

/-- THE SECOND FORM's CARD OF 'laws.FnExactOpenSessions'. -/
def fnExactOpenSessionsUptoCard : Claim7 := { stood := { row := fnExactOpenSessionsUptoRow, standIns := [], harness := (true, "600674310bf268d45fd1e86b779ce7b9f3de861423041fa2a6b6824339be0a18"), looks := false }, kinds := [], alts := [], laidByText := true, laidKinds := [.data, .pinned], laidTests := true, laidLooks := .later }
def FnExactOpenSessionsUptoCardSaid : Prop := Claim7.holds Tryz.pinned (.plain (OpenSpec.upto fnExactOpenSessionsSpec)) fnExactOpenSessionsUptoCard

/-- THE SECOND FORM's CARD OF 'laws.FnExactDocsNow'. -/
def fnExactDocsNowUptoCard : Claim7 := { stood := { row := fnExactDocsNowUptoRow, standIns := [], harness := (true, "600674310bf268d45fd1e86b779ce7b9f3de861423041fa2a6b6824339be0a18"), looks := false }, kinds := [], alts := [], laidByText := true, laidKinds := [.data, .pinned], laidTests := true, laidLooks := .later }
def FnExactDocsNowUptoCardSaid : Prop := Claim7.holds Tryz.pinned (.plain (OpenSpec.upto fnExactDocsNowSpec)) fnExactDocsNowUptoCard

/-- THE SECOND FORM's CARD OF 'laws.FnExactSameDocs'. -/
def fnExactSameDocsUptoCard : Claim7 := { stood := { row := fnExactSameDocsUptoRow, standIns := [], harness := (true, "600674310bf268d45fd1e86b779ce7b9f3de861423041fa2a6b6824339be0a18"), looks := false }, kinds := [], alts := [], laidByText := true, laidKinds := [.data, .pinned], laidTests := true, laidLooks := .later }
def FnExactSameDocsUptoCardSaid : Prop := Claim7.holds Tryz.pinned (.plain (OpenSpec.upto fnExactSameDocsSpec)) fnExactSameDocsUptoCard
end Rows
end Go.Proofs.YtpfbepbmiillbaaGreatDoor
