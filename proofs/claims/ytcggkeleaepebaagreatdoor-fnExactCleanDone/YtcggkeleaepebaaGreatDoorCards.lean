/-
  DERIVED. GIVEN WITH THE SEED: THE CARDS: each row of YtcggkeleaepebaaGreatDoorRows.lean that lists a variable, with what it lists TIED to the program's text (the seventh form; the later family's looks); each row that meets fmt, with fmt's text TOLD by the authors' own Lean function (tested against real Go, not proved from fmt's source: count such statements apart). THE CARD IS WHAT COUNTS. Prove the row's statement (the work); the ties are given (YtcggkeleaepebaaGreatDoorTie.lean); close each card by the builder's one call (the guide's Derived/Test/ToyasCard.lean, 'card_holds'). Laid BY PROGRAM, IN A SANDBOX (cutbox-door.mjs). By AI agents, Wed Nov 11 2026. No macro, syntax, notation, axiom, sorry.
-/
import Derived.Test.YtcggkeleaepebaaGreatDoorRows
import GoSem.ClaimSeven
namespace Go.Proofs.YtcggkeleaepebaaGreatDoor
namespace Rows

/-- THE TIED CARD OF 'laws.FnExactCertify'. -/
def fnExactCertifyCard : Claim7 := { stood := { row := fnExactCertifyRow, standIns := [], harness := (true, "2543b94df6b83a95bac35c8cc1e68523bf4c9135a4b0dfc17b9a0551b8359d75"), looks := false }, kinds := [], alts := [], laidByText := true, laidKinds := [.data, .pinned], laidTests := true, laidLooks := .later }
def FnExactCertifyCardSaid : Prop := Claim7.holds Tryz.pinned (.plain (OpenSpec.ofChange fnExactCertifySpec)) fnExactCertifyCard

/-- THE TIED CARD OF 'laws.FnExactCleanDone'. -/
def fnExactCleanDoneCard : Claim7 := { stood := { row := fnExactCleanDoneRow, standIns := [], harness := (true, "2543b94df6b83a95bac35c8cc1e68523bf4c9135a4b0dfc17b9a0551b8359d75"), looks := false }, kinds := [], alts := [], laidByText := true, laidKinds := [.data, .pinned], laidTests := true, laidLooks := .later }
def FnExactCleanDoneCardSaid : Prop := Claim7.holds Tryz.pinned (.plain (OpenSpec.ofChange fnExactCleanDoneSpec)) fnExactCleanDoneCard

/-- THE SECOND FORM's CARD OF 'laws.FnExactCertify'. -/
def fnExactCertifyUptoCard : Claim7 := { stood := { row := fnExactCertifyUptoRow, standIns := [], harness := (true, "2543b94df6b83a95bac35c8cc1e68523bf4c9135a4b0dfc17b9a0551b8359d75"), looks := false }, kinds := [], alts := [], laidByText := true, laidKinds := [.data, .pinned], laidTests := true, laidLooks := .later }
def FnExactCertifyUptoCardSaid : Prop := Claim7.holds Tryz.pinned (.plain (OpenSpec.upto fnExactCertifySpec)) fnExactCertifyUptoCard

/-- THE SECOND FORM's CARD OF 'laws.FnExactCleanDone'. -/
def fnExactCleanDoneUptoCard : Claim7 := { stood := { row := fnExactCleanDoneUptoRow, standIns := [], harness := (true, "2543b94df6b83a95bac35c8cc1e68523bf4c9135a4b0dfc17b9a0551b8359d75"), looks := false }, kinds := [], alts := [], laidByText := true, laidKinds := [.data, .pinned], laidTests := true, laidLooks := .later }
def FnExactCleanDoneUptoCardSaid : Prop := Claim7.holds Tryz.pinned (.plain (OpenSpec.upto fnExactCleanDoneSpec)) fnExactCleanDoneUptoCard
end Rows
end Go.Proofs.YtcggkeleaepebaaGreatDoor
