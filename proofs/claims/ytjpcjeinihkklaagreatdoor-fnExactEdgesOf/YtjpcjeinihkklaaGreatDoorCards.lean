/-
  DERIVED. GIVEN WITH THE SEED: THE CARDS: each row of YtjpcjeinihkklaaGreatDoorRows.lean that lists a variable, with what it lists TIED to the program's text (the seventh form; the later family's looks); each row that meets fmt, with fmt's text TOLD by the authors' own Lean function (tested against real Go, not proved from fmt's source: count such statements apart). THE CARD IS WHAT COUNTS. Prove the row's statement (the work); the ties are given (YtjpcjeinihkklaaGreatDoorTie.lean); close each card by the builder's one call (the guide's Derived/Test/ToyasCard.lean, 'card_holds'). Laid BY PROGRAM, IN A SANDBOX (cutbox-door.mjs). By AI agents, Wed Nov 11 2026. No macro, syntax, notation, axiom, sorry.
-/
import Derived.Test.YtjpcjeinihkklaaGreatDoorRows
import GoSem.ClaimSeven
namespace Go.Proofs.YtjpcjeinihkklaaGreatDoor
namespace Rows

/-- THE TIED CARD OF 'laws.FnExactEdgesOf'. -/
def fnExactEdgesOfCard : Claim7 := { stood := { row := fnExactEdgesOfRow, standIns := [], harness := (true, "e0b684466a82f179ee19ebd7794be59c3443b212f849727aedc256b43485e99b"), looks := false }, kinds := [], alts := [], laidByText := true, laidKinds := [.data, .pinned], laidTests := true, laidLooks := .later }
def FnExactEdgesOfCardSaid : Prop := Claim7.holds Tryz.pinned (.plain (OpenSpec.ofChange fnExactEdgesOfSpec)) fnExactEdgesOfCard

/-- THE TIED CARD OF 'laws.FnExactCleanDone'. -/
def fnExactCleanDoneCard : Claim7 := { stood := { row := fnExactCleanDoneRow, standIns := [], harness := (true, "e0b684466a82f179ee19ebd7794be59c3443b212f849727aedc256b43485e99b"), looks := false }, kinds := [], alts := [], laidByText := true, laidKinds := [.data, .pinned], laidTests := true, laidLooks := .later }
def FnExactCleanDoneCardSaid : Prop := Claim7.holds Tryz.pinned (.plain (OpenSpec.ofChange fnExactCleanDoneSpec)) fnExactCleanDoneCard

/-- THE TIED CARD OF 'laws.FnExactCertify'. -/
def fnExactCertifyCard : Claim7 := { stood := { row := fnExactCertifyRow, standIns := [], harness := (true, "e0b684466a82f179ee19ebd7794be59c3443b212f849727aedc256b43485e99b"), looks := false }, kinds := [], alts := [], laidByText := true, laidKinds := [.data, .pinned], laidTests := true, laidLooks := .later }
def FnExactCertifyCardSaid : Prop := Claim7.holds Tryz.pinned (.plain (OpenSpec.ofChange fnExactCertifySpec)) fnExactCertifyCard

/-- THE SECOND FORM's CARD OF 'laws.FnExactEdgesOf'. -/
def fnExactEdgesOfUptoCard : Claim7 := { stood := { row := fnExactEdgesOfUptoRow, standIns := [], harness := (true, "e0b684466a82f179ee19ebd7794be59c3443b212f849727aedc256b43485e99b"), looks := false }, kinds := [], alts := [], laidByText := true, laidKinds := [.data, .pinned], laidTests := true, laidLooks := .later }
def FnExactEdgesOfUptoCardSaid : Prop := Claim7.holds Tryz.pinned (.plain (OpenSpec.upto fnExactEdgesOfSpec)) fnExactEdgesOfUptoCard

/-- THE SECOND FORM's CARD OF 'laws.FnExactCleanDone'. -/
def fnExactCleanDoneUptoCard : Claim7 := { stood := { row := fnExactCleanDoneUptoRow, standIns := [], harness := (true, "e0b684466a82f179ee19ebd7794be59c3443b212f849727aedc256b43485e99b"), looks := false }, kinds := [], alts := [], laidByText := true, laidKinds := [.data, .pinned], laidTests := true, laidLooks := .later }
def FnExactCleanDoneUptoCardSaid : Prop := Claim7.holds Tryz.pinned (.plain (OpenSpec.upto fnExactCleanDoneSpec)) fnExactCleanDoneUptoCard

/-- THE SECOND FORM's CARD OF 'laws.FnExactCertify'. -/
def fnExactCertifyUptoCard : Claim7 := { stood := { row := fnExactCertifyUptoRow, standIns := [], harness := (true, "e0b684466a82f179ee19ebd7794be59c3443b212f849727aedc256b43485e99b"), looks := false }, kinds := [], alts := [], laidByText := true, laidKinds := [.data, .pinned], laidTests := true, laidLooks := .later }
def FnExactCertifyUptoCardSaid : Prop := Claim7.holds Tryz.pinned (.plain (OpenSpec.upto fnExactCertifySpec)) fnExactCertifyUptoCard
end Rows
end Go.Proofs.YtjpcjeinihkklaaGreatDoor
