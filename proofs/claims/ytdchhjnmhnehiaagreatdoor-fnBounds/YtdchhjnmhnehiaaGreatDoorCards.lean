/-
  DERIVED. GIVEN WITH THE SEED: THE CARDS: each row of YtdchhjnmhnehiaaGreatDoorRows.lean that lists a variable, with what it lists TIED to the program's text (the seventh form; the later family's looks); each row that meets fmt, with fmt's text TOLD by the authors' own Lean function (tested against real Go, not proved from fmt's source: count such statements apart). THE CARD IS WHAT COUNTS. Prove the row's statement (the work); the ties are given (YtdchhjnmhnehiaaGreatDoorTie.lean); close each card by the builder's one call (the guide's Derived/Test/ToyasCard.lean, 'card_holds'). Laid BY PROGRAM, IN A SANDBOX (cutbox-door.mjs). By AI agents, Wed Nov 11 2026. No macro, syntax, notation, axiom, sorry.
-/
import Derived.Test.YtdchhjnmhnehiaaGreatDoorRows
import GoSem.ClaimSeven
namespace Go.Proofs.YtdchhjnmhnehiaaGreatDoor
namespace Rows

/-- THE TIED CARD OF 'laws.FnBounds'. -/
def fnBoundsCard : Claim7 := { stood := { row := fnBoundsRow, standIns := [], harness := (true, "7e56f339929648f41d04997de9e7b9f12f1b68af4a14fa75766c3057e9f9dbb2"), looks := false }, kinds := [], alts := [], laidByText := true, laidKinds := [.data, .pinned], laidTests := true, laidLooks := .later }
def FnBoundsCardSaid : Prop := Claim7.holds Tryz.pinned (.plain (OpenSpec.ofChange fnBoundsSpec)) fnBoundsCard

/-- THE TIED CARD OF 'laws.FnExactDocKeys'. -/
def fnExactDocKeysCard : Claim7 := { stood := { row := fnExactDocKeysRow, standIns := [], harness := (true, "7e56f339929648f41d04997de9e7b9f12f1b68af4a14fa75766c3057e9f9dbb2"), looks := false }, kinds := [], alts := [], laidByText := true, laidKinds := [.data, .pinned], laidTests := true, laidLooks := .later }
def FnExactDocKeysCardSaid : Prop := Claim7.holds Tryz.pinned (.plain (OpenSpec.ofChange fnExactDocKeysSpec)) fnExactDocKeysCard

/-- THE SECOND FORM's CARD OF 'laws.FnBounds'. -/
def fnBoundsUptoCard : Claim7 := { stood := { row := fnBoundsUptoRow, standIns := [], harness := (true, "7e56f339929648f41d04997de9e7b9f12f1b68af4a14fa75766c3057e9f9dbb2"), looks := false }, kinds := [], alts := [], laidByText := true, laidKinds := [.data, .pinned], laidTests := true, laidLooks := .later }
def FnBoundsUptoCardSaid : Prop := Claim7.holds Tryz.pinned (.plain (OpenSpec.upto fnBoundsSpec)) fnBoundsUptoCard

/-- THE SECOND FORM's CARD OF 'laws.FnExactDocKeys'. -/
def fnExactDocKeysUptoCard : Claim7 := { stood := { row := fnExactDocKeysUptoRow, standIns := [], harness := (true, "7e56f339929648f41d04997de9e7b9f12f1b68af4a14fa75766c3057e9f9dbb2"), looks := false }, kinds := [], alts := [], laidByText := true, laidKinds := [.data, .pinned], laidTests := true, laidLooks := .later }
def FnExactDocKeysUptoCardSaid : Prop := Claim7.holds Tryz.pinned (.plain (OpenSpec.upto fnExactDocKeysSpec)) fnExactDocKeysUptoCard
end Rows
end Go.Proofs.YtdchhjnmhnehiaaGreatDoor
