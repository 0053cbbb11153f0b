/-
  DERIVED. GIVEN WITH THE SEED: THE CARDS: each row of YtnmpfooegnmknaaGreatDoorRows.lean that lists a variable, with what it lists TIED to the program's text (the seventh form; the later family's looks); each row that meets fmt, with fmt's text TOLD by the authors' own Lean function (tested against real Go, not proved from fmt's source: count such statements apart). THE CARD IS WHAT COUNTS. Prove the row's statement (the work); the ties are given (YtnmpfooegnmknaaGreatDoorTie.lean); close each card by the builder's one call (the guide's Derived/Test/ToyasCard.lean, 'card_holds'). Laid BY PROGRAM, IN A SANDBOX (cutbox-door.mjs). By AI agents, Wed Nov 11 2026. No macro, syntax, notation, axiom, sorry.
-/
import Derived.Test.YtnmpfooegnmknaaGreatDoorRows
import GoSem.ClaimSeven
namespace Go.Proofs.YtnmpfooegnmknaaGreatDoor
namespace Rows

/-- THE TIED CARD OF 'laws.FnIntervals'. -/
def fnIntervalsCard : Claim7 := { stood := { row := fnIntervalsRow, standIns := [], harness := (true, "477d9a5ef5c938ecb62c4a897a8c9c327e71bd9476388d399b3bed2185107189"), looks := false }, kinds := [], alts := [], laidByText := true, laidKinds := [.data, .pinned], laidTests := true, laidLooks := .later }
def FnIntervalsCardSaid : Prop := Claim7.holds Tryz.pinned (.plain (OpenSpec.ofChange fnIntervalsSpec)) fnIntervalsCard

/-- THE TIED CARD OF 'laws.FnExactDocKeys'. -/
def fnExactDocKeysCard : Claim7 := { stood := { row := fnExactDocKeysRow, standIns := [], harness := (true, "477d9a5ef5c938ecb62c4a897a8c9c327e71bd9476388d399b3bed2185107189"), looks := false }, kinds := [], alts := [], laidByText := true, laidKinds := [.data, .pinned], laidTests := true, laidLooks := .later }
def FnExactDocKeysCardSaid : Prop := Claim7.holds Tryz.pinned (.plain (OpenSpec.ofChange fnExactDocKeysSpec)) fnExactDocKeysCard

/-- THE TIED CARD OF 'laws.FnExactFilterInterval'. -/
def fnExactFilterIntervalCard : Claim7 := { stood := { row := fnExactFilterIntervalRow, standIns := [], harness := (true, "477d9a5ef5c938ecb62c4a897a8c9c327e71bd9476388d399b3bed2185107189"), looks := false }, kinds := [], alts := [], laidByText := true, laidKinds := [.data, .pinned], laidTests := true, laidLooks := .later }
def FnExactFilterIntervalCardSaid : Prop := Claim7.holds Tryz.pinned (.plain (OpenSpec.ofChange fnExactFilterIntervalSpec)) fnExactFilterIntervalCard

/-- THE SECOND FORM's CARD OF 'laws.FnIntervals'. -/
def fnIntervalsUptoCard : Claim7 := { stood := { row := fnIntervalsUptoRow, standIns := [], harness := (true, "477d9a5ef5c938ecb62c4a897a8c9c327e71bd9476388d399b3bed2185107189"), looks := false }, kinds := [], alts := [], laidByText := true, laidKinds := [.data, .pinned], laidTests := true, laidLooks := .later }
def FnIntervalsUptoCardSaid : Prop := Claim7.holds Tryz.pinned (.plain (OpenSpec.upto fnIntervalsSpec)) fnIntervalsUptoCard

/-- THE SECOND FORM's CARD OF 'laws.FnExactDocKeys'. -/
def fnExactDocKeysUptoCard : Claim7 := { stood := { row := fnExactDocKeysUptoRow, standIns := [], harness := (true, "477d9a5ef5c938ecb62c4a897a8c9c327e71bd9476388d399b3bed2185107189"), looks := false }, kinds := [], alts := [], laidByText := true, laidKinds := [.data, .pinned], laidTests := true, laidLooks := .later }
def FnExactDocKeysUptoCardSaid : Prop := Claim7.holds Tryz.pinned (.plain (OpenSpec.upto fnExactDocKeysSpec)) fnExactDocKeysUptoCard

/-- THE SECOND FORM's CARD OF 'laws.FnExactFilterInterval'. -/
def fnExactFilterIntervalUptoCard : Claim7 := { stood := { row := fnExactFilterIntervalUptoRow, standIns := [], harness := (true, "477d9a5ef5c938ecb62c4a897a8c9c327e71bd9476388d399b3bed2185107189"), looks := false }, kinds := [], alts := [], laidByText := true, laidKinds := [.data, .pinned], laidTests := true, laidLooks := .later }
def FnExactFilterIntervalUptoCardSaid : Prop := Claim7.holds Tryz.pinned (.plain (OpenSpec.upto fnExactFilterIntervalSpec)) fnExactFilterIntervalUptoCard
end Rows
end Go.Proofs.YtnmpfooegnmknaaGreatDoor
