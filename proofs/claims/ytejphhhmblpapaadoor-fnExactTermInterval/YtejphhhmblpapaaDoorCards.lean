/-
  DERIVED. GIVEN WITH THE SEED: THE CARDS: each row of YtejphhhmblpapaaDoorRows.lean that lists a variable, with what it lists TIED to the program's text (the seventh form; the later family's looks); each row that meets fmt, with fmt's text TOLD by the authors' own Lean function (tested against real Go, not proved from fmt's source: count such statements apart). THE CARD IS WHAT COUNTS. Prove the row's statement (the work); the ties are given (YtejphhhmblpapaaDoorTie.lean); close each card by the builder's one call (the guide's Derived/Test/ToyasCard.lean, 'card_holds'). Laid BY PROGRAM, IN A SANDBOX (cutbox-door.mjs). By AI agents, Wed Nov 11 2026. No macro, syntax, notation, axiom, sorry.
-/
import Derived.Test.YtejphhhmblpapaaDoorRows
import GoSem.ClaimSeven
namespace Go.Proofs.YtejphhhmblpapaaDoor
namespace Rows

/-- THE TIED CARD OF 'laws.FnOrder'. -/
def fnOrderCard : Claim7 := { stood := { row := fnOrderRow, standIns := [], harness := (true, "9b4c7ad4c644553c7776b2c093fc3766177dbeaa6fa6ca76e42e9a788a217e98"), looks := false }, kinds := [], alts := [], laidByText := true, laidKinds := [.data, .data, .data], laidTests := true, laidLooks := .later }
def FnOrderCardSaid : Prop := Claim7.holds Tryd.pinned (.plain (OpenSpec.ofChange fnOrderSpec)) fnOrderCard

/-- THE TIED CARD OF 'laws.FnExactUpdateText'. -/
def fnExactUpdateTextCard : Claim7 := { stood := { row := fnExactUpdateTextRow, standIns := [], harness := (true, "9b4c7ad4c644553c7776b2c093fc3766177dbeaa6fa6ca76e42e9a788a217e98"), looks := false }, kinds := [], alts := [], laidByText := true, laidKinds := [.data, .data, .data, .data, .data, .pinned], laidTests := true, laidLooks := .later }
def FnExactUpdateTextCardSaid : Prop := Claim7.holds Tryd.pinned (.plain (OpenSpec.ofChange fnExactUpdateTextSpec)) fnExactUpdateTextCard

/-- THE TIED CARD OF 'laws.FnExactTermInterval'. -/
def fnExactTermIntervalCard : Claim7 := { stood := { row := fnExactTermIntervalRow, standIns := [], harness := (true, "9b4c7ad4c644553c7776b2c093fc3766177dbeaa6fa6ca76e42e9a788a217e98"), looks := false }, kinds := [], alts := [], laidByText := true, laidKinds := [.data, .pinned], laidTests := true, laidLooks := .later }
def FnExactTermIntervalCardSaid : Prop := Claim7.holds Tryd.pinned (.plain (OpenSpec.ofChange fnExactTermIntervalSpec)) fnExactTermIntervalCard

/-- THE SECOND FORM's CARD OF 'laws.FnOrder'. -/
def fnOrderUptoCard : Claim7 := { stood := { row := fnOrderUptoRow, standIns := [], harness := (true, "9b4c7ad4c644553c7776b2c093fc3766177dbeaa6fa6ca76e42e9a788a217e98"), looks := false }, kinds := [], alts := [], laidByText := true, laidKinds := [.data, .data, .data], laidTests := true, laidLooks := .later }
def FnOrderUptoCardSaid : Prop := Claim7.holds Tryd.pinned (.plain (OpenSpec.upto fnOrderSpec)) fnOrderUptoCard

/-- THE SECOND FORM's CARD OF 'laws.FnExactUpdateText'. -/
def fnExactUpdateTextUptoCard : Claim7 := { stood := { row := fnExactUpdateTextUptoRow, standIns := [], harness := (true, "9b4c7ad4c644553c7776b2c093fc3766177dbeaa6fa6ca76e42e9a788a217e98"), looks := false }, kinds := [], alts := [], laidByText := true, laidKinds := [.data, .data, .data, .data, .data, .pinned], laidTests := true, laidLooks := .later }
def FnExactUpdateTextUptoCardSaid : Prop := Claim7.holds Tryd.pinned (.plain (OpenSpec.upto fnExactUpdateTextSpec)) fnExactUpdateTextUptoCard

/-- THE SECOND FORM's CARD OF 'laws.FnExactTermInterval'. -/
def fnExactTermIntervalUptoCard : Claim7 := { stood := { row := fnExactTermIntervalUptoRow, standIns := [], harness := (true, "9b4c7ad4c644553c7776b2c093fc3766177dbeaa6fa6ca76e42e9a788a217e98"), looks := false }, kinds := [], alts := [], laidByText := true, laidKinds := [.data, .pinned], laidTests := true, laidLooks := .later }
def FnExactTermIntervalUptoCardSaid : Prop := Claim7.holds Tryd.pinned (.plain (OpenSpec.upto fnExactTermIntervalSpec)) fnExactTermIntervalUptoCard
end Rows
end Go.Proofs.YtejphhhmblpapaaDoor
