/-
  DERIVED. GIVEN WITH THE SEED: THE CARDS: each row of YtgjknfbkkfidbaaDoorRows.lean that lists a variable, with what it lists TIED to the program's text (the seventh form; the later family's looks); each row that meets fmt, with fmt's text TOLD by the authors' own Lean function (tested against real Go, not proved from fmt's source: count such statements apart). THE CARD IS WHAT COUNTS. Prove the row's statement (the work); the ties are given (YtgjknfbkkfidbaaDoorTie.lean); close each card by the builder's one call (the guide's Derived/Test/ToyasCard.lean, 'card_holds'). Laid BY PROGRAM, IN A SANDBOX (cutbox-door.mjs). By AI agents, Wed Nov 11 2026. No macro, syntax, notation, axiom, sorry.
-/
import Derived.Test.YtgjknfbkkfidbaaDoorRows
import GoSem.ClaimSeven
namespace Go.Proofs.YtgjknfbkkfidbaaDoor
namespace Rows

/-- THE TIED CARD OF 'laws.FnExactUpdateText'. -/
def fnExactUpdateTextCard : Claim7 := { stood := { row := fnExactUpdateTextRow, standIns := [], harness := (true, "1dce2f2a459b6baf8befa8d4cc0fa7a05bbdaedc1a7466d4bf7cf26d5a33aef4"), looks := false }, kinds := [], alts := [], laidByText := true, laidKinds := [.data, .data, .data, .data, .data, .pinned], laidTests := true, laidLooks := .later }
def FnExactUpdateTextCardSaid : Prop := Claim7.holds Tryd.pinned (.plain (OpenSpec.ofChange fnExactUpdateTextSpec)) fnExactUpdateTextCard

/-- THE TIED CARD OF 'laws.FnExactTermOK'. -/
def fnExactTermOKCard : Claim7 := { stood := { row := fnExactTermOKRow, standIns := [], harness := (true, "1dce2f2a459b6baf8befa8d4cc0fa7a05bbdaedc1a7466d4bf7cf26d5a33aef4"), looks := false }, kinds := [], alts := [], laidByText := true, laidKinds := [.data, .pinned], laidTests := true, laidLooks := .later }
def FnExactTermOKCardSaid : Prop := Claim7.holds Tryd.pinned (.plain (OpenSpec.ofChange fnExactTermOKSpec)) fnExactTermOKCard

/-- THE TIED CARD OF 'laws.FnExactFilterOK'. -/
def fnExactFilterOKCard : Claim7 := { stood := { row := fnExactFilterOKRow, standIns := [], harness := (true, "1dce2f2a459b6baf8befa8d4cc0fa7a05bbdaedc1a7466d4bf7cf26d5a33aef4"), looks := false }, kinds := [], alts := [], laidByText := true, laidKinds := [.data, .pinned], laidTests := true, laidLooks := .later }
def FnExactFilterOKCardSaid : Prop := Claim7.holds Tryd.pinned (.plain (OpenSpec.ofChange fnExactFilterOKSpec)) fnExactFilterOKCard

/-- THE SECOND FORM's CARD OF 'laws.FnExactUpdateText'. -/
def fnExactUpdateTextUptoCard : Claim7 := { stood := { row := fnExactUpdateTextUptoRow, standIns := [], harness := (true, "1dce2f2a459b6baf8befa8d4cc0fa7a05bbdaedc1a7466d4bf7cf26d5a33aef4"), looks := false }, kinds := [], alts := [], laidByText := true, laidKinds := [.data, .data, .data, .data, .data, .pinned], laidTests := true, laidLooks := .later }
def FnExactUpdateTextUptoCardSaid : Prop := Claim7.holds Tryd.pinned (.plain (OpenSpec.upto fnExactUpdateTextSpec)) fnExactUpdateTextUptoCard

/-- THE SECOND FORM's CARD OF 'laws.FnExactTermOK'. -/
def fnExactTermOKUptoCard : Claim7 := { stood := { row := fnExactTermOKUptoRow, standIns := [], harness := (true, "1dce2f2a459b6baf8befa8d4cc0fa7a05bbdaedc1a7466d4bf7cf26d5a33aef4"), looks := false }, kinds := [], alts := [], laidByText := true, laidKinds := [.data, .pinned], laidTests := true, laidLooks := .later }
def FnExactTermOKUptoCardSaid : Prop := Claim7.holds Tryd.pinned (.plain (OpenSpec.upto fnExactTermOKSpec)) fnExactTermOKUptoCard

/-- THE SECOND FORM's CARD OF 'laws.FnExactFilterOK'. -/
def fnExactFilterOKUptoCard : Claim7 := { stood := { row := fnExactFilterOKUptoRow, standIns := [], harness := (true, "1dce2f2a459b6baf8befa8d4cc0fa7a05bbdaedc1a7466d4bf7cf26d5a33aef4"), looks := false }, kinds := [], alts := [], laidByText := true, laidKinds := [.data, .pinned], laidTests := true, laidLooks := .later }
def FnExactFilterOKUptoCardSaid : Prop := Claim7.holds Tryd.pinned (.plain (OpenSpec.upto fnExactFilterOKSpec)) fnExactFilterOKUptoCard
end Rows
end Go.Proofs.YtgjknfbkkfidbaaDoor
