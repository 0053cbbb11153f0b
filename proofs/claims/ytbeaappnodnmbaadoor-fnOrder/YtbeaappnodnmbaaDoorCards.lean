/-
  DERIVED. GIVEN WITH THE SEED: THE CARDS: each row of YtbeaappnodnmbaaDoorRows.lean that lists a variable, with what it lists TIED to the program's text (the seventh form; the later family's looks); each row that meets fmt, with fmt's text TOLD by the authors' own Lean function (tested against real Go, not proved from fmt's source: count such statements apart). THE CARD IS WHAT COUNTS. Prove the row's statement (the work); the ties are given (YtbeaappnodnmbaaDoorTie.lean); close each card by the builder's one call (the guide's Derived/Test/ToyasCard.lean, 'card_holds'). Laid BY PROGRAM, IN A SANDBOX (cutbox-door.mjs). By AI agents, Wed Nov 11 2026. No macro, syntax, notation, axiom, sorry.
-/
import Derived.Test.YtbeaappnodnmbaaDoorRows
import GoSem.ClaimSeven
namespace Go.Proofs.YtbeaappnodnmbaaDoor
namespace Rows

/-- THE TIED CARD OF 'laws.FnOrder'. -/
def fnOrderCard : Claim7 := { stood := { row := fnOrderRow, standIns := [], harness := (true, "c70a0a4337fdaaeaa1f129a4af025cced1f9bb9199ba0367d09c0bc8f7ac4f98"), looks := false }, kinds := [], alts := [], laidByText := true, laidKinds := [.data, .data, .data], laidTests := true, laidLooks := .later }
def FnOrderCardSaid : Prop := Claim7.holds Tryd.pinned (.plain (OpenSpec.ofChange fnOrderSpec)) fnOrderCard

/-- THE TIED CARD OF 'laws.FnExactValueText'. -/
def fnExactValueTextCard : Claim7 := { stood := { row := fnExactValueTextRow, standIns := [], harness := (true, "c70a0a4337fdaaeaa1f129a4af025cced1f9bb9199ba0367d09c0bc8f7ac4f98"), looks := false }, kinds := [], alts := [], laidByText := true, laidKinds := [.data, .data, .data], laidTests := true, laidLooks := .later }
def FnExactValueTextCardSaid : Prop := Claim7.holds Tryd.pinned (.plain (OpenSpec.ofChange fnExactValueTextSpec)) fnExactValueTextCard

/-- THE TIED CARD OF 'laws.FnExactPathOK'. -/
def fnExactPathOKCard : Claim7 := { stood := { row := fnExactPathOKRow, standIns := [], harness := (true, "c70a0a4337fdaaeaa1f129a4af025cced1f9bb9199ba0367d09c0bc8f7ac4f98"), looks := false }, kinds := [], alts := [], laidByText := true, laidKinds := [.data, .pinned], laidTests := true, laidLooks := .later }
def FnExactPathOKCardSaid : Prop := Claim7.holds Tryd.pinned (.plain (OpenSpec.ofChange fnExactPathOKSpec)) fnExactPathOKCard

/-- THE TIED CARD OF 'laws.FnExactGetPath'. -/
def fnExactGetPathCard : Claim7 := { stood := { row := fnExactGetPathRow, standIns := [], harness := (true, "c70a0a4337fdaaeaa1f129a4af025cced1f9bb9199ba0367d09c0bc8f7ac4f98"), looks := false }, kinds := [], alts := [], laidByText := true, laidKinds := [.data, .pinned], laidTests := true, laidLooks := .later }
def FnExactGetPathCardSaid : Prop := Claim7.holds Tryd.pinned (.plain (OpenSpec.ofChange fnExactGetPathSpec)) fnExactGetPathCard

/-- THE TIED CARD OF 'laws.FnExactFirstPath'. -/
def fnExactFirstPathCard : Claim7 := { stood := { row := fnExactFirstPathRow, standIns := [], harness := (true, "c70a0a4337fdaaeaa1f129a4af025cced1f9bb9199ba0367d09c0bc8f7ac4f98"), looks := false }, kinds := [], alts := [], laidByText := true, laidKinds := [.data, .pinned], laidTests := true, laidLooks := .later }
def FnExactFirstPathCardSaid : Prop := Claim7.holds Tryd.pinned (.plain (OpenSpec.ofChange fnExactFirstPathSpec)) fnExactFirstPathCard

/-- THE TIED CARD OF 'laws.FnExactUpdateOK'. -/
def fnExactUpdateOKCard : Claim7 := { stood := { row := fnExactUpdateOKRow, standIns := [], harness := (true, "c70a0a4337fdaaeaa1f129a4af025cced1f9bb9199ba0367d09c0bc8f7ac4f98"), looks := false }, kinds := [], alts := [], laidByText := true, laidKinds := [.data, .pinned], laidTests := true, laidLooks := .later }
def FnExactUpdateOKCardSaid : Prop := Claim7.holds Tryd.pinned (.plain (OpenSpec.ofChange fnExactUpdateOKSpec)) fnExactUpdateOKCard

/-- THE TIED CARD OF 'laws.FnExactUpdateText'. -/
def fnExactUpdateTextCard : Claim7 := { stood := { row := fnExactUpdateTextRow, standIns := [], harness := (true, "c70a0a4337fdaaeaa1f129a4af025cced1f9bb9199ba0367d09c0bc8f7ac4f98"), looks := false }, kinds := [], alts := [], laidByText := true, laidKinds := [.data, .data, .data, .data, .data, .pinned], laidTests := true, laidLooks := .later }
def FnExactUpdateTextCardSaid : Prop := Claim7.holds Tryd.pinned (.plain (OpenSpec.ofChange fnExactUpdateTextSpec)) fnExactUpdateTextCard

/-- THE SECOND FORM's CARD OF 'laws.FnOrder'. -/
def fnOrderUptoCard : Claim7 := { stood := { row := fnOrderUptoRow, standIns := [], harness := (true, "c70a0a4337fdaaeaa1f129a4af025cced1f9bb9199ba0367d09c0bc8f7ac4f98"), looks := false }, kinds := [], alts := [], laidByText := true, laidKinds := [.data, .data, .data], laidTests := true, laidLooks := .later }
def FnOrderUptoCardSaid : Prop := Claim7.holds Tryd.pinned (.plain (OpenSpec.upto fnOrderSpec)) fnOrderUptoCard

/-- THE SECOND FORM's CARD OF 'laws.FnExactValueText'. -/
def fnExactValueTextUptoCard : Claim7 := { stood := { row := fnExactValueTextUptoRow, standIns := [], harness := (true, "c70a0a4337fdaaeaa1f129a4af025cced1f9bb9199ba0367d09c0bc8f7ac4f98"), looks := false }, kinds := [], alts := [], laidByText := true, laidKinds := [.data, .data, .data], laidTests := true, laidLooks := .later }
def FnExactValueTextUptoCardSaid : Prop := Claim7.holds Tryd.pinned (.plain (OpenSpec.upto fnExactValueTextSpec)) fnExactValueTextUptoCard

/-- THE SECOND FORM's CARD OF 'laws.FnExactPathOK'. -/
def fnExactPathOKUptoCard : Claim7 := { stood := { row := fnExactPathOKUptoRow, standIns := [], harness := (true, "c70a0a4337fdaaeaa1f129a4af025cced1f9bb9199ba0367d09c0bc8f7ac4f98"), looks := false }, kinds := [], alts := [], laidByText := true, laidKinds := [.data, .pinned], laidTests := true, laidLooks := .later }
def FnExactPathOKUptoCardSaid : Prop := Claim7.holds Tryd.pinned (.plain (OpenSpec.upto fnExactPathOKSpec)) fnExactPathOKUptoCard

/-- THE SECOND FORM's CARD OF 'laws.FnExactGetPath'. -/
def fnExactGetPathUptoCard : Claim7 := { stood := { row := fnExactGetPathUptoRow, standIns := [], harness := (true, "c70a0a4337fdaaeaa1f129a4af025cced1f9bb9199ba0367d09c0bc8f7ac4f98"), looks := false }, kinds := [], alts := [], laidByText := true, laidKinds := [.data, .pinned], laidTests := true, laidLooks := .later }
def FnExactGetPathUptoCardSaid : Prop := Claim7.holds Tryd.pinned (.plain (OpenSpec.upto fnExactGetPathSpec)) fnExactGetPathUptoCard

/-- THE SECOND FORM's CARD OF 'laws.FnExactFirstPath'. -/
def fnExactFirstPathUptoCard : Claim7 := { stood := { row := fnExactFirstPathUptoRow, standIns := [], harness := (true, "c70a0a4337fdaaeaa1f129a4af025cced1f9bb9199ba0367d09c0bc8f7ac4f98"), looks := false }, kinds := [], alts := [], laidByText := true, laidKinds := [.data, .pinned], laidTests := true, laidLooks := .later }
def FnExactFirstPathUptoCardSaid : Prop := Claim7.holds Tryd.pinned (.plain (OpenSpec.upto fnExactFirstPathSpec)) fnExactFirstPathUptoCard

/-- THE SECOND FORM's CARD OF 'laws.FnExactUpdateOK'. -/
def fnExactUpdateOKUptoCard : Claim7 := { stood := { row := fnExactUpdateOKUptoRow, standIns := [], harness := (true, "c70a0a4337fdaaeaa1f129a4af025cced1f9bb9199ba0367d09c0bc8f7ac4f98"), looks := false }, kinds := [], alts := [], laidByText := true, laidKinds := [.data, .pinned], laidTests := true, laidLooks := .later }
def FnExactUpdateOKUptoCardSaid : Prop := Claim7.holds Tryd.pinned (.plain (OpenSpec.upto fnExactUpdateOKSpec)) fnExactUpdateOKUptoCard

/-- THE SECOND FORM's CARD OF 'laws.FnExactUpdateText'. -/
def fnExactUpdateTextUptoCard : Claim7 := { stood := { row := fnExactUpdateTextUptoRow, standIns := [], harness := (true, "c70a0a4337fdaaeaa1f129a4af025cced1f9bb9199ba0367d09c0bc8f7ac4f98"), looks := false }, kinds := [], alts := [], laidByText := true, laidKinds := [.data, .data, .data, .data, .data, .pinned], laidTests := true, laidLooks := .later }
def FnExactUpdateTextUptoCardSaid : Prop := Claim7.holds Tryd.pinned (.plain (OpenSpec.upto fnExactUpdateTextSpec)) fnExactUpdateTextUptoCard
end Rows
end Go.Proofs.YtbeaappnodnmbaaDoor
