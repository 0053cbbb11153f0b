/-
  DERIVED. GIVEN WITH THE SEED: THE CARDS: each row of YtnmpfooegnmknaaDoorRows.lean that lists a variable, with what it lists TIED to the program's text (the seventh form; the later family's looks); each row that meets fmt, with fmt's text TOLD by the authors' own Lean function (tested against real Go, not proved from fmt's source: count such statements apart). THE CARD IS WHAT COUNTS. Prove the row's statement (the work); the ties are given (YtnmpfooegnmknaaDoorTie.lean); close each card by the builder's one call (the guide's Derived/Test/ToyasCard.lean, 'card_holds'). Laid BY PROGRAM, IN A SANDBOX (cutbox-door.mjs). By AI agents, Wed Nov 11 2026. No macro, syntax, notation, axiom, sorry.
-/
import Derived.Test.YtnmpfooegnmknaaDoorRows
import GoSem.ClaimSeven
namespace Go.Proofs.YtnmpfooegnmknaaDoor
namespace Rows

/-- THE TIED CARD OF 'laws.FnExactQueryOK'. -/
def fnExactQueryOKCard : Claim7 := { stood := { row := fnExactQueryOKRow, standIns := [], harness := (true, "cd0f6203398ec2da61577428617df728e74e94c3ed7f909f506606529d5b58e6"), looks := false }, kinds := [], alts := [], laidByText := true, laidKinds := [.data, .pinned], laidTests := true, laidLooks := .later }
def FnExactQueryOKCardSaid : Prop := Claim7.holds Tryd.pinned (.plain (OpenSpec.ofChange fnExactQueryOKSpec)) fnExactQueryOKCard

/-- THE SECOND FORM's CARD OF 'laws.FnExactQueryOK'. -/
def fnExactQueryOKUptoCard : Claim7 := { stood := { row := fnExactQueryOKUptoRow, standIns := [], harness := (true, "cd0f6203398ec2da61577428617df728e74e94c3ed7f909f506606529d5b58e6"), looks := false }, kinds := [], alts := [], laidByText := true, laidKinds := [.data, .pinned], laidTests := true, laidLooks := .later }
def FnExactQueryOKUptoCardSaid : Prop := Claim7.holds Tryd.pinned (.plain (OpenSpec.upto fnExactQueryOKSpec)) fnExactQueryOKUptoCard
end Rows
end Go.Proofs.YtnmpfooegnmknaaDoor
