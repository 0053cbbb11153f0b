/- The row's statement. -/
import Derived.Test.YtfchlpgalcedhaaGreatDoorSrlQQ
import Derived.Test.YtfchlpgalcedhaaGreatDoorRows
import Derived.Test.YtfchlpgalcedhaaGreatDoorTie
import Derived.Test.YtfchlpgalcedhaaGreatDoorCards
import Derived.LaidMore
import Derived.Lay
import Derived.Stop.Joined
import Derived.SevenTiedAt
import Derived.ProofKit
import Derived.OpenShut
import Derived.ShutString
import Derived.ChangeOld
import Derived.Below
import Derived.Lib.SmallJoins
import Derived.Test.YtfchlpgalcedhaaGreatDoorFactsSrl
import Derived.Test.YtfchlpgalcedhaaGreatDoorWalkSrlQ
namespace Go.Proofs.YtfchlpgalcedhaaGreatDoor
open Go.ChangeShapes Go.WideShapes Go.ChangeAt Go.RowKit Go.Joins
open Go.ChangeMaps (open_string shut_string)
set_option linter.unusedVariables false
theorem fnExactSerialOrder_row : Rows.FnExactSerialOrderSaid :=
  OpenClaim.holds_of_wide 3 Tryz.f3 rfl rfl rfl rfl rfl rfl rfl ⟨rfl, rfl, rfl, rfl, rfl⟩ rfl rfl rfl rfl rfl (by as_aux_lemma => kernel_rfl) Tryz.func3 fnExactSerialOrder_facts
    (of_decide_eq_true (by as_aux_lemma => kernel_rfl)) (by unfold Func.isWrapper; first | (rw [if_pos (by decide +kernel)]; kernel_rfl) | (rw [if_neg (by decide +kernel)]; exact ⟨rfl, rfl⟩))
    (fun os started H enc _ => SrlOrdf.lifted os started H enc)
end Go.Proofs.YtfchlpgalcedhaaGreatDoor

/- At every list of committed ones the program's SerialOrder answers as the specification's; it writes into no argument; its answer owns its memory; the library's tables that the row lists are as its text lays them. -/
namespace Go.Proofs.YtfchlpgalcedhaaGreatDoor
open Go.ChangeShapes Go.WideShapes Go.ChangeAt Go.RowKit Go.Joins
open Go.ChangeMaps (open_string shut_string)
set_option linter.unusedVariables false
theorem fnExactSerialOrder_holds : Rows.FnExactSerialOrderCardSaid :=
  Claim7.holds_tied_plain_at .later [] [.data, .pinned] true (true, "3b4db44545df018a3c8a55f62c730b0b293cdb508f77ef79b44b4c645b2c9437") false
    fnExactSerialOrder_row (fun _ h => by cases h) (by as_aux_lemma => kernel_rfl) (fun _ h => by cases h) fnExactSerialOrder_row_tie rfl ⟨rfl, rfl⟩ (by as_aux_lemma => kernel_rfl) rfl
    (fun f fn hf hfn => by
      obtain rfl : f = 3 := Option.some.inj ((show Tryz.prog.funcNamed "loop.example/g00380/laws.FnExactSerialOrder" = some 3 by as_aux_lemma => kernel_rfl).symm.trans hf) |>.symm
      obtain rfl : fn = Tryz.f3 := (Option.some.inj (Tryz.func3.symm.trans hfn)).symm
      exact ⟨(by as_aux_lemma => kernel_rfl), fun j t ht => by
        rw [Tryz.params3] at ht
        have hm : t ∈ [22] := by simpa using Array.mem_of_getElem? ht
        have hall : ([22].all fun u => !Tryz.prog.wantsStandIn u) = true := by as_aux_lemma => kernel_rfl
        exact (show Tryz.prog.wantsStandIn t = false by simpa using List.all_eq_true.1 hall t hm)⟩)
    (by as_aux_lemma => kernel_rfl)
#print axioms fnExactSerialOrder_holds
end Go.Proofs.YtfchlpgalcedhaaGreatDoor
