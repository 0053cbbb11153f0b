/- The row's statement. -/
import Derived.Test.YtbplmgmajmomcaaGreatDoorCmdWQ
import Derived.Test.YtbplmgmajmomcaaGreatDoorRows
import Derived.Test.YtbplmgmajmomcaaGreatDoorTie
import Derived.Test.YtbplmgmajmomcaaGreatDoorCards
import Derived.LaidMore
import Derived.Lay
import Derived.Stop.Joined
import Derived.SevenTiedAt
import Derived.ProofKit
import Derived.OpenShut
import Derived.ShutString
import Derived.ChangeOld
import Derived.Below
import Derived.Lib.SmallJoins
import Derived.Test.YtbplmgmajmomcaaGreatDoorFactsCmd
import Derived.Test.YtbplmgmajmomcaaGreatDoorWalkCmdQ
namespace Go.Proofs.YtbplmgmajmomcaaGreatDoor
open Go.ChangeShapes Go.WideShapes Go.ChangeAt Go.RowKit Go.Joins
open Go.ChangeMaps (open_string shut_string)
set_option linter.unusedVariables false
theorem fnExactCommandOK_row : Rows.FnExactCommandOKSaid :=
  OpenClaim.holds_of_wide 4 Tryz.f4 rfl rfl rfl rfl rfl rfl rfl ⟨rfl, rfl, rfl, rfl, rfl⟩ rfl rfl rfl rfl rfl (by as_aux_lemma => kernel_rfl) Tryz.func4 fnExactCommandOK_facts
    (of_decide_eq_true (by as_aux_lemma => kernel_rfl)) (by unfold Func.isWrapper; first | (rw [if_pos (by decide +kernel)]; kernel_rfl) | (rw [if_neg (by decide +kernel)]; exact ⟨rfl, rfl⟩))
    (fun os started H enc _ => CommandOKf.lifted os started H enc)
end Go.Proofs.YtbplmgmajmomcaaGreatDoor

/- At every command the program's CommandOK answers as the specification's; it writes into no argument; the library's tables that the row lists are as its text lays them. -/
namespace Go.Proofs.YtbplmgmajmomcaaGreatDoor
open Go.ChangeShapes Go.WideShapes Go.ChangeAt Go.RowKit Go.Joins
open Go.ChangeMaps (open_string shut_string)
set_option linter.unusedVariables false
theorem fnExactCommandOK_holds : Rows.FnExactCommandOKCardSaid :=
  Claim7.holds_tied_plain_at .later [] [.data, .pinned] true (true, "6ef42346d613d12803b045d6f98a8b18f2bf898fcc08221bb29f6ddb2a601a9a") false
    fnExactCommandOK_row (fun _ h => by cases h) (by as_aux_lemma => kernel_rfl) (fun _ h => by cases h) fnExactCommandOK_row_tie rfl ⟨rfl, rfl⟩ (by as_aux_lemma => kernel_rfl) rfl
    (fun f fn hf hfn => by
      obtain rfl : f = 4 := Option.some.inj ((show Tryz.prog.funcNamed "loop.example/g00380/laws.FnExactCommandOK" = some 4 by as_aux_lemma => kernel_rfl).symm.trans hf) |>.symm
      obtain rfl : fn = Tryz.f4 := (Option.some.inj (Tryz.func4.symm.trans hfn)).symm
      exact ⟨(by as_aux_lemma => kernel_rfl), fun j t ht => by
        rw [Tryz.params4] at ht
        have hm : t ∈ [50] := by simpa using Array.mem_of_getElem? ht
        have hall : ([50].all fun u => !Tryz.prog.wantsStandIn u) = true := by as_aux_lemma => kernel_rfl
        exact (show Tryz.prog.wantsStandIn t = false by simpa using List.all_eq_true.1 hall t hm)⟩)
    (by as_aux_lemma => kernel_rfl)
#print axioms fnExactCommandOK_holds
end Go.Proofs.YtbplmgmajmomcaaGreatDoor
