/- The row's statement. -/
import Derived.Test.YtmipdjlogjdglaaGreatDoorTwcIQ
import Derived.Test.YtmipdjlogjdglaaGreatDoorRows
import Derived.Test.YtmipdjlogjdglaaGreatDoorTie
import Derived.Test.YtmipdjlogjdglaaGreatDoorCards
import Derived.LaidMore
import Derived.Lay
import Derived.Stop.Joined
import Derived.SevenTiedAt
import Derived.ProofKit
import Derived.OpenShut
import Derived.ShutString
import Derived.ChangeOld
import Derived.Below
import Derived.Lib.SmallJoins
import Derived.Test.YtmipdjlogjdglaaGreatDoorFactsDon
import Derived.Test.YtmipdjlogjdglaaGreatDoorWalkDonQ
namespace Go.Proofs.YtmipdjlogjdglaaGreatDoor
open Go.ChangeShapes Go.WideShapes Go.ChangeAt Go.RowKit Go.Joins
open Go.ChangeMaps (open_string shut_string)
set_option linter.unusedVariables false
theorem fnExactDoneOK_row : Rows.FnExactDoneOKSaid :=
  OpenClaim.holds_of_wide 5 Tryz.f5 rfl rfl rfl rfl rfl rfl rfl ⟨rfl, rfl, rfl, rfl, rfl⟩ rfl rfl rfl rfl rfl (by as_aux_lemma => kernel_rfl) Tryz.func5 fnExactDoneOK_facts
    (of_decide_eq_true (by as_aux_lemma => kernel_rfl)) (by unfold Func.isWrapper; first | (rw [if_pos (by decide +kernel)]; kernel_rfl) | (rw [if_neg (by decide +kernel)]; exact ⟨rfl, rfl⟩))
    (fun os started H enc _ => DoneOKf.lifted os started H enc)
end Go.Proofs.YtmipdjlogjdglaaGreatDoor

/- At every committed one the program's DoneOK answers as the specification's; it writes into no argument; the library's tables that the row lists are as its text lays them. -/
namespace Go.Proofs.YtmipdjlogjdglaaGreatDoor
open Go.ChangeShapes Go.WideShapes Go.ChangeAt Go.RowKit Go.Joins
open Go.ChangeMaps (open_string shut_string)
set_option linter.unusedVariables false
theorem fnExactDoneOK_holds : Rows.FnExactDoneOKCardSaid :=
  Claim7.holds_tied_plain_at .later [] [.data, .pinned] true (true, "bf17afa66dc947d0f498a9f3dd9b672ff151ad9125968f4f4e7c96abc6549a62") false
    fnExactDoneOK_row (fun _ h => by cases h) (by as_aux_lemma => kernel_rfl) (fun _ h => by cases h) fnExactDoneOK_row_tie rfl ⟨rfl, rfl⟩ (by as_aux_lemma => kernel_rfl) rfl
    (fun f fn hf hfn => by
      obtain rfl : f = 5 := Option.some.inj ((show Tryz.prog.funcNamed "loop.example/g00380/laws.FnExactDoneOK" = some 5 by as_aux_lemma => kernel_rfl).symm.trans hf) |>.symm
      obtain rfl : fn = Tryz.f5 := (Option.some.inj (Tryz.func5.symm.trans hfn)).symm
      exact ⟨(by as_aux_lemma => kernel_rfl), fun j t ht => by
        rw [Tryz.params5] at ht
        have hm : t ∈ [60] := by simpa using Array.mem_of_getElem? ht
        have hall : ([60].all fun u => !Tryz.prog.wantsStandIn u) = true := by as_aux_lemma => kernel_rfl
        exact (show Tryz.prog.wantsStandIn t = false by simpa using List.all_eq_true.1 hall t hm)⟩)
    (by as_aux_lemma => kernel_rfl)
#print axioms fnExactDoneOK_holds
end Go.Proofs.YtmipdjlogjdglaaGreatDoor
