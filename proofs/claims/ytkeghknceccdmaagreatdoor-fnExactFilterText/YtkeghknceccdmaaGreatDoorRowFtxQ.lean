/- The row's statement. -/
import Derived.Test.YtkeghknceccdmaaGreatDoorFtxIQ
import Derived.Test.YtkeghknceccdmaaGreatDoorOpenTQ
import Derived.ChangeVars
import Derived.WalkSmall
import Derived.Test.YtkeghknceccdmaaGreatDoorRows
import Derived.Test.YtkeghknceccdmaaGreatDoorTie
import Derived.Test.YtkeghknceccdmaaGreatDoorCards
import Derived.LaidMore
import Derived.Lay
import Derived.Stop.Joined
import Derived.SevenTiedAt
import Derived.ProofKit
import Derived.OpenShut
import Derived.ShutString
import Derived.ChangeOld
import Derived.Below
import Derived.Lib.SmallJoins
import Derived.Test.YtkeghknceccdmaaGreatDoorFactsFtx
namespace Go.Proofs.YtkeghknceccdmaaGreatDoor
open Go.ChangeShapes Go.WideShapes Go.ChangeAt Go.RowKit Go.Joins
open Go.ChangeMaps (open_string shut_string)
set_option linter.unusedVariables false
theorem fnExactFilterText_row : Rows.FnExactFilterTextSaid :=
  OpenClaim.holds_of_wide 4 Tryz.f4 rfl rfl rfl rfl rfl rfl rfl ⟨rfl, rfl, rfl, rfl, rfl⟩ rfl rfl rfl rfl rfl (by as_aux_lemma => kernel_rfl) Tryz.func4 fnExactFilterText_facts
    (of_decide_eq_true (by as_aux_lemma => kernel_rfl)) (by unfold Func.isWrapper; first | (rw [if_pos (by decide +kernel)]; kernel_rfl) | (rw [if_neg (by decide +kernel)]; exact ⟨rfl, rfl⟩))
    (fun os started H enc _ => FtxLaw.lifted os started H enc)
end Go.Proofs.YtkeghknceccdmaaGreatDoor

/- At every filter the program's text of it is the specification's, and the filter reads as before; the program's tables are as their texts lay them. -/
namespace Go.Proofs.YtkeghknceccdmaaGreatDoor
open Go.ChangeShapes Go.WideShapes Go.ChangeAt Go.RowKit Go.Joins
open Go.ChangeMaps (open_string shut_string)
set_option linter.unusedVariables false
theorem fnExactFilterText_holds : Rows.FnExactFilterTextCardSaid :=
  Claim7.holds_tied_plain_at .later [] [.data, .data, .data, .data, .data, .pinned] true (true, "6d71cfa1af5871aa4a1b8e28c53589fde9498ac6991e82aec1cc93cc368cd951") false
    fnExactFilterText_row (fun _ h => by cases h) (by as_aux_lemma => kernel_rfl) (fun _ h => by cases h) fnExactFilterText_row_tie rfl ⟨rfl, rfl⟩ (by as_aux_lemma => kernel_rfl) rfl
    (fun f fn hf hfn => by
      obtain rfl : f = 4 := Option.some.inj ((show Tryz.prog.funcNamed "loop.example/g00380/laws.FnExactFilterText" = some 4 by as_aux_lemma => kernel_rfl).symm.trans hf) |>.symm
      obtain rfl : fn = Tryz.f4 := (Option.some.inj (Tryz.func4.symm.trans hfn)).symm
      exact ⟨(by as_aux_lemma => kernel_rfl), fun j t ht => by
        rw [Tryz.params4] at ht
        have hm : t ∈ [48] := by simpa using Array.mem_of_getElem? ht
        have hall : ([48].all fun u => !Tryz.prog.wantsStandIn u) = true := by as_aux_lemma => kernel_rfl
        exact (show Tryz.prog.wantsStandIn t = false by simpa using List.all_eq_true.1 hall t hm)⟩)
    (by as_aux_lemma => kernel_rfl)
#print axioms fnExactFilterText_holds
end Go.Proofs.YtkeghknceccdmaaGreatDoor
