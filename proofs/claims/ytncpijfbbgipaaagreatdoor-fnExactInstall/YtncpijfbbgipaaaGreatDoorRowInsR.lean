/- The row's statement. -/
import Derived.Test.YtncpijfbbgipaaaGreatDoorInsSR
import Derived.Test.YtncpijfbbgipaaaGreatDoorRows
import Derived.Test.YtncpijfbbgipaaaGreatDoorTie
import Derived.Test.YtncpijfbbgipaaaGreatDoorCards
import Derived.LaidMore
import Derived.Lay
import Derived.Stop.Joined
import Derived.SevenTiedAt
import Derived.ProofKit
import Derived.OpenShut
import Derived.ShutString
import Derived.ChangeOld
import Derived.Below
import Derived.Lib.SmallJoins
import Derived.Test.YtncpijfbbgipaaaGreatDoorFactsIns
namespace Go.Proofs.YtncpijfbbgipaaaGreatDoor
open Go.ChangeShapes Go.WideShapes Go.ChangeAt Go.RowKit Go.Joins
open Go.ChangeMaps (open_string shut_string)
set_option linter.unusedVariables false
theorem fnExactInstall_row : Rows.FnExactInstallSaid :=
  OpenClaim.holds_of_wide 3 Tryz.f3 rfl rfl rfl rfl rfl rfl rfl ⟨rfl, rfl, rfl, rfl, rfl⟩ rfl rfl rfl rfl rfl (by as_aux_lemma => kernel_rfl) Tryz.func3 fnExactInstall_facts
    (of_decide_eq_true (by as_aux_lemma => kernel_rfl)) (by unfold Func.isWrapper; first | (rw [if_pos (by decide +kernel)]; kernel_rfl) | (rw [if_neg (by decide +kernel)]; exact ⟨rfl, rfl⟩))
    (fun os started H enc _ => CollInsf.lifted os started H enc)
end Go.Proofs.YtncpijfbbgipaaaGreatDoor

/- At every collection, time and write the program's Install answers as the specification's; it writes into no argument, and its answer owns its memory; the library's tables that the row lists are as its text lays them. -/
namespace Go.Proofs.YtncpijfbbgipaaaGreatDoor
open Go.ChangeShapes Go.WideShapes Go.ChangeAt Go.RowKit Go.Joins
open Go.ChangeMaps (open_string shut_string)
set_option linter.unusedVariables false
theorem fnExactInstall_holds : Rows.FnExactInstallCardSaid :=
  Claim7.holds_tied_plain_at .later [] [.data, .pinned] true (true, "354b447890fc7ab7b1a1fb1a85e432694b65d1c99af6196497f183fbefa27b64") false
    fnExactInstall_row (fun _ h => by cases h) (by as_aux_lemma => kernel_rfl) (fun _ h => by cases h) fnExactInstall_row_tie rfl ⟨rfl, rfl⟩ (by as_aux_lemma => kernel_rfl) rfl
    (fun f fn hf hfn => by
      obtain rfl : f = 3 := Option.some.inj ((show Tryz.prog.funcNamed "loop.example/g00380/laws.FnExactInstall" = some 3 by as_aux_lemma => kernel_rfl).symm.trans hf) |>.symm
      obtain rfl : fn = Tryz.f3 := (Option.some.inj (Tryz.func3.symm.trans hfn)).symm
      exact ⟨(by as_aux_lemma => kernel_rfl), fun j t ht => by
        rw [Tryz.params3] at ht
        have hm : t ∈ [25, 3, 29] := by simpa using Array.mem_of_getElem? ht
        have hall : ([25, 3, 29].all fun u => !Tryz.prog.wantsStandIn u) = true := by as_aux_lemma => kernel_rfl
        exact (show Tryz.prog.wantsStandIn t = false by simpa using List.all_eq_true.1 hall t hm)⟩)
    (by as_aux_lemma => kernel_rfl)
#print axioms fnExactInstall_holds
end Go.Proofs.YtncpijfbbgipaaaGreatDoor
