/- The row's statement. -/
import Derived.Test.YtcggkeleaepebaaGreatDoorHxSQ
import Derived.Test.YtcggkeleaepebaaGreatDoorRows
import Derived.Test.YtcggkeleaepebaaGreatDoorTie
import Derived.Test.YtcggkeleaepebaaGreatDoorCards
import Derived.LaidMore
import Derived.Lay
import Derived.Stop.Joined
import Derived.SevenTiedAt
import Derived.ProofKit
import Derived.OpenShut
import Derived.ShutString
import Derived.ChangeOld
import Derived.Below
import Derived.Lib.SmallJoins
import Derived.Test.YtcggkeleaepebaaGreatDoorFactsCln
import Derived.Test.YtcggkeleaepebaaGreatDoorWalkClnQ
namespace Go.Proofs.YtcggkeleaepebaaGreatDoor
open Go.ChangeShapes Go.WideShapes Go.ChangeAt Go.RowKit Go.Joins
open Go.ChangeMaps (open_string shut_string)
set_option linter.unusedVariables false
theorem fnExactCleanDone_row : Rows.FnExactCleanDoneSaid :=
  OpenClaim.holds_of_wide 4 Tryz.f4 rfl rfl rfl rfl rfl rfl rfl ⟨rfl, rfl, rfl, rfl, rfl⟩ rfl rfl rfl rfl rfl (by as_aux_lemma => kernel_rfl) Tryz.func4 fnExactCleanDone_facts
    (of_decide_eq_true (by as_aux_lemma => kernel_rfl)) (by unfold Func.isWrapper; first | (rw [if_pos (by decide +kernel)]; kernel_rfl) | (rw [if_neg (by decide +kernel)]; exact ⟨rfl, rfl⟩))
    (fun os started H enc _ => ClnDonef.lifted os started H enc)
end Go.Proofs.YtcggkeleaepebaaGreatDoor

/- At every list of committed ones and every time the program's CleanDone answers as the specification's; it writes into no argument; its answer owns its memory; the library's tables that the row lists are as its text lays them. -/
namespace Go.Proofs.YtcggkeleaepebaaGreatDoor
open Go.ChangeShapes Go.WideShapes Go.ChangeAt Go.RowKit Go.Joins
open Go.ChangeMaps (open_string shut_string)
set_option linter.unusedVariables false
theorem fnExactCleanDone_holds : Rows.FnExactCleanDoneCardSaid :=
  Claim7.holds_tied_plain_at .later [] [.data, .pinned] true (true, "2543b94df6b83a95bac35c8cc1e68523bf4c9135a4b0dfc17b9a0551b8359d75") false
    fnExactCleanDone_row (fun _ h => by cases h) (by as_aux_lemma => kernel_rfl) (fun _ h => by cases h) fnExactCleanDone_row_tie rfl ⟨rfl, rfl⟩ (by as_aux_lemma => kernel_rfl) rfl
    (fun f fn hf hfn => by
      obtain rfl : f = 4 := Option.some.inj ((show Tryz.prog.funcNamed "loop.example/g00380/laws.FnExactCleanDone" = some 4 by as_aux_lemma => kernel_rfl).symm.trans hf) |>.symm
      obtain rfl : fn = Tryz.f4 := (Option.some.inj (Tryz.func4.symm.trans hfn)).symm
      exact ⟨(by as_aux_lemma => kernel_rfl), fun j t ht => by
        rw [Tryz.params4] at ht
        have hm : t ∈ [22, 3] := by simpa using Array.mem_of_getElem? ht
        have hall : ([22, 3].all fun u => !Tryz.prog.wantsStandIn u) = true := by as_aux_lemma => kernel_rfl
        exact (show Tryz.prog.wantsStandIn t = false by simpa using List.all_eq_true.1 hall t hm)⟩)
    (by as_aux_lemma => kernel_rfl)
#print axioms fnExactCleanDone_holds
end Go.Proofs.YtcggkeleaepebaaGreatDoor
