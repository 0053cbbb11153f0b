/- At every store and name the program's DocsNow answers as the specification's; it writes into no argument, and its answer owns its memory; the library's tables that the row lists are as its text lays them. -/
import Derived.Test.YtpfbepbmiillbaaGreatDoorOldIR
import Derived.Test.YtpfbepbmiillbaaGreatDoorRows
import Derived.Test.YtpfbepbmiillbaaGreatDoorTie
import Derived.Test.YtpfbepbmiillbaaGreatDoorCards
import Derived.LaidMore
import Derived.Lay
import Derived.Stop.Joined
import Derived.SevenTiedAt
import Derived.ProofKit
import Derived.OpenShut
import Derived.ShutString
import Derived.ChangeOld
import Derived.Below
import Derived.Lib.SmallJoins
import Derived.Test.YtpfbepbmiillbaaGreatDoorRowDcnR
namespace Go.Proofs.YtpfbepbmiillbaaGreatDoor
open Go.ChangeShapes Go.WideShapes Go.ChangeAt Go.RowKit Go.Joins
open Go.ChangeMaps (open_string shut_string)
set_option linter.unusedVariables false
theorem fnExactDocsNow_holds : Rows.FnExactDocsNowCardSaid :=
  Claim7.holds_tied_plain_at .later [] [.data, .pinned] true (true, "600674310bf268d45fd1e86b779ce7b9f3de861423041fa2a6b6824339be0a18") false
    fnExactDocsNow_row (fun _ h => by cases h) (by as_aux_lemma => kernel_rfl) (fun _ h => by cases h) fnExactDocsNow_row_tie rfl ⟨rfl, rfl⟩ (by as_aux_lemma => kernel_rfl) rfl
    (fun f fn hf hfn => by
      obtain rfl : f = 6 := Option.some.inj ((show Tryz.prog.funcNamed "loop.example/g00380/laws.FnExactDocsNow" = some 6 by as_aux_lemma => kernel_rfl).symm.trans hf) |>.symm
      obtain rfl : fn = Tryz.f6 := (Option.some.inj (Tryz.func6.symm.trans hfn)).symm
      exact ⟨(by as_aux_lemma => kernel_rfl), fun j t ht => by
        rw [Tryz.params6] at ht
        have hm : t ∈ [26, 9] := by simpa using Array.mem_of_getElem? ht
        have hall : ([26, 9].all fun u => !Tryz.prog.wantsStandIn u) = true := by as_aux_lemma => kernel_rfl
        exact (show Tryz.prog.wantsStandIn t = false by simpa using List.all_eq_true.1 hall t hm)⟩)
    (by as_aux_lemma => kernel_rfl)
#print axioms fnExactDocsNow_holds
end Go.Proofs.YtpfbepbmiillbaaGreatDoor
