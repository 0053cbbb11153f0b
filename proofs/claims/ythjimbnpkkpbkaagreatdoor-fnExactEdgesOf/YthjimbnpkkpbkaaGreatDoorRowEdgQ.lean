/- The row's statement. -/
import Derived.Test.YthjimbnpkkpbkaaGreatDoorDnsIQ
import Derived.Test.YthjimbnpkkpbkaaGreatDoorRows
import Derived.Test.YthjimbnpkkpbkaaGreatDoorTie
import Derived.Test.YthjimbnpkkpbkaaGreatDoorCards
import Derived.LaidMore
import Derived.Lay
import Derived.Stop.Joined
import Derived.SevenTiedAt
import Derived.ProofKit
import Derived.OpenShut
import Derived.ShutString
import Derived.ChangeOld
import Derived.Below
import Derived.Lib.SmallJoins
import Derived.Test.YthjimbnpkkpbkaaGreatDoorFactsEdg
import Derived.Test.YthjimbnpkkpbkaaGreatDoorWalkEdgQ
namespace Go.Proofs.YthjimbnpkkpbkaaGreatDoor
open Go.ChangeShapes Go.WideShapes Go.ChangeAt Go.RowKit Go.Joins
open Go.ChangeMaps (open_string shut_string)
set_option linter.unusedVariables false
theorem fnExactEdgesOf_row : Rows.FnExactEdgesOfSaid :=
  OpenClaim.holds_of_wide 3 Tryz.f3 rfl rfl rfl rfl rfl rfl rfl ⟨rfl, rfl, rfl, rfl, rfl⟩ rfl rfl rfl rfl rfl (by as_aux_lemma => kernel_rfl) Tryz.func3 fnExactEdgesOf_facts
    (of_decide_eq_true (by as_aux_lemma => kernel_rfl)) (by unfold Func.isWrapper; first | (rw [if_pos (by decide +kernel)]; kernel_rfl) | (rw [if_neg (by decide +kernel)]; exact ⟨rfl, rfl⟩))
    (fun os started H enc _ => EdgesOff.lifted os started H enc)
end Go.Proofs.YthjimbnpkkpbkaaGreatDoor

/- At every list of committed ones the program's EdgesOf answers as the specification's; it writes into no argument; its answer owns its memory; the library's tables that the row lists are as its text lays them. -/
namespace Go.Proofs.YthjimbnpkkpbkaaGreatDoor
open Go.ChangeShapes Go.WideShapes Go.ChangeAt Go.RowKit Go.Joins
open Go.ChangeMaps (open_string shut_string)
set_option linter.unusedVariables false
theorem fnExactEdgesOf_holds : Rows.FnExactEdgesOfCardSaid :=
  Claim7.holds_tied_plain_at .later [] [.data, .pinned] true (true, "adce9b94ba11fd8ca5d8901283e1e7ba2fca1d18f3b17cced9fef0215c1c4c24") false
    fnExactEdgesOf_row (fun _ h => by cases h) (by as_aux_lemma => kernel_rfl) (fun _ h => by cases h) fnExactEdgesOf_row_tie rfl ⟨rfl, rfl⟩ (by as_aux_lemma => kernel_rfl) rfl
    (fun f fn hf hfn => by
      obtain rfl : f = 3 := Option.some.inj ((show Tryz.prog.funcNamed "loop.example/g00380/laws.FnExactEdgesOf" = some 3 by as_aux_lemma => kernel_rfl).symm.trans hf) |>.symm
      obtain rfl : fn = Tryz.f3 := (Option.some.inj (Tryz.func3.symm.trans hfn)).symm
      exact ⟨(by as_aux_lemma => kernel_rfl), fun j t ht => by
        rw [Tryz.params3] at ht
        have hm : t ∈ [22] := by simpa using Array.mem_of_getElem? ht
        have hall : ([22].all fun u => !Tryz.prog.wantsStandIn u) = true := by as_aux_lemma => kernel_rfl
        exact (show Tryz.prog.wantsStandIn t = false by simpa using List.all_eq_true.1 hall t hm)⟩)
    (by as_aux_lemma => kernel_rfl)
#print axioms fnExactEdgesOf_holds
end Go.Proofs.YthjimbnpkkpbkaaGreatDoor
