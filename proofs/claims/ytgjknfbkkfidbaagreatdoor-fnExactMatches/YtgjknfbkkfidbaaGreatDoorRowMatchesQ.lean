import Derived.Test.YtgjknfbkkfidbaaGreatDoorFiltMQ
import Derived.Test.YtgjknfbkkfidbaaGreatDoorTie
import Derived.Test.YtgjknfbkkfidbaaGreatDoorCards
import Derived.LaidMore
import Derived.Lay
import Derived.Stop.Joined
import Derived.SevenTiedAt
import Derived.ProofKit
import Derived.OpenShut
import Derived.ShutString
import Derived.ChangeOld
import Derived.Below
import Derived.Lib.SmallJoins
import Derived.Test.YtgjknfbkkfidbaaGreatDoorFactsMatchesQ
import Derived.Test.YtgjknfbkkfidbaaGreatDoorWalkMatchesQ
/- The row's statement. -/
namespace Go.Proofs.YtgjknfbkkfidbaaGreatDoor
open Go.ChangeShapes Go.WideShapes Go.ChangeAt Go.RowKit Go.Joins
open Go.ChangeMaps (open_string shut_string)
set_option linter.unusedVariables false
theorem fnExactMatches_row : Rows.FnExactMatchesSaid :=
  OpenClaim.holds_of_wide 10 Tryz.f10 rfl rfl rfl rfl rfl rfl rfl ⟨rfl, rfl, rfl, rfl, rfl⟩ rfl rfl rfl rfl rfl (by as_aux_lemma => kernel_rfl) Tryz.func10 fnExactMatches_facts
    (of_decide_eq_true (by as_aux_lemma => kernel_rfl)) (by unfold Func.isWrapper; first | (rw [if_pos (by decide +kernel)]; kernel_rfl) | (rw [if_neg (by decide +kernel)]; exact ⟨rfl, rfl⟩))
    (fun os started H enc _ => PMat.lifted os started H enc)
end Go.Proofs.YtgjknfbkkfidbaaGreatDoor

/- At every filter and every value the program's answer whether the filter lets it in, and its code, are the specification's, and both arguments read as before, behind the call too; the library's tables that the row lists are as its text lays them. -/
namespace Go.Proofs.YtgjknfbkkfidbaaGreatDoor
open Go.ChangeShapes Go.WideShapes Go.ChangeAt Go.RowKit Go.Joins
open Go.ChangeMaps (open_string shut_string)
set_option linter.unusedVariables false
theorem fnExactMatches_holds : Rows.FnExactMatchesCardSaid :=
  Claim7.holds_tied_plain_at .later [] [.data, .pinned] true (true, "525b74ea023ec0bbbaca715ca3b410e631d73868b3455579c6bdb64de0f462b1") false
    fnExactMatches_row (fun _ h => by cases h) (by as_aux_lemma => kernel_rfl) (fun _ h => by cases h) fnExactMatches_row_tie rfl ⟨rfl, rfl⟩ (by as_aux_lemma => kernel_rfl) rfl
    (fun f fn hf hfn => by
      obtain rfl : f = 10 := Option.some.inj ((show Tryz.prog.funcNamed "loop.example/g00380/laws.FnExactMatches" = some 10 by as_aux_lemma => kernel_rfl).symm.trans hf) |>.symm
      obtain rfl : fn = Tryz.f10 := (Option.some.inj (Tryz.func10.symm.trans hfn)).symm
      exact ⟨(by as_aux_lemma => kernel_rfl), fun j t ht => by
        rw [Tryz.params10] at ht
        have hm : t ∈ [80, 60] := by simpa using Array.mem_of_getElem? ht
        have hall : ([80, 60].all fun u => !Tryz.prog.wantsStandIn u) = true := by as_aux_lemma => kernel_rfl
        exact (show Tryz.prog.wantsStandIn t = false by simpa using List.all_eq_true.1 hall t hm)⟩)
    (by as_aux_lemma => kernel_rfl)
#print axioms fnExactMatches_holds
end Go.Proofs.YtgjknfbkkfidbaaGreatDoor
