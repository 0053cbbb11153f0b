import Derived.Test.YtgjknfbkkfidbaaGreatDoorTermUQ
import Derived.Test.YtgjknfbkkfidbaaGreatDoorTie
import Derived.Test.YtgjknfbkkfidbaaGreatDoorCards
import Derived.LaidMore
import Derived.Lay
import Derived.Stop.Joined
import Derived.SevenTiedAt
import Derived.ProofKit
import Derived.OpenShut
import Derived.ShutString
import Derived.ChangeOld
import Derived.Below
import Derived.Lib.SmallJoins
import Derived.Test.YtgjknfbkkfidbaaGreatDoorFactsTermMatchesQ
import Derived.Test.YtgjknfbkkfidbaaGreatDoorWalkTermMatchesQ
/- The row's statement. -/
namespace Go.Proofs.YtgjknfbkkfidbaaGreatDoor
open Go.ChangeShapes Go.WideShapes Go.ChangeAt Go.RowKit Go.Joins
open Go.ChangeMaps (open_string shut_string)
set_option linter.unusedVariables false
theorem fnExactTermMatches_row : Rows.FnExactTermMatchesSaid :=
  OpenClaim.holds_of_wide 9 Tryz.f9 rfl rfl rfl rfl rfl rfl rfl ⟨rfl, rfl, rfl, rfl, rfl⟩ rfl rfl rfl rfl rfl (by as_aux_lemma => kernel_rfl) Tryz.func9 fnExactTermMatches_facts
    (of_decide_eq_true (by as_aux_lemma => kernel_rfl)) (by unfold Func.isWrapper; first | (rw [if_pos (by decide +kernel)]; kernel_rfl) | (rw [if_neg (by decide +kernel)]; exact ⟨rfl, rfl⟩))
    (fun os started H enc _ => PTmM.lifted os started H enc)
end Go.Proofs.YtgjknfbkkfidbaaGreatDoor

/- At every term and every value the program's answer whether the term lets it in, and its code, are the specification's, and both arguments read as before; the library's tables that the row lists are as its text lays them. -/
namespace Go.Proofs.YtgjknfbkkfidbaaGreatDoor
open Go.ChangeShapes Go.WideShapes Go.ChangeAt Go.RowKit Go.Joins
open Go.ChangeMaps (open_string shut_string)
set_option linter.unusedVariables false
theorem fnExactTermMatches_holds : Rows.FnExactTermMatchesCardSaid :=
  Claim7.holds_tied_plain_at .later [] [.data, .pinned] true (true, "525b74ea023ec0bbbaca715ca3b410e631d73868b3455579c6bdb64de0f462b1") false
    fnExactTermMatches_row (fun _ h => by cases h) (by as_aux_lemma => kernel_rfl) (fun _ h => by cases h) fnExactTermMatches_row_tie rfl ⟨rfl, rfl⟩ (by as_aux_lemma => kernel_rfl) rfl
    (fun f fn hf hfn => by
      obtain rfl : f = 9 := Option.some.inj ((show Tryz.prog.funcNamed "loop.example/g00380/laws.FnExactTermMatches" = some 9 by as_aux_lemma => kernel_rfl).symm.trans hf) |>.symm
      obtain rfl : fn = Tryz.f9 := (Option.some.inj (Tryz.func9.symm.trans hfn)).symm
      exact ⟨(by as_aux_lemma => kernel_rfl), fun j t ht => by
        rw [Tryz.params9] at ht
        have hm : t ∈ [74, 60] := by simpa using Array.mem_of_getElem? ht
        have hall : ([74, 60].all fun u => !Tryz.prog.wantsStandIn u) = true := by as_aux_lemma => kernel_rfl
        exact (show Tryz.prog.wantsStandIn t = false by simpa using List.all_eq_true.1 hall t hm)⟩)
    (by as_aux_lemma => kernel_rfl)
#print axioms fnExactTermMatches_holds
end Go.Proofs.YtgjknfbkkfidbaaGreatDoor
