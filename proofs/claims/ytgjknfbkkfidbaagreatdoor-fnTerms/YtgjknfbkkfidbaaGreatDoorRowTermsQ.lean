import Derived.Test.YtgjknfbkkfidbaaGreatDoorTermsMQ
import Derived.Test.YtgjknfbkkfidbaaGreatDoorTie
import Derived.Test.YtgjknfbkkfidbaaGreatDoorCards
import Derived.LaidMore
import Derived.Lay
import Derived.Stop.Joined
import Derived.SevenTiedAt
import Derived.ProofKit
import Derived.OpenShut
import Derived.ShutString
import Derived.ChangeOld
import Derived.Below
import Derived.Lib.SmallJoins
import Derived.Test.YtgjknfbkkfidbaaGreatDoorFactsTerms
import Derived.Test.YtgjknfbkkfidbaaGreatDoorWalkTermsQ
/- The row's statement. -/
namespace Go.Proofs.YtgjknfbkkfidbaaGreatDoor
open Go.ChangeShapes Go.WideShapes Go.ChangeAt Go.RowKit Go.Joins
open Go.ChangeMaps (open_string shut_string)
set_option linter.unusedVariables false
theorem fnTerms_row : Rows.FnTermsSaid :=
  OpenClaim.holds_of_wide 6 Tryz.f6 rfl rfl rfl rfl rfl rfl rfl ⟨rfl, rfl, rfl, rfl, rfl⟩ rfl rfl rfl rfl rfl (by as_aux_lemma => kernel_rfl) Tryz.func6 fnTerms_facts
    (of_decide_eq_true (by as_aux_lemma => kernel_rfl)) (by unfold Func.isWrapper; first | (rw [if_pos (by decide +kernel)]; kernel_rfl) | (rw [if_neg (by decide +kernel)]; exact ⟨rfl, rfl⟩))
    (fun os started H enc _ => PTms.lifted os started H enc)
end Go.Proofs.YtgjknfbkkfidbaaGreatDoor

/- For every two rows of bytes the law on terms returns true: of one drawn document and one drawn value the terms that compare say of each other what they should, and a drawn term is a right one; both rows read as before. -/
namespace Go.Proofs.YtgjknfbkkfidbaaGreatDoor
open Go.ChangeShapes Go.WideShapes Go.ChangeAt Go.RowKit Go.Joins
open Go.ChangeMaps (open_string shut_string)
set_option linter.unusedVariables false
theorem fnTerms_holds : Rows.FnTermsCardSaid :=
  Claim7.holds_tied_plain_at .later [] [.data, .pinned] true (true, "525b74ea023ec0bbbaca715ca3b410e631d73868b3455579c6bdb64de0f462b1") false
    fnTerms_row (fun _ h => by cases h) (by as_aux_lemma => kernel_rfl) (fun _ h => by cases h) fnTerms_row_tie rfl ⟨rfl, rfl⟩ (by as_aux_lemma => kernel_rfl) rfl
    (fun f fn hf hfn => by
      obtain rfl : f = 6 := Option.some.inj ((show Tryz.prog.funcNamed "loop.example/g00380/laws.FnTerms" = some 6 by as_aux_lemma => kernel_rfl).symm.trans hf) |>.symm
      obtain rfl : fn = Tryz.f6 := (Option.some.inj (Tryz.func6.symm.trans hfn)).symm
      exact ⟨(by as_aux_lemma => kernel_rfl), fun j t ht => by
        rw [Tryz.params6] at ht
        have hm : t ∈ [22, 22] := by simpa using Array.mem_of_getElem? ht
        have hall : ([22, 22].all fun u => !Tryz.prog.wantsStandIn u) = true := by as_aux_lemma => kernel_rfl
        exact (show Tryz.prog.wantsStandIn t = false by simpa using List.all_eq_true.1 hall t hm)⟩)
    (by as_aux_lemma => kernel_rfl)
#print axioms fnTerms_holds
end Go.Proofs.YtgjknfbkkfidbaaGreatDoor
