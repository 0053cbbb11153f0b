/- At every store the program's OldestSnap answers as the specification's; it writes into no argument; the library's tables that the row lists are as its text lays them. -/
import Derived.Test.YtpfbepbmiillbaaGreatDoorOldIQ
import Derived.Test.YtpfbepbmiillbaaGreatDoorRows
import Derived.Test.YtpfbepbmiillbaaGreatDoorTie
import Derived.Test.YtpfbepbmiillbaaGreatDoorCards
import Derived.LaidMore
import Derived.Lay
import Derived.Stop.Joined
import Derived.SevenTiedAt
import Derived.ProofKit
import Derived.OpenShut
import Derived.ShutString
import Derived.ChangeOld
import Derived.Below
import Derived.Lib.SmallJoins
import Derived.Test.YtpfbepbmiillbaaGreatDoorRowOldQ
namespace Go.Proofs.YtpfbepbmiillbaaGreatDoor
open Go.ChangeShapes Go.WideShapes Go.ChangeAt Go.RowKit Go.Joins
open Go.ChangeMaps (open_string shut_string)
set_option linter.unusedVariables false
theorem fnExactOldestSnap_holds : Rows.FnExactOldestSnapCardSaid :=
  Claim7.holds_tied_plain_at .later [] [.data, .pinned] true (true, "600674310bf268d45fd1e86b779ce7b9f3de861423041fa2a6b6824339be0a18") false
    fnExactOldestSnap_row (fun _ h => by cases h) (by as_aux_lemma => kernel_rfl) (fun _ h => by cases h) fnExactOldestSnap_row_tie rfl ⟨rfl, rfl⟩ (by as_aux_lemma => kernel_rfl) rfl
    (fun f fn hf hfn => by
      obtain rfl : f = 4 := Option.some.inj ((show Tryz.prog.funcNamed "loop.example/g00380/laws.FnExactOldestSnap" = some 4 by as_aux_lemma => kernel_rfl).symm.trans hf) |>.symm
      obtain rfl : fn = Tryz.f4 := (Option.some.inj (Tryz.func4.symm.trans hfn)).symm
      exact ⟨(by as_aux_lemma => kernel_rfl), fun j t ht => by
        rw [Tryz.params4] at ht
        have hm : t ∈ [26] := by simpa using Array.mem_of_getElem? ht
        have hall : ([26].all fun u => !Tryz.prog.wantsStandIn u) = true := by as_aux_lemma => kernel_rfl
        exact (show Tryz.prog.wantsStandIn t = false by simpa using List.all_eq_true.1 hall t hm)⟩)
    (by as_aux_lemma => kernel_rfl)
#print axioms fnExactOldestSnap_holds
end Go.Proofs.YtpfbepbmiillbaaGreatDoor
