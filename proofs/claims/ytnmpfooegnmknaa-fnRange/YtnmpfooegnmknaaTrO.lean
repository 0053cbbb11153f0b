/- A tree and an entry that come in, opened: pages, each with its entries, at their places. -/
import Derived.Test.YtnmpfooegnmknaaTrP
import Derived.Deep.Slices
import Derived.Deep.Strs
import Derived.ChangeSame
import Derived.Lib.SmallJoins
import Derived.OpenShut
namespace Go.Proofs.Ytnmpfooegnmknaa.Tr
open Go.RowKit Go.Joins Go.Deep Go.ChangeShapes Go.WideShapes Go.ChangeAt
set_option linter.unusedVariables false

instance : Inhabited Ent := ⟨ze⟩
instance : Inhabited Pg := ⟨⟨0, []⟩⟩
theorem cellsOI : Try.prog.cellsOf 3 = 1 := by kernel_rfl
theorem cellsOS : Try.prog.cellsOf 9 = 1 := by kernel_rfl
theorem addO (b off i : Nat) : (⟨b, off, none⟩ : Addr).add i = ⟨b, off + i, none⟩ := by unfold Addr.add; split <;> simp_all
end Go.Proofs.Ytnmpfooegnmknaa.Tr
