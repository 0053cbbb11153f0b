/- How the program lays a value into bytes. -/
import Derived.Test.YtlefpbgnkebmdaaGreatEncS
namespace Go.Proofs.YtlefpbgnkebmdaaGreat
open Go.RowKit
set_option linter.unusedVariables false

theorem heap_size_alloc (w : World) (o : Obj) : (w.alloc o).heap.size = w.heap.size + 1 := by simp
theorem cell_new1 (w : World) (x : Value) (t : TypeId) (B : Nat) (hB : B = w.heap.size) : ∀ j u, [x][j]? = some u → (w.alloc (.cells #[x] t)).cell? ((⟨B, 0, none⟩ : Addr).add j) = some u := by
  subst hB; exact cell_one_new w x t
theorem numB_one (n : Int) : numB n 1 = [nb n 0] := rfl
theorem nb_zero (n : Int) : nb n 0 = n % 256 := by unfold nb; simp
theorem rowE_text (t : ByteArray) : rowE (bytesI t) = Lib.strCells t := by unfold rowE bytesI Lib.strCells; simp

/-- What laying a value behind bytes leaves. -/
def Laid1 (w w' : World) (base : Nat) (bv v' : Value) (zs : List Int) : Prop := OwnE w' base v' zs ∧ w.grownBy w' bv.ownBlock ∧ v' ≠ .slice none 0 0

end Go.Proofs.YtlefpbgnkebmdaaGreat
