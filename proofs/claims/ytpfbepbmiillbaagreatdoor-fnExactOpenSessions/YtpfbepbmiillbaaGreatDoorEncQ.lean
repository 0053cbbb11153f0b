/- How the program and the specification lay numbers into bytes. -/
import Derived.Test.YtpfbepbmiillbaaGreatDoorOKCQ
import Derived.Laws.BytesArg
import Derived.Laws.OwnMore
import Derived.Maps.AppendAt
import Derived.Maps.Range
import Derived.Test.YtpfbepbmiillbaaGreatDoorOKAQ
import Derived.Test.YtpfbepbmiillbaaGreatDoorFindMQ
import Derived.Lib.AppendStr
import Derived.Laws.IdiomStrings
import Derived.Test.YtpfbepbmiillbaaGreatDoorInQ
namespace Go.Proofs.YtpfbepbmiillbaaGreatDoor
open Go.RowKit
set_option linter.unusedVariables false

def rowE (zs : List Int) : List Value := zs.map (Value.int .u8)
/-- The byte of a number that j others stand behind. -/
def nb (n : Int) (j : Nat) : Int := n / 2 ^ (8 * j) % 256
/-- The first k of a number's wd bytes. -/
def numK (n : Int) (wd k : Nat) : List Int := (List.range k).map fun j => nb n (wd - 1 - j)
def numB (n : Int) (wd : Nat) : List Int := numK n wd wd
/-- The slice value v owns the bytes zs. -/
def OwnE (w : World) (base : Nat) (v : Value) (zs : List Int) : Prop := w.ownsRow base 5 1 v zs.length (rowE zs)
/-- From w to w' nothing old but v's row has turned, and v' lies there or is new. -/
def Grew (w w' : World) (v v' : Value) : Prop := w.grownBy w' v.ownBlock ∧ (v'.ownBlock = v.ownBlock ∨ ∃ g, w.heap.size ≤ g ∧ v'.ownBlock = some g)
theorem Grew.refl (w : World) (v : Value) : Grew w w v v := ⟨World.grownBy.refl _ _, .inl rfl⟩
theorem Grew.trans {a b c : World} {u v x : Value} (h : Grew a b u v) (k : Grew b c v x) : Grew a c u x := by
  refine ⟨h.1.andThen k.1 (fun j hj => ?_), ?_⟩
  · rcases h.2 with h2 | ⟨g, hg, h2⟩
    · exact .inr (h2.symm.trans hj)
    · rw [h2] at hj; injection hj with hj; subst hj; exact .inl hg
  · rcases k.2 with k2 | ⟨g, hg, k2⟩
    · rcases h.2 with h2 | ⟨g, hg, h2⟩
      · exact .inl (k2.trans h2)
      · exact .inr ⟨g, hg, k2.trans h2⟩
    · exact .inr ⟨g, Nat.le_trans h.1.size hg, k2⟩
theorem Grew.alloc {a b : World} {u v : Value} (h : Grew a b u v) (o : Obj) : Grew a (b.alloc o) u v :=
  h.trans ⟨World.grownBy_alloc _ _ _, .inl rfl⟩
theorem Grew.below {w w' : World} {v v' : Value} {base : Nat} {zs : List Int} (h : Grew w w' v v') (ho : OwnE w base v zs) (hb : base ≤ w.heap.size) : Below base w w' :=
  Below.grown (Below.refl _ _) h.1 hb (fun k hk => (World.ownsRow.lt ho k hk).1)

/-- The text that numbers are, a byte each. -/
def txt (zs : List Int) : ByteArray := strOfNums zs
end Go.Proofs.YtpfbepbmiillbaaGreatDoor

/- How the specification lays a value into bytes. -/
namespace Go.Proofs.YtpfbepbmiillbaaGreatDoor
open Go.RowKit
set_option linter.unusedVariables false

theorem txt_size (zs : List Int) : (txt zs).size = zs.length := strOfNums_size zs
end Go.Proofs.YtpfbepbmiillbaaGreatDoor

/- How the program lays a value into bytes. -/
namespace Go.Proofs.YtpfbepbmiillbaaGreatDoor
open Go.RowKit
set_option linter.unusedVariables false

theorem heap_size_alloc (w : World) (o : Obj) : (w.alloc o).heap.size = w.heap.size + 1 := by simp
end Go.Proofs.YtpfbepbmiillbaaGreatDoor

/- Which kinds right values are of, and how a right value is laid into bytes. -/
namespace Go.Proofs.YtpfbepbmiillbaaGreatDoor
open Go.RowKit
set_option linter.unusedVariables false

end Go.Proofs.YtpfbepbmiillbaaGreatDoor

/- Values are read back from their bytes, said plainly: nothing of the program is used here. -/
namespace Go.Proofs.YtpfbepbmiillbaaGreatDoor
open Go.RowKit
set_option linter.unusedVariables false

end Go.Proofs.YtpfbepbmiillbaaGreatDoor

/- A right value fits a depth just if it is no deeper; lists and documents made of right values; nothing of the program is used here. -/
namespace Go.Proofs.YtpfbepbmiillbaaGreatDoor
open Go.RowKit
set_option linter.unusedVariables false

end Go.Proofs.YtpfbepbmiillbaaGreatDoor
