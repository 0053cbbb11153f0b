/- How the program and the specification lay numbers into bytes. -/
import Derived.Test.YtlefpbgnkebmdaaGreatOKD
import Derived.Laws.BytesArg
import Derived.Laws.OwnMore
import Derived.Maps.AppendAt
import Derived.Maps.Range
namespace Go.Proofs.YtlefpbgnkebmdaaGreat
open Go.RowKit
set_option linter.unusedVariables false

theorem infoE : (Tryz.prog.info? 5).map (fun i => (i.zero, i.size, i.bytes)) = some (some (.int .u8 0), 1, 1) := by kernel_rfl
def rowE (zs : List Int) : List Value := zs.map (Value.int .u8)
theorem rowE_append (a b : List Int) : rowE (a ++ b) = rowE a ++ rowE b := by unfold rowE; simp
theorem rowE_len (a : List Int) : (rowE a).length = a.length := by unfold rowE; simp
/-- The byte of a number that j others stand behind. -/
def nb (n : Int) (j : Nat) : Int := n / 2 ^ (8 * j) % 256
/-- The first k of a number's wd bytes. -/
def numK (n : Int) (wd k : Nat) : List Int := (List.range k).map fun j => nb n (wd - 1 - j)
def numB (n : Int) (wd : Nat) : List Int := numK n wd wd
theorem numK_len (n : Int) (wd k : Nat) : (numK n wd k).length = k := by unfold numK; simp
theorem numK_succ (n : Int) (wd k : Nat) : numK n wd (k + 1) = numK n wd k ++ [nb n (wd - 1 - k)] := by unfold numK; rw [List.range_succ]; simp
theorem numK_zero (n : Int) (wd : Nat) : numK n wd 0 = [] := rfl
/-- The slice value v owns the bytes zs. -/
def OwnE (w : World) (base : Nat) (v : Value) (zs : List Int) : Prop := w.ownsRow base 5 1 v zs.length (rowE zs)
/-- From w to w' nothing old but v's row has turned, and v' lies there or is new. -/
def Grew (w w' : World) (v v' : Value) : Prop := w.grownBy w' v.ownBlock ∧ (v'.ownBlock = v.ownBlock ∨ ∃ g, w.heap.size ≤ g ∧ v'.ownBlock = some g)
theorem Grew.refl (w : World) (v : Value) : Grew w w v v := ⟨World.grownBy.refl _ _, .inl rfl⟩
theorem Grew.trans {a b c : World} {u v x : Value} (h : Grew a b u v) (k : Grew b c v x) : Grew a c u x := by
  refine ⟨h.1.andThen k.1 (fun j hj => ?_), ?_⟩
  · rcases h.2 with h2 | ⟨g, hg, h2⟩
    · exact .inr (h2.symm.trans hj)
    · rw [h2] at hj; injection hj with hj; subst hj; exact .inl hg
  · rcases k.2 with k2 | ⟨g, hg, k2⟩
    · rcases h.2 with h2 | ⟨g, hg, h2⟩
      · exact .inl (k2.trans h2)
      · exact .inr ⟨g, hg, k2.trans h2⟩
    · exact .inr ⟨g, Nat.le_trans h.1.size hg, k2⟩
theorem Grew.alloc {a b : World} {u v : Value} (h : Grew a b u v) (o : Obj) : Grew a (b.alloc o) u v :=
  h.trans ⟨World.grownBy_alloc _ _ _, .inl rfl⟩
theorem Grew.below {w w' : World} {v v' : Value} {base : Nat} {zs : List Int} (h : Grew w w' v v') (ho : OwnE w base v zs) (hb : base ≤ w.heap.size) : Below base w w' :=
  Below.grown (Below.refl _ _) h.1 hb (fun k hk => (World.ownsRow.lt ho k hk).1)

/-- The text that numbers are, a byte each. -/
def txt (zs : List Int) : ByteArray := strOfNums zs
theorem convE (v : Value) (zs : List Int) (base : Nat) (w : World) (hv : v ≠ .slice none 0 0) (hown : OwnE w base v zs) : (convert 119 9 v).run Tryz.prog w = .ok (.string (txt zs)) w := by
  obtain ⟨g, cap, rfl⟩ := owns_shape hown hv
  refine run_convert_bytes_arg w 119 5 Tryz.underlying119 Tryz.underlying5 g 0 zs.length cap zs rfl (fun i hi => ?_) 9 Tryz.underlying9
  rw [Nat.zero_add]
  refine owns_cell hown i _ ?_
  unfold rowE; rw [List.getElem?_map, List.getElem?_eq_getElem hi, List.getD_eq_getElem?_getD, List.getElem?_eq_getElem hi]; rfl

end Go.Proofs.YtlefpbgnkebmdaaGreat
