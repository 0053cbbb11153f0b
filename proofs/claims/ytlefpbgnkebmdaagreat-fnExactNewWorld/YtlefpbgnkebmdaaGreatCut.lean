/- What the program's cutting functions answer, for every text. -/
import Derived.Test.YtlefpbgnkebmdaaGreatNameOK
import Derived.Test.YtlefpbgnkebmdaaGreatMath
import Derived.Deep.QuietTactic
import Derived.BigQuiet
namespace Go.Proofs.YtlefpbgnkebmdaaGreat
open Go.RowKit
set_option linter.unusedVariables false

theorem ne_of (s : ByteArray) (h : 0 < s.size) : s.toList.isEmpty = false := by
  rw [ByteArray.toList_eq]
  cases hl : s.data.toList with
  | nil => have := toList_length s; rw [hl] at this; simp at this; omega
  | cons c r => rfl
theorem empty_of (s : ByteArray) (h : s.size = 0) : s = em := by
  apply ByteArray.ext; apply Array.ext'; apply List.eq_nil_of_length_eq_zero
  rw [toList_length]; exact h

theorem setCell_drewN (w : World) (n : Nat) (a : Addr) (v : Value) : (w.drewN n).setCell a v = (w.setCell a v).drewN n := by
  induction n with
  | zero => rfl
  | succ n ih => rw [← World.drew_drewN, World.setCell_drew, ih, World.drew_drewN]

theorem isSome_setCell (w : World) (a b : Addr) (v : Value) : ((w.setCell a v).cell? b).isSome = (w.cell? b).isSome := by
  by_cases hab : a = b
  · subst hab
    simp only [World.setCell, World.cell?, Array.getElem?_modify, if_true]
    cases hh : w.heap[a.block]? with
    | none => simp
    | some x =>
      cases x <;> simp
      split
      · rfl
      · rename_i c _ _ _
        by_cases hlt : a.off < c.size
        · rw [Array.getElem?_eq_getElem (by simpa using hlt), Array.getElem?_eq_getElem hlt]; rfl
        · rw [Array.getElem?_eq_none (by simp; omega), Array.getElem?_eq_none (by omega)]
  · rw [World.cell?_setCell_other _ _ _ _ hab]

end Go.Proofs.YtlefpbgnkebmdaaGreat
