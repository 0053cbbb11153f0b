/- What the specification's parting of a text at its points answers. -/
import Derived.Test.YtlefpbgnkebmdaaGreatSplitW
namespace Go.Proofs.YtlefpbgnkebmdaaGreat
open Go.RowKit
set_option linter.unusedVariables false

def strs (l : List ByteArray) : List Value := l.map Value.string
theorem strs_snoc (l : List ByteArray) (x : ByteArray) : strs (l ++ [x]) = strs l ++ [.string x] := by unfold strs; simp
theorem readS_own {w : World} {base g cap : Nat} {l : List ByteArray} (h : w.ownsRow base 9 1 (.slice (some ⟨g, 0, none⟩) l.length cap) l.length (strs l)) : ReadS w g 0 l :=
  ⟨(h.lt g rfl).2, fun i hi => by rw [Nat.zero_add]; exact owns_cell h _ _ (by unfold strs; simp [List.getElem?_eq_getElem hi])⟩

end Go.Proofs.YtlefpbgnkebmdaaGreat
