/- Whether a definition of an index is right: the specification's answer, and the laws' own helpers on definitions. -/
import Derived.Test.YtnmpfooegnmknaaDoorDefI
namespace Go.Proofs.YtnmpfooegnmknaaDoor.Tr
open Go.RowKit
set_option linter.unusedVariables false

theorem diffB_one (a : Prt) : diffB [] [a] = true := rfl
theorem diffB_two (a b : Prt) : diffB [] [a, b] = !(a.path.toList == b.path.toList) := by
  show (!([] : List Prt).any (alikeP a.path) && (!([a].any (alikeP b.path)) && true)) = _
  simp [alikeP]
theorem diff_cases {l : List Prt} {R : Bool} (h : R = diffB [] l) (h1 : 1 ≤ l.length) (h2 : l.length ≤ 2) : (l.length = 1 ∧ R = true) ∨ ∃ (h0 : 0 < l.length) (h1 : 1 < l.length), l.length = 2 ∧ R = !(l[0].path.toList == l[1].path.toList) := by
  match l, h1, h2 with
  | [a], _, _ => exact .inl ⟨rfl, h.trans (diffB_one a)⟩
  | [a, b], _, _ => exact .inr ⟨by simp, by simp, rfl, h.trans (diffB_two a b)⟩
theorem OwnD.rowD {w : World} {base g n cap : Nat} {l : List Prt} (h : OwnD w base (.slice (some ⟨g, 0, none⟩) n cap) l) (hn : n = l.length) : RowD w (some ⟨g, 0, none⟩) l := by
  subst hn; exact .inr ⟨g, rfl, ReadD.of_own h⟩

end Go.Proofs.YtnmpfooegnmknaaDoor.Tr
