/- What the specification's cutting of a document's body answers, for every text: the fields lie in new memory. -/
import Derived.Test.YtlefpbgnkebmdaaGreatItems
namespace Go.Proofs.YtlefpbgnkebmdaaGreat
open Go.RowKit
set_option linter.unusedVariables false

def rowF (f : Fld) : List Value := [.string f.name, .int .i64 f.v.k, .int .i64 f.v.n, .string f.v.t]
def flatF (l : List Fld) : List Value := l.flatMap rowF
theorem flatF_snoc (l : List Fld) (f : Fld) : flatF (l ++ [f]) = flatF l ++ rowF f := by unfold flatF; simp

theorem flatF_get : ∀ (l : List Fld) (i : Nat) (h : i < l.length), (flatF l)[i * 4]? = some (.string l[i].name) ∧ (flatF l)[i * 4 + 1]? = some (.int .i64 l[i].v.k) ∧ (flatF l)[i * 4 + 2]? = some (.int .i64 l[i].v.n) ∧ (flatF l)[i * 4 + 3]? = some (.string l[i].v.t)
  | v :: l, 0, _ => ⟨rfl, rfl, rfl, rfl⟩
  | v :: l, i + 1, h => by
    have ih := flatF_get l i (by simpa using h)
    have e : flatF (v :: l) = rowF v ++ flatF l := by unfold flatF; simp
    rw [e, show (i + 1) * 4 = i * 4 + 4 by omega]
    have hl : (rowF v).length = 4 := rfl
    refine ⟨?_, ?_, ?_, ?_⟩
    · rw [List.getElem?_append_right (by omega), hl]; simpa using ih.1
    · rw [List.getElem?_append_right (by omega), hl, show i * 4 + 4 + 1 - 4 = i * 4 + 1 by omega]; simpa using ih.2.1
    · rw [List.getElem?_append_right (by omega), hl, show i * 4 + 4 + 2 - 4 = i * 4 + 2 by omega]; simpa using ih.2.2.1
    · rw [List.getElem?_append_right (by omega), hl, show i * 4 + 4 + 3 - 4 = i * 4 + 3 by omega]; simpa using ih.2.2.2

theorem beT_first (s : ByteArray) (h : 0 < s.size) : beT s 1 = s[0].toNat := by
  have := beT_step s 0 h
  rw [this, beT_zero]; simp
theorem cutF_short (s : ByteArray) (h : 0 < s.size) (h2 : s.size < 1 + s[0].toNat) : cutF s = none := by
  unfold cutF cutT
  rw [if_neg (by omega), beT_first s h, if_pos h2]
theorem cutF_long (s : ByteArray) (h : 0 < s.size) (h2 : 1 + s[0].toNat ≤ s.size) :
    cutF s = (cutV (s.extract (1 + s[0].toNat) s.size)).map fun q => (⟨s.extract 1 (1 + s[0].toNat), q.1⟩, q.2) := by
  unfold cutF cutT
  rw [if_neg (by omega), beT_first s h, if_neg (by omega)]

end Go.Proofs.YtlefpbgnkebmdaaGreat
