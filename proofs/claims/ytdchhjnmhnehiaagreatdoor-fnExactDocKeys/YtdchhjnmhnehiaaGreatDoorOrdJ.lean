/- What the program's comparing of rows of values and of fields answers. -/
import Derived.Test.YtdchhjnmhnehiaaGreatDoorOrdI
namespace Go.Proofs.YtdchhjnmhnehiaaGreatDoor
open Go.RowKit
set_option linter.unusedVariables false

/-- A row of values, a nil one too. -/
def RowV (w : World) (p : Option Addr) (l : List Val) : Prop := l = [] ∨ ∃ g, p = some ⟨g, 0, none⟩ ∧ ReadV w g l
theorem RowV.next {w w' : World} {p : Option Addr} {l : List Val} (h : RowV w p l) (hb : Below w.heap.size w w') : RowV w' p l := by
  rcases h with h | ⟨g, hp, hr⟩
  · exact .inl h
  · exact .inr ⟨g, hp, hr.next hb⟩
def RowF (w : World) (p : Option Addr) (l : List Fld) : Prop := l = [] ∨ ∃ g, p = some ⟨g, 0, none⟩ ∧ ReadF w g l
theorem RowF.next {w w' : World} {p : Option Addr} {l : List Fld} (h : RowF w p l) (hb : Below w.heap.size w w') : RowF w' p l := by
  rcases h with h | ⟨g, hp, hr⟩
  · exact .inl h
  · exact .inr ⟨g, hp, hr.next hb⟩
theorem itemsIn_row (body : ByteArray) (l : List Val) (w : World) (hs : body.size ≤ 1048576) (hi : items body = some l) :
    Calls Tryz.prog 139 #[.string body] w fun e w' => (∃ p cap, e = .returned (.slice p l.length cap) ∧ RowV w' p l) ∧ Below w.heap.size w w' := by
  by_cases hl : l = []
  · subst hl
    exact (itemsIn_nil body w hs hi).mono fun e w' ⟨he, hb⟩ => ⟨⟨none, 0, he, .inl rfl⟩, hb⟩
  · exact (itemsIn_cons body l w hs hi hl).mono fun e w' ⟨⟨g, cap, he, ho⟩, hb⟩ => ⟨⟨some ⟨g, 0, none⟩, cap, he, .inr ⟨g, rfl, ReadV.of_own ho⟩⟩, hb⟩
theorem fieldsIn_row (body : ByteArray) (l : List Fld) (w : World) (hs : body.size ≤ 1048576) (hi : fields body = some l) :
    Calls Tryz.prog 140 #[.string body] w fun e w' => (∃ p cap, e = .returned (.slice p l.length cap) ∧ RowF w' p l) ∧ Below w.heap.size w w' := by
  by_cases hl : l = []
  · subst hl
    exact (fieldsIn_nil body w hs hi).mono fun e w' ⟨he, hb⟩ => ⟨⟨none, 0, he, .inl rfl⟩, hb⟩
  · exact (fieldsIn_cons body l w hs hi hl).mono fun e w' ⟨⟨g, cap, he, ho⟩, hb⟩ => ⟨⟨some ⟨g, 0, none⟩, cap, he, .inr ⟨g, rfl, ReadF.of_own ho⟩⟩, hb⟩

end Go.Proofs.YtdchhjnmhnehiaaGreatDoor
