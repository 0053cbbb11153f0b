/- What the laws' own helpers on rows of fields answer. -/
import Derived.Test.YtdchhjnmhnehiaaGreatDoorMarks
namespace Go.Proofs.YtdchhjnmhnehiaaGreatDoor
open Go.RowKit
set_option linter.unusedVariables false

/-- A row of fields that stands at a block's head. -/
structure ReadF (w : World) (g : Nat) (l : List Fld) : Prop where
  lt : g < w.heap.size
  cells : ∀ i (h : i < l.length), w.cell? ⟨g, i * 4, none⟩ = some (.string l[i].name) ∧ w.cell? ⟨g, i * 4 + 1, none⟩ = some (.int .i64 l[i].v.k) ∧ w.cell? ⟨g, i * 4 + 2, none⟩ = some (.int .i64 l[i].v.n) ∧ w.cell? ⟨g, i * 4 + 3, none⟩ = some (.string l[i].v.t)
theorem ReadF.step {w w' : World} {g base : Nat} {l : List Fld} (h : ReadF w g l) (hb : Below base w w') (hg : g < base) : ReadF w' g l :=
  ⟨Nat.lt_of_lt_of_le h.lt hb.size, fun i hi => ⟨(hb.cell hg).trans (h.cells i hi).1, (hb.cell hg).trans (h.cells i hi).2.1, (hb.cell hg).trans (h.cells i hi).2.2.1, (hb.cell hg).trans (h.cells i hi).2.2.2⟩⟩
theorem ReadF.next {w w' : World} {g : Nat} {l : List Fld} (h : ReadF w g l) (hb : Below w.heap.size w w') : ReadF w' g l := h.step hb h.lt
theorem ReadF.of_own {w : World} {base g cap : Nat} {l : List Fld} (h : w.ownsRow base 98 4 (.slice (some ⟨g, 0, none⟩) l.length cap) l.length (flatF l)) : ReadF w g l :=
  ⟨(h.lt g rfl).2, fun i hi => ⟨owns_cell h _ _ (flatF_get l i hi).1, owns_cell h _ _ (flatF_get l i hi).2.1, owns_cell h _ _ (flatF_get l i hi).2.2.1, owns_cell h _ _ (flatF_get l i hi).2.2.2⟩⟩
theorem flatF_cons (f : Fld) (l : List Fld) : flatF (f :: l) = .string f.name :: .int .i64 f.v.k :: .int .i64 f.v.n :: .string f.v.t :: flatF l := rfl
theorem flatF_set : ∀ (l : List Fld) (k : Nat) (f : Fld), k < l.length → ((((flatF l).set (k * 4) (.string f.name)).set (k * 4 + 1) (.int .i64 f.v.k)).set (k * 4 + 2) (.int .i64 f.v.n)).set (k * 4 + 3) (.string f.v.t) = flatF (l.set k f)
  | [], k, f, h => by simp at h
  | u :: l, 0, f, _ => rfl
  | u :: l, k + 1, f, h => by
    rw [List.set_cons_succ, flatF_cons, flatF_cons, ← flatF_set l k f (by simpa using h)]
    rw [show (k + 1) * 4 = k * 4 + 1 + 1 + 1 + 1 by omega]
    rfl

/-- The field that marks place number i. -/
def markF (i : Nat) : Fld := ⟨mt (1 + 4 * (i : Int)).toNat, ⟨1 + 4 * (i : Int) + 1, 1 + 4 * (i : Int) + 1 + 1, mt (1 + 4 * (i : Int) + 1 + 1 + 1).toNat⟩⟩
def marksF (n : Nat) : List Fld := (List.range n).map markF
theorem marksF_len (n : Nat) : (marksF n).length = n := by unfold marksF; simp
theorem marksF_get (n i : Nat) (h : i < (marksF n).length) : (marksF n)[i] = markF i := by simp [marksF]
def markMixF (l : List Fld) (k : Nat) : List Fld := marksF k ++ l.drop k
theorem markMixF_len (l : List Fld) (k : Nat) (h : k ≤ l.length) : (markMixF l k).length = l.length := by unfold markMixF; rw [List.length_append, marksF_len, List.length_drop]; omega
theorem markMixF_zero (l : List Fld) : markMixF l 0 = l := by unfold markMixF marksF; simp
theorem markMixF_full (l : List Fld) : markMixF l l.length = marksF l.length := by unfold markMixF; simp
theorem markMixF_set (l : List Fld) (k : Nat) (h : k < l.length) : (markMixF l k).set k (markF k) = markMixF l (k + 1) := by
  unfold markMixF
  rw [List.set_append_right _ _ (by rw [marksF_len]; omega), marksF_len, Nat.sub_self]
  have e : marksF (k + 1) = marksF k ++ [markF k] := by unfold marksF; rw [List.range_succ, List.map_append]; rfl
  rw [e, List.append_assoc]
  congr 1
  rw [List.drop_eq_getElem_cons h]; rfl
theorem readMarksF {w : World} {base g c : Nat} (n : Nat) (h : w.ownsRow base 98 4 (.slice (some ⟨g, 0, none⟩) n c) n (flatF (marksF n))) : ReadF w g (marksF n) :=
  ReadF.of_own (l := marksF n) (cap := c) (base := base) (by rw [marksF_len]; exact h)

theorem own_there {w : World} {base g c n : Nat} {e : TypeId} {size : Nat} {xs : List Value} (h : w.ownsRow base e size (.slice (some ⟨g, 0, none⟩) n c) n xs) (j : Nat) (hj : j < n * size) : ∃ u, w.cell? ⟨g, j, none⟩ = some u := by
  have := World.ownsRow.cellAt h j hj
  rw [this]
  exact ⟨_, List.getElem?_eq_getElem (by have := h.1; omega)⟩

end Go.Proofs.YtdchhjnmhnehiaaGreatDoor
