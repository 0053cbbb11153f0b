/- What the library's parting of a text at its points answers, and the program's and the specification's own. -/
import Derived.Test.YtlefpbgnkebmdaaGreatSplitM
import Derived.Test.YtlefpbgnkebmdaaGreatItems
import Derived.Lib.Bytealg
import Derived.Deep.OwnRows
namespace Go.Proofs.YtlefpbgnkebmdaaGreat
open Go.RowKit
set_option linter.unusedVariables false

theorem index_one_eq (s : ByteArray) (h : ([46] == s.toList) = true) : Lib.indexByte s.data.toList 46 = 0 := by
  have e : s.data.toList = [46] := by rw [← ByteArray.toList_eq]; exact (beq_iff_eq.1 h).symm
  rw [e]; rfl
theorem pieces_one (s : ByteArray) (h : (pieces s).length = 1) : pieces s = [s] := by
  have hge := Lib.indexByte_ge s.data.toList 46
  by_cases h1 : Lib.indexByte s.data.toList 46 = -1
  · exact pieces_miss s h1
  · obtain ⟨i, hi⟩ : ∃ i : Nat, Lib.indexByte s.data.toList 46 = i := ⟨(Lib.indexByte s.data.toList 46).toNat, by omega⟩
    have e := (pieces_hit s i hi).2
    rw [e, List.length_cons, pieces_len] at h
    omega
theorem pieces_more (s : ByteArray) (h : 1 < (pieces s).length) : ∃ i : Nat, Lib.indexByte s.data.toList 46 = i ∧ i < s.size ∧ pieces s = s.extract 0 i :: pieces (s.extract (i + 1) s.size) := by
  have hge := Lib.indexByte_ge s.data.toList 46
  by_cases h1 : Lib.indexByte s.data.toList 46 = -1
  · rw [pieces_miss s h1] at h; simp at h
  · obtain ⟨i, hi⟩ : ∃ i : Nat, Lib.indexByte s.data.toList 46 = i := ⟨(Lib.indexByte s.data.toList 46).toNat, by omega⟩
    exact ⟨i, hi, pieces_hit s i hi⟩

theorem infoS : (Tryz.prog.info? 9).map (fun i => (i.zero, i.size, i.bytes)) = some (some (.string ByteArray.empty), 1, 16) := by kernel_rfl

/-- Texts that lie one behind the other from a place of a block on. -/
structure ReadS (w : World) (g off : Nat) (l : List ByteArray) : Prop where
  lt : g < w.heap.size
  cells : ∀ i (h : i < l.length), w.cell? ⟨g, off + i, none⟩ = some (.string l[i])
theorem ReadS.step {w w' : World} {g off base : Nat} {l : List ByteArray} (h : ReadS w g off l) (hb : Below base w w') (hg : g < base) : ReadS w' g off l :=
  ⟨Nat.lt_of_lt_of_le h.lt hb.size, fun i hi => (hb.cell hg).trans (h.cells i hi)⟩
theorem ReadS.next {w w' : World} {g off : Nat} {l : List ByteArray} (h : ReadS w g off l) (hb : Below w.heap.size w w') : ReadS w' g off l := h.step hb h.lt
theorem ReadS.tail {w : World} {g off : Nat} {x : ByteArray} {l : List ByteArray} (h : ReadS w g off (x :: l)) : ReadS w g (off + 1) l :=
  ⟨h.lt, fun i hi => by have := h.cells (i + 1) (by simpa using hi); rw [show off + 1 + i = off + (i + 1) by omega]; simpa using this⟩
theorem readS_alloc (w : World) (l : List ByteArray) (T : TypeId) : ReadS (w.alloc (.cells (Lib.cellsOf l l.length) T)) w.heap.size 0 l := by
  refine ⟨by simp, fun i hi => ?_⟩
  have e : (Lib.cellsOf l l.length)[i]? = some (.string l[i]) := by
    unfold Lib.cellsOf
    rw [List.getElem?_toArray, List.getElem?_append_left (by simpa using hi)]
    simp [List.getElem?_eq_getElem hi]
  rw [Nat.zero_add]
  simp [go_sem, e]

end Go.Proofs.YtlefpbgnkebmdaaGreat
