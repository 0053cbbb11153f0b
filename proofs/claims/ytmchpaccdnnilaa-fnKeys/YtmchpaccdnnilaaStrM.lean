/- Rows of texts of an answer's own: what the laws' marks on them answer. -/
import Derived.Test.YtmchpaccdnnilaaTrN
namespace Go.Proofs.Ytmchpaccdnnilaa.Tr
open Go.RowKit
set_option linter.unusedVariables false

theorem infoStr : (Try.prog.info? 9).map (fun i => (i.zero, i.size, i.bytes)) = some (some (.string em), 1, 16) := by kernel_rfl
def strV (l : List ByteArray) : List Value := l.map Value.string
theorem strV_len (l : List ByteArray) : (strV l).length = l.length := by unfold strV; simp
theorem strV_get (l : List ByteArray) (i : Nat) (h : i < l.length) : (strV l)[i]? = some (.string l[i]) := by unfold strV; rw [List.getElem?_map, List.getElem?_eq_getElem h]; rfl
theorem strV_set (l : List ByteArray) (k : Nat) (t : ByteArray) : (strV l).set k (.string t) = strV (l.set k t) := by unfold strV; rw [List.map_set]
theorem strV_app (a b : List ByteArray) : strV (a ++ b) = strV a ++ strV b := by unfold strV; simp
def OwnS (w : World) (base : Nat) (v : Value) (l : List ByteArray) : Prop := w.ownsRow base 9 1 v l.length (strV l)
/-- Texts in a row. -/
def InT1 (w : World) (a : Option Addr) (l : List ByteArray) : Prop := l.length = 0 ∨ ∃ g, a = some ⟨g, 0, none⟩ ∧ g < w.heap.size ∧ ∀ i (h : i < l.length), w.cell? ⟨g, i, none⟩ = some (.string l[i])
theorem InT1.step {w w' : World} {a : Option Addr} {l : List ByteArray} (h : InT1 w a l) (hb : Below w.heap.size w w') : InT1 w' a l := by
  rcases h with h | ⟨g, ha, hl, hc⟩
  · exact .inl h
  · exact .inr ⟨g, ha, Nat.lt_of_lt_of_le hl hb.size, fun i hi => (hb.cell hl).trans (hc i hi)⟩
theorem OwnS.form {w : World} {base : Nat} {v : Value} {l : List ByteArray} (h : OwnS w base v l) : (v = .slice none 0 0 ∧ l = []) ∨ ∃ g cap, v = .slice (some ⟨g, 0, none⟩) l.length cap ∧ base ≤ g ∧ g < w.heap.size := by
  have hlt := World.ownsRow.lt h
  obtain ⟨h1, h2⟩ := h
  rcases h2 with ⟨hv, h0⟩ | ⟨g, cap, cur, hv, hg, hh, r⟩
  · exact .inl ⟨hv, List.length_eq_zero_iff.1 h0⟩
  · exact .inr ⟨g, cap, hv, hg, (hlt g (by rw [hv]; rfl)).2⟩
theorem OwnS.in1 {w : World} {base : Nat} {v : Value} {l : List ByteArray} (h : OwnS w base v l) : ∃ p cap, v = .slice p l.length cap ∧ InT1 w p l := by
  rcases h.form with ⟨rfl, rfl⟩ | ⟨g, cap, rfl, _, hg⟩
  · exact ⟨none, 0, rfl, .inl rfl⟩
  · exact ⟨_, cap, rfl, .inr ⟨g, rfl, hg, fun i hi => owns_cell h i _ (strV_get l i hi)⟩⟩
def marksS (q n : Nat) : List ByteArray := (List.range n).map fun i => mt (q + i)
theorem marksS_len (q n : Nat) : (marksS q n).length = n := by unfold marksS; simp
theorem marksS_get (q n i : Nat) (h : i < (marksS q n).length) : (marksS q n)[i] = mt (q + i) := by simp [marksS]
def markMixS (q : Nat) (l : List ByteArray) (k : Nat) : List ByteArray := marksS q k ++ l.drop k
theorem markMixS_len (q : Nat) (l : List ByteArray) (k : Nat) (h : k ≤ l.length) : (markMixS q l k).length = l.length := by unfold markMixS; rw [List.length_append, marksS_len, List.length_drop]; omega
theorem markMixS_zero (q : Nat) (l : List ByteArray) : markMixS q l 0 = l := by unfold markMixS marksS; simp
theorem markMixS_full (q : Nat) (l : List ByteArray) : markMixS q l l.length = marksS q l.length := by unfold markMixS; simp
theorem markMixS_set (q : Nat) (l : List ByteArray) (k : Nat) (h : k < l.length) : (markMixS q l k).set k (mt (q + k)) = markMixS q l (k + 1) := by
  unfold markMixS
  rw [List.set_append_right _ _ (by rw [marksS_len]; omega), marksS_len, Nat.sub_self]
  have e : marksS q (k + 1) = marksS q k ++ [mt (q + k)] := by unfold marksS; rw [List.range_succ, List.map_append]; rfl
  rw [e, List.append_assoc]
  congr 1
  rw [List.drop_eq_getElem_cons h]; rfl

end Go.Proofs.Ytmchpaccdnnilaa.Tr
