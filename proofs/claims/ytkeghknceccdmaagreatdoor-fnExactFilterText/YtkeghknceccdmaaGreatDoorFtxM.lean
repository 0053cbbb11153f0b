/- The text of a filter, said plainly, and how long it is at most. Nothing of the program is used here. -/
import Derived.Test.YtkeghknceccdmaaGreatDoorFtxW
import Derived.Test.YtkeghknceccdmaaGreatDoorFiltI
import Derived.Test.YtkeghknceccdmaaGreatDoorTermM
namespace Go.Proofs.YtkeghknceccdmaaGreatDoor
open Go.RowKit
set_option linter.unusedVariables false

/-- The text of a term. -/
def textTm (t : Trm) : ByteArray := t.p ++ (⟨#[32]⟩ : ByteArray) ++ words.getD t.op.toNat em ++ (⟨#[32]⟩ : ByteArray) ++ mkB (textV 5 t.c)
/-- The text of a clause. -/
def textCl (l : List Trm) : ByteArray := joinB ⟨#[32, 97, 110, 100, 32]⟩ (l.map textTm)
/-- The text of a filter. -/
def textFi (f : List (List Trm)) : ByteArray := joinB ⟨#[32, 111, 114, 32]⟩ (f.map textCl)
theorem word_len (n : Nat) : (words.getD n em).size ≤ 6 := by
  by_cases h : n < 11
  · rcases (show n = 0 ∨ n = 1 ∨ n = 2 ∨ n = 3 ∨ n = 4 ∨ n = 5 ∨ n = 6 ∨ n = 7 ∨ n = 8 ∨ n = 9 ∨ n = 10 by omega) with rfl | rfl | rfl | rfl | rfl | rfl | rfl | rfl | rfl | rfl | rfl <;> decide
  · have e : words.getD n em = em := by rw [List.getD_eq_getElem?_getD, List.getElem?_eq_none (by show 11 ≤ n; omega)]; rfl
    rw [e]; decide
theorem textTm_len (t : Trm) (h : okT t = true) : (textTm t).size ≤ 6700 := by
  have hc : okB t.c = true := by unfold okT termB at h; simp at h; exact h.2.1
  have hp : t.p.size ≤ 50 := by
    rcases Nat.lt_or_ge 50 t.p.size with h' | h'
    · unfold okT termB at h; rw [pathB_long t.p h'] at h; cases h
    · exact h'
  have h1 := textV_len 5 t.c hc
  have h2 := ok_size t.c hc
  have h3 := word_len t.op.toNat
  unfold textTm
  simp only [ByteArray.size_append, mkB_size]
  have e : (⟨#[32]⟩ : ByteArray).size = 1 := rfl
  rw [e]; omega
theorem textCl_len (l : List Trm) (h : clauseB l = true) (k : Nat) : (joinB ⟨#[32, 97, 110, 100, 32]⟩ ((l.map textTm).take k)).size ≤ 26840 := by
  unfold clauseB at h; simp at h
  have h1 := joinB_len ⟨#[32, 97, 110, 100, 32]⟩ 6700 (by decide) (l.map textTm) (fun s hs => by
    obtain ⟨t, ht, rfl⟩ := List.mem_map.mp hs
    exact textTm_len t (h.2 t ht)) k
  rw [List.length_map] at h1
  have h2 : l.length * (6700 + 10) ≤ 4 * 6710 := Nat.mul_le_mul_right _ h.1
  omega
theorem textCl_size (l : List Trm) (h : clauseB l = true) : (textCl l).size ≤ 26840 := by
  have := textCl_len l h (l.map textTm).length
  rwa [List.take_length] at this
theorem textFi_len (f : List (List Trm)) (h : filtB f = true) (k : Nat) : (joinB ⟨#[32, 111, 114, 32]⟩ ((f.map textCl).take k)).size ≤ 80550 := by
  unfold filtB at h; simp at h
  have h1 := joinB_len ⟨#[32, 111, 114, 32]⟩ 26840 (by decide) (f.map textCl) (fun s hs => by
    obtain ⟨l, hl, rfl⟩ := List.mem_map.mp hs
    exact textCl_size l (h.2 l hl)) k
  rw [List.length_map] at h1
  have h2 : f.length * (26840 + 10) ≤ 3 * 26850 := Nat.mul_le_mul_right _ h.1.2
  omega

end Go.Proofs.YtkeghknceccdmaaGreatDoor
