/- Rows of entries: what the laws' own helpers on them answer. -/
import Derived.Test.YtlefpbgnkebmdaaGreatTrB
namespace Go.Proofs.YtlefpbgnkebmdaaGreat.Tr
open Go.RowKit
set_option linter.unusedVariables false

def ze : Ent := ⟨em, 0⟩
def rowE (t : Ent) : List Value := [.string t.key, .int .i64 t.id]
def flatE (l : List Ent) : List Value := l.flatMap rowE
theorem flatE_snoc (l : List Ent) (f : Ent) : flatE (l ++ [f]) = flatE l ++ rowE f := by unfold flatE; simp
theorem flatE_app (a b : List Ent) : flatE (a ++ b) = flatE a ++ flatE b := by unfold flatE; simp
theorem flatE_cons (v : Ent) (l : List Ent) : flatE (v :: l) = .string v.key :: .int .i64 v.id :: flatE l := rfl
theorem flatE_len (l : List Ent) : (flatE l).length = l.length * 2 := by
  induction l with
  | nil => rfl
  | cons v l ih => rw [flatE_cons]; simp [ih]; omega
theorem flatE_get : ∀ (l : List Ent) (i : Nat) (h : i < l.length), (flatE l)[i * 2]? = some (.string l[i].key) ∧ (flatE l)[i * 2 + 1]? = some (.int .i64 l[i].id)
  | v :: l, 0, _ => ⟨rfl, rfl⟩
  | v :: l, i + 1, h => by
    have ih := flatE_get l i (by simpa using h)
    have e : flatE (v :: l) = rowE v ++ flatE l := by unfold flatE; simp
    rw [e, show (i + 1) * 2 = i * 2 + 2 by omega]
    have hl : (rowE v).length = 2 := rfl
    refine ⟨?_, ?_⟩
    · rw [List.getElem?_append_right (by omega), hl]; simpa using ih.1
    · rw [List.getElem?_append_right (by omega), hl, show i * 2 + 2 + 1 - 2 = i * 2 + 1 by omega]; simpa using ih.2
theorem flatE_set : ∀ (l : List Ent) (k : Nat) (v : Ent), k < l.length → ((flatE l).set (k * 2) (.string v.key)).set (k * 2 + 1) (.int .i64 v.id) = flatE (l.set k v)
  | [], k, v, h => by simp at h
  | u :: l, 0, v, _ => rfl
  | u :: l, k + 1, v, h => by
    rw [List.set_cons_succ, flatE_cons, flatE_cons, ← flatE_set l k v (by simpa using h)]
    rw [show (k + 1) * 2 = k * 2 + 1 + 1 by omega]
    rfl
/-- A row of entries that stands at a block's head. -/
structure ReadE (w : World) (g : Nat) (l : List Ent) : Prop where
  lt : g < w.heap.size
  cells : ∀ i (h : i < l.length), w.cell? ⟨g, i * 2, none⟩ = some (.string l[i].key) ∧ w.cell? ⟨g, i * 2 + 1, none⟩ = some (.int .i64 l[i].id)
theorem ReadE.step {w w' : World} {g base : Nat} {l : List Ent} (h : ReadE w g l) (hb : Below base w w') (hg : g < base) : ReadE w' g l :=
  ⟨Nat.lt_of_lt_of_le h.lt hb.size, fun i hi => ⟨(hb.cell hg).trans (h.cells i hi).1, (hb.cell hg).trans (h.cells i hi).2⟩⟩
theorem ReadE.next {w w' : World} {g : Nat} {l : List Ent} (h : ReadE w g l) (hb : Below w.heap.size w w') : ReadE w' g l := h.step hb h.lt
theorem ReadE.grown {w w' : World} {g : Nat} {l : List Ent} {row : Option Nat} (h : ReadE w g l) (hg : w.grownBy w' row) (hne : some g ≠ row) : ReadE w' g l :=
  ⟨Nat.lt_of_lt_of_le h.lt hg.size, fun i hi => ⟨(World.cell?_of_block (hg.block g h.lt hne)).trans (h.cells i hi).1, (World.cell?_of_block (hg.block g h.lt hne)).trans (h.cells i hi).2⟩⟩
/-- A row of entries, a nil one too. -/
def RowE (w : World) (p : Option Addr) (l : List Ent) : Prop := l = [] ∨ ∃ g, p = some ⟨g, 0, none⟩ ∧ ReadE w g l
theorem RowE.next {w w' : World} {p : Option Addr} {l : List Ent} (h : RowE w p l) (hb : Below w.heap.size w w') : RowE w' p l := by
  rcases h with h | ⟨g, hp, hr⟩
  · exact .inl h
  · exact .inr ⟨g, hp, hr.next hb⟩
/-- Entries that came in. -/
def InE (w : World) (a : Option Addr) (l : List Ent) : Prop := l.length = 0 ∨ ∃ b off, a = some ⟨b, off, none⟩ ∧ b < w.heap.size ∧ ∀ i (h : i < l.length), w.cell? ⟨b, off + i * 2, none⟩ = some (.string l[i].key) ∧ w.cell? ⟨b, off + i * 2 + 1, none⟩ = some (.int .i64 l[i].id)
theorem InE.step {w w' : World} {a : Option Addr} {l : List Ent} (h : InE w a l) (hb : Below w.heap.size w w') : InE w' a l := by
  rcases h with h | ⟨b, off, ha, hlt, hc⟩
  · exact .inl h
  · exact .inr ⟨b, off, ha, Nat.lt_of_lt_of_le hlt hb.size, fun i hi => ⟨(hb.cell hlt).trans (hc i hi).1, (hb.cell hlt).trans (hc i hi).2⟩⟩
theorem ReadE.inE {w : World} {g : Nat} {l : List Ent} (h : ReadE w g l) : InE w (some ⟨g, 0, none⟩) l :=
  .inr ⟨g, 0, rfl, h.lt, fun i hi => by rw [Nat.zero_add]; exact h.cells i hi⟩
theorem InE.grown {w w' : World} {a : Option Addr} {l : List Ent} {row : Option Nat} (h : InE w a l) (hg : w.grownBy w' row) (hne : ∀ b off, a = some ⟨b, off, none⟩ → some b ≠ row) : InE w' a l := by
  rcases h with h | ⟨b, off, ha, hlt, hc⟩
  · exact .inl h
  · have hb := hg.block b hlt (hne b off ha)
    exact .inr ⟨b, off, ha, Nat.lt_of_lt_of_le hlt hg.size, fun i hi => ⟨(World.cell?_of_block hb).trans (hc i hi).1, (World.cell?_of_block hb).trans (hc i hi).2⟩⟩
/-- The first k entries, and zero ones behind them. -/
def mixE (l : List Ent) (k : Nat) : List Ent := l.take k ++ List.replicate (l.length - k) ze
theorem mixE_len (l : List Ent) (k : Nat) (h : k ≤ l.length) : (mixE l k).length = l.length := by unfold mixE; simp; omega
theorem mixE_full (l : List Ent) (k : Nat) (h : l.length ≤ k) : mixE l k = l := by
  unfold mixE; rw [List.take_of_length_le h, Nat.sub_eq_zero_of_le h]; simp
theorem mixE_set (l : List Ent) (k : Nat) (h : k < l.length) : (mixE l k).set k l[k] = mixE l (k + 1) := by
  unfold mixE
  have hl : (l.take k).length = k := by simp; omega
  rw [List.take_succ_eq_append_getElem h, List.append_assoc, List.set_append_right _ _ (by omega)]
  congr 1
  rw [hl, Nat.sub_self]
  obtain ⟨m, hm⟩ : ∃ m, l.length - k = m + 1 := ⟨l.length - k - 1, by omega⟩
  rw [hm, List.replicate_succ, show l.length - (k + 1) = m by omega]
  rfl
theorem made_zeroE (n : Nat) : (madeCells (Value.agg #[.string em, .int .i64 0]).cells (n * 2)).toList = flatE (List.replicate n ze) := by
  apply List.ext_getElem?
  intro j
  by_cases hj : j < n * 2
  · have hg := flatE_get (List.replicate n ze) (j / 2) (by simp; omega)
    simp only [List.getElem_replicate] at hg
    have hc : (Value.agg #[.string em, .int .i64 0]).cells = #[.string em, .int .i64 0] := by rfl
    rw [hc]
    have h3 : j % 2 = 0 ∨ j % 2 = 1 := by omega
    rcases h3 with h3 | h3
    · have e : j = j / 2 * 2 := by omega
      rw [show (flatE (List.replicate n ze))[j]? = (flatE (List.replicate n ze))[j / 2 * 2]? by rw [← e], hg.1]
      simp [madeCells, hj, h3, ze]
    · have e : j = j / 2 * 2 + 1 := by omega
      rw [show (flatE (List.replicate n ze))[j]? = (flatE (List.replicate n ze))[j / 2 * 2 + 1]? by rw [← e], hg.2]
      simp [madeCells, hj, h3, ze]
  · rw [List.getElem?_eq_none (by simp [madeCells]; omega), List.getElem?_eq_none (by rw [flatE_len]; simp; omega)]

def szE (t : Ent) : Prop := t.key.size ≤ 1048576
def maxE (t : Ent) : Prop := t.key.size ≤ maxLen
theorem take_allE (p : Ent → Prop) (l : List Ent) (k : Nat) (h : k < l.length) (h1 : ∀ v ∈ l.take k, p v) (h2 : p l[k]) : ∀ v ∈ l.take (k + 1), p v := by
  intro v hv
  rw [List.take_succ_eq_append_getElem h] at hv
  rcases List.mem_append.mp hv with hv | hv
  · exact h1 v hv
  · rw [List.mem_singleton.mp hv]; exact h2

end Go.Proofs.YtlefpbgnkebmdaaGreat.Tr
