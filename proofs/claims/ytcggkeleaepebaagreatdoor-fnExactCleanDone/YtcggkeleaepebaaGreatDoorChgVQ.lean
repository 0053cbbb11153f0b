/- Rows of changes: what the laws' own helpers on them answer. -/
import Derived.Test.YtcggkeleaepebaaGreatDoorDocBQ
import Derived.Test.YtcggkeleaepebaaGreatDoorReaRQ
namespace Go.Proofs.YtcggkeleaepebaaGreatDoor.Ce
open Go.RowKit Tr Co
set_option linter.unusedVariables false

theorem infoCg : (Tryz.prog.info? 86).map (fun i => (i.zero, i.size, i.bytes)) = some (some (.agg #[.string em, .int .i64 0, .bool false, .int .i64 0, .int .i64 0, .string em, .int .i64 0, .int .i64 0, .string em, .bool false]), 10, 104) := by kernel_rfl
/-- A change of a document. -/
structure Cgr where
  wr : Wrt
  bef : Val
  was : Bool
def zCg : Cgr := ⟨⟨em, 0, false, ⟨0, 0, em⟩⟩, ⟨0, 0, em⟩, false⟩
def rowCg (t : Cgr) : List Value := [.string t.wr.coll, .int .i64 t.wr.id, .bool t.wr.gone, .int .i64 t.wr.doc.k, .int .i64 t.wr.doc.n, .string t.wr.doc.t, .int .i64 t.bef.k, .int .i64 t.bef.n, .string t.bef.t, .bool t.was]
def flatCg (l : List Cgr) : List Value := l.flatMap rowCg
theorem flatCg_snoc (l : List Cgr) (f : Cgr) : flatCg (l ++ [f]) = flatCg l ++ rowCg f := by unfold flatCg; simp
theorem flatCg_app (a b : List Cgr) : flatCg (a ++ b) = flatCg a ++ flatCg b := by unfold flatCg; simp
theorem flatCg_cons (v : Cgr) (l : List Cgr) : flatCg (v :: l) = .string v.wr.coll :: .int .i64 v.wr.id :: .bool v.wr.gone :: .int .i64 v.wr.doc.k :: .int .i64 v.wr.doc.n :: .string v.wr.doc.t :: .int .i64 v.bef.k :: .int .i64 v.bef.n :: .string v.bef.t :: .bool v.was :: flatCg l := rfl
theorem flatCg_len (l : List Cgr) : (flatCg l).length = l.length * 10 := by
  induction l with
  | nil => rfl
  | cons v l ih => rw [flatCg_cons]; simp [ih]; omega
theorem flatCg_get : ∀ (l : List Cgr) (i : Nat) (h : i < l.length), (flatCg l)[i * 10]? = some (.string l[i].wr.coll) ∧ (flatCg l)[i * 10 + 1]? = some (.int .i64 l[i].wr.id) ∧ (flatCg l)[i * 10 + 2]? = some (.bool l[i].wr.gone) ∧ (flatCg l)[i * 10 + 3]? = some (.int .i64 l[i].wr.doc.k) ∧ (flatCg l)[i * 10 + 4]? = some (.int .i64 l[i].wr.doc.n) ∧ (flatCg l)[i * 10 + 5]? = some (.string l[i].wr.doc.t) ∧ (flatCg l)[i * 10 + 6]? = some (.int .i64 l[i].bef.k) ∧ (flatCg l)[i * 10 + 7]? = some (.int .i64 l[i].bef.n) ∧ (flatCg l)[i * 10 + 8]? = some (.string l[i].bef.t) ∧ (flatCg l)[i * 10 + 9]? = some (.bool l[i].was)
  | v :: l, 0, _ => ⟨rfl, rfl, rfl, rfl, rfl, rfl, rfl, rfl, rfl, rfl⟩
  | v :: l, i + 1, h => by
    have ih := flatCg_get l i (by simpa using h)
    have e : flatCg (v :: l) = rowCg v ++ flatCg l := by unfold flatCg; simp
    rw [e, show (i + 1) * 10 = i * 10 + 10 by omega]
    have hl : (rowCg v).length = 10 := rfl
    refine ⟨?_, ?_, ?_, ?_, ?_, ?_, ?_, ?_, ?_, ?_⟩
    · rw [List.getElem?_append_right (by omega), hl]; simpa using ih.1
    · rw [List.getElem?_append_right (by omega), hl, show i * 10 + 10 + 1 - 10 = i * 10 + 1 by omega]; simpa using ih.2.1
    · rw [List.getElem?_append_right (by omega), hl, show i * 10 + 10 + 2 - 10 = i * 10 + 2 by omega]; simpa using ih.2.2.1
    · rw [List.getElem?_append_right (by omega), hl, show i * 10 + 10 + 3 - 10 = i * 10 + 3 by omega]; simpa using ih.2.2.2.1
    · rw [List.getElem?_append_right (by omega), hl, show i * 10 + 10 + 4 - 10 = i * 10 + 4 by omega]; simpa using ih.2.2.2.2.1
    · rw [List.getElem?_append_right (by omega), hl, show i * 10 + 10 + 5 - 10 = i * 10 + 5 by omega]; simpa using ih.2.2.2.2.2.1
    · rw [List.getElem?_append_right (by omega), hl, show i * 10 + 10 + 6 - 10 = i * 10 + 6 by omega]; simpa using ih.2.2.2.2.2.2.1
    · rw [List.getElem?_append_right (by omega), hl, show i * 10 + 10 + 7 - 10 = i * 10 + 7 by omega]; simpa using ih.2.2.2.2.2.2.2.1
    · rw [List.getElem?_append_right (by omega), hl, show i * 10 + 10 + 8 - 10 = i * 10 + 8 by omega]; simpa using ih.2.2.2.2.2.2.2.2.1
    · rw [List.getElem?_append_right (by omega), hl, show i * 10 + 10 + 9 - 10 = i * 10 + 9 by omega]; simpa using ih.2.2.2.2.2.2.2.2.2
theorem flatCg_set : ∀ (l : List Cgr) (k : Nat) (v : Cgr), k < l.length → ((((((((((flatCg l).set (k * 10) (.string v.wr.coll)).set (k * 10 + 1) (.int .i64 v.wr.id)).set (k * 10 + 2) (.bool v.wr.gone)).set (k * 10 + 3) (.int .i64 v.wr.doc.k)).set (k * 10 + 4) (.int .i64 v.wr.doc.n)).set (k * 10 + 5) (.string v.wr.doc.t)).set (k * 10 + 6) (.int .i64 v.bef.k)).set (k * 10 + 7) (.int .i64 v.bef.n)).set (k * 10 + 8) (.string v.bef.t)).set (k * 10 + 9) (.bool v.was) = flatCg (l.set k v)
  | [], k, v, h => by simp at h
  | u :: l, 0, v, _ => rfl
  | u :: l, k + 1, v, h => by
    rw [List.set_cons_succ, flatCg_cons, flatCg_cons, ← flatCg_set l k v (by simpa using h)]
    rw [show (k + 1) * 10 = k * 10 + 1 + 1 + 1 + 1 + 1 + 1 + 1 + 1 + 1 + 1 by omega]
    rfl
/-- A row of changes that stands at a block's head. -/
structure ReadCg (w : World) (g : Nat) (l : List Cgr) : Prop where
  lt : g < w.heap.size
  cells : ∀ i (h : i < l.length), w.cell? ⟨g, i * 10, none⟩ = some (.string l[i].wr.coll) ∧ w.cell? ⟨g, i * 10 + 1, none⟩ = some (.int .i64 l[i].wr.id) ∧ w.cell? ⟨g, i * 10 + 2, none⟩ = some (.bool l[i].wr.gone) ∧ w.cell? ⟨g, i * 10 + 3, none⟩ = some (.int .i64 l[i].wr.doc.k) ∧ w.cell? ⟨g, i * 10 + 4, none⟩ = some (.int .i64 l[i].wr.doc.n) ∧ w.cell? ⟨g, i * 10 + 5, none⟩ = some (.string l[i].wr.doc.t) ∧ w.cell? ⟨g, i * 10 + 6, none⟩ = some (.int .i64 l[i].bef.k) ∧ w.cell? ⟨g, i * 10 + 7, none⟩ = some (.int .i64 l[i].bef.n) ∧ w.cell? ⟨g, i * 10 + 8, none⟩ = some (.string l[i].bef.t) ∧ w.cell? ⟨g, i * 10 + 9, none⟩ = some (.bool l[i].was)
theorem ReadCg.step {w w' : World} {g base : Nat} {l : List Cgr} (h : ReadCg w g l) (hb : Below base w w') (hg : g < base) : ReadCg w' g l :=
  ⟨Nat.lt_of_lt_of_le h.lt hb.size, fun i hi => ⟨(hb.cell hg).trans (h.cells i hi).1, (hb.cell hg).trans (h.cells i hi).2.1, (hb.cell hg).trans (h.cells i hi).2.2.1, (hb.cell hg).trans (h.cells i hi).2.2.2.1, (hb.cell hg).trans (h.cells i hi).2.2.2.2.1, (hb.cell hg).trans (h.cells i hi).2.2.2.2.2.1, (hb.cell hg).trans (h.cells i hi).2.2.2.2.2.2.1, (hb.cell hg).trans (h.cells i hi).2.2.2.2.2.2.2.1, (hb.cell hg).trans (h.cells i hi).2.2.2.2.2.2.2.2.1, (hb.cell hg).trans (h.cells i hi).2.2.2.2.2.2.2.2.2⟩⟩
theorem ReadCg.next {w w' : World} {g : Nat} {l : List Cgr} (h : ReadCg w g l) (hb : Below w.heap.size w w') : ReadCg w' g l := h.step hb h.lt
theorem ReadCg.grown {w w' : World} {g : Nat} {l : List Cgr} {row : Option Nat} (h : ReadCg w g l) (hg : w.grownBy w' row) (hne : some g ≠ row) : ReadCg w' g l :=
  ⟨Nat.lt_of_lt_of_le h.lt hg.size, fun i hi => ⟨(World.cell?_of_block (hg.block g h.lt hne)).trans (h.cells i hi).1, (World.cell?_of_block (hg.block g h.lt hne)).trans (h.cells i hi).2.1, (World.cell?_of_block (hg.block g h.lt hne)).trans (h.cells i hi).2.2.1, (World.cell?_of_block (hg.block g h.lt hne)).trans (h.cells i hi).2.2.2.1, (World.cell?_of_block (hg.block g h.lt hne)).trans (h.cells i hi).2.2.2.2.1, (World.cell?_of_block (hg.block g h.lt hne)).trans (h.cells i hi).2.2.2.2.2.1, (World.cell?_of_block (hg.block g h.lt hne)).trans (h.cells i hi).2.2.2.2.2.2.1, (World.cell?_of_block (hg.block g h.lt hne)).trans (h.cells i hi).2.2.2.2.2.2.2.1, (World.cell?_of_block (hg.block g h.lt hne)).trans (h.cells i hi).2.2.2.2.2.2.2.2.1, (World.cell?_of_block (hg.block g h.lt hne)).trans (h.cells i hi).2.2.2.2.2.2.2.2.2⟩⟩
theorem ReadCg.of_own {w : World} {base g cap : Nat} {l : List Cgr} (h : w.ownsRow base 86 10 (.slice (some ⟨g, 0, none⟩) l.length cap) l.length (flatCg l)) : ReadCg w g l :=
  ⟨(h.lt g rfl).2, fun i hi => ⟨owns_cell h _ _ (flatCg_get l i hi).1, owns_cell h _ _ (flatCg_get l i hi).2.1, owns_cell h _ _ (flatCg_get l i hi).2.2.1, owns_cell h _ _ (flatCg_get l i hi).2.2.2.1, owns_cell h _ _ (flatCg_get l i hi).2.2.2.2.1, owns_cell h _ _ (flatCg_get l i hi).2.2.2.2.2.1, owns_cell h _ _ (flatCg_get l i hi).2.2.2.2.2.2.1, owns_cell h _ _ (flatCg_get l i hi).2.2.2.2.2.2.2.1, owns_cell h _ _ (flatCg_get l i hi).2.2.2.2.2.2.2.2.1, owns_cell h _ _ (flatCg_get l i hi).2.2.2.2.2.2.2.2.2⟩⟩
/-- A row of changes, a nil one too. -/
def RowCg (w : World) (p : Option Addr) (l : List Cgr) : Prop := l = [] ∨ ∃ g, p = some ⟨g, 0, none⟩ ∧ ReadCg w g l
theorem RowCg.next {w w' : World} {p : Option Addr} {l : List Cgr} (h : RowCg w p l) (hb : Below w.heap.size w w') : RowCg w' p l := by
  rcases h with h | ⟨g, hp, hr⟩
  · exact .inl h
  · exact .inr ⟨g, hp, hr.next hb⟩
/-- Entries that came in. -/
def InCg (w : World) (a : Option Addr) (l : List Cgr) : Prop := l.length = 0 ∨ ∃ b off, a = some ⟨b, off, none⟩ ∧ b < w.heap.size ∧ ∀ i (h : i < l.length), w.cell? ⟨b, off + i * 10, none⟩ = some (.string l[i].wr.coll) ∧ w.cell? ⟨b, off + i * 10 + 1, none⟩ = some (.int .i64 l[i].wr.id) ∧ w.cell? ⟨b, off + i * 10 + 2, none⟩ = some (.bool l[i].wr.gone) ∧ w.cell? ⟨b, off + i * 10 + 3, none⟩ = some (.int .i64 l[i].wr.doc.k) ∧ w.cell? ⟨b, off + i * 10 + 4, none⟩ = some (.int .i64 l[i].wr.doc.n) ∧ w.cell? ⟨b, off + i * 10 + 5, none⟩ = some (.string l[i].wr.doc.t) ∧ w.cell? ⟨b, off + i * 10 + 6, none⟩ = some (.int .i64 l[i].bef.k) ∧ w.cell? ⟨b, off + i * 10 + 7, none⟩ = some (.int .i64 l[i].bef.n) ∧ w.cell? ⟨b, off + i * 10 + 8, none⟩ = some (.string l[i].bef.t) ∧ w.cell? ⟨b, off + i * 10 + 9, none⟩ = some (.bool l[i].was)
theorem InCg.step {w w' : World} {a : Option Addr} {l : List Cgr} (h : InCg w a l) (hb : Below w.heap.size w w') : InCg w' a l := by
  rcases h with h | ⟨b, off, ha, hlt, hc⟩
  · exact .inl h
  · exact .inr ⟨b, off, ha, Nat.lt_of_lt_of_le hlt hb.size, fun i hi => ⟨(hb.cell hlt).trans (hc i hi).1, (hb.cell hlt).trans (hc i hi).2.1, (hb.cell hlt).trans (hc i hi).2.2.1, (hb.cell hlt).trans (hc i hi).2.2.2.1, (hb.cell hlt).trans (hc i hi).2.2.2.2.1, (hb.cell hlt).trans (hc i hi).2.2.2.2.2.1, (hb.cell hlt).trans (hc i hi).2.2.2.2.2.2.1, (hb.cell hlt).trans (hc i hi).2.2.2.2.2.2.2.1, (hb.cell hlt).trans (hc i hi).2.2.2.2.2.2.2.2.1, (hb.cell hlt).trans (hc i hi).2.2.2.2.2.2.2.2.2⟩⟩
theorem ReadCg.inCg {w : World} {g : Nat} {l : List Cgr} (h : ReadCg w g l) : InCg w (some ⟨g, 0, none⟩) l :=
  .inr ⟨g, 0, rfl, h.lt, fun i hi => by rw [Nat.zero_add]; exact h.cells i hi⟩
theorem InCg.grown {w w' : World} {a : Option Addr} {l : List Cgr} {row : Option Nat} (h : InCg w a l) (hg : w.grownBy w' row) (hne : ∀ b off, a = some ⟨b, off, none⟩ → some b ≠ row) : InCg w' a l := by
  rcases h with h | ⟨b, off, ha, hlt, hc⟩
  · exact .inl h
  · have hb := hg.block b hlt (hne b off ha)
    exact .inr ⟨b, off, ha, Nat.lt_of_lt_of_le hlt hg.size, fun i hi => ⟨(World.cell?_of_block hb).trans (hc i hi).1, (World.cell?_of_block hb).trans (hc i hi).2.1, (World.cell?_of_block hb).trans (hc i hi).2.2.1, (World.cell?_of_block hb).trans (hc i hi).2.2.2.1, (World.cell?_of_block hb).trans (hc i hi).2.2.2.2.1, (World.cell?_of_block hb).trans (hc i hi).2.2.2.2.2.1, (World.cell?_of_block hb).trans (hc i hi).2.2.2.2.2.2.1, (World.cell?_of_block hb).trans (hc i hi).2.2.2.2.2.2.2.1, (World.cell?_of_block hb).trans (hc i hi).2.2.2.2.2.2.2.2.1, (World.cell?_of_block hb).trans (hc i hi).2.2.2.2.2.2.2.2.2⟩⟩
/-- Entries that their owner may write, all of it from block number base on. -/
def OwnCg (w : World) (base : Nat) (v : Value) (l : List Cgr) : Prop := w.ownsRow base 86 10 v l.length (flatCg l)
theorem OwnCg.form {w : World} {base : Nat} {v : Value} {l : List Cgr} (h : OwnCg w base v l) : (v = .slice none 0 0 ∧ l = []) ∨ ∃ g cap, v = .slice (some ⟨g, 0, none⟩) l.length cap ∧ base ≤ g ∧ g < w.heap.size := by
  have hlt := World.ownsRow.lt h
  obtain ⟨h1, h2⟩ := h
  rcases h2 with ⟨h2, h3⟩ | ⟨g, cap, cur, hv, hg, hh, r⟩
  · exact .inl ⟨h2, List.length_eq_zero_iff.1 h3⟩
  · exact .inr ⟨g, cap, hv, hg, (hlt g (by rw [hv]; rfl)).2⟩
theorem OwnCg.inCg {w : World} {base : Nat} {v : Value} {l : List Cgr} (h : OwnCg w base v l) : ∃ p cap, v = .slice p l.length cap ∧ InCg w p l := by
  rcases h.form with ⟨rfl, rfl⟩ | ⟨g, cap, rfl, _, _⟩
  · exact ⟨none, 0, rfl, .inl rfl⟩
  · exact ⟨_, cap, rfl, (ReadCg.of_own h).inCg⟩
/-- The first k changes, and zero ones behind them. -/
def mixCg (l : List Cgr) (k : Nat) : List Cgr := l.take k ++ List.replicate (l.length - k) zCg
theorem mixCg_len (l : List Cgr) (k : Nat) (h : k ≤ l.length) : (mixCg l k).length = l.length := by unfold mixCg; simp; omega
theorem mixCg_full (l : List Cgr) (k : Nat) (h : l.length ≤ k) : mixCg l k = l := by
  unfold mixCg; rw [List.take_of_length_le h, Nat.sub_eq_zero_of_le h]; simp
theorem mixCg_set (l : List Cgr) (k : Nat) (h : k < l.length) : (mixCg l k).set k l[k] = mixCg l (k + 1) := by
  unfold mixCg
  have hl : (l.take k).length = k := by simp; omega
  rw [List.take_succ_eq_append_getElem h, List.append_assoc, List.set_append_right _ _ (by omega)]
  congr 1
  rw [hl, Nat.sub_self]
  obtain ⟨m, hm⟩ : ∃ m, l.length - k = m + 1 := ⟨l.length - k - 1, by omega⟩
  rw [hm, List.replicate_succ, show l.length - (k + 1) = m by omega]
  rfl
theorem made_zeroCg (n : Nat) : (madeCells (Value.agg #[.string em, .int .i64 0, .bool false, .int .i64 0, .int .i64 0, .string em, .int .i64 0, .int .i64 0, .string em, .bool false]).cells (n * 10)).toList = flatCg (List.replicate n zCg) := by
  apply List.ext_getElem?
  intro j
  by_cases hj : j < n * 10
  · have hg := flatCg_get (List.replicate n zCg) (j / 10) (by simp; omega)
    simp only [List.getElem_replicate] at hg
    have hc : (Value.agg #[.string em, .int .i64 0, .bool false, .int .i64 0, .int .i64 0, .string em, .int .i64 0, .int .i64 0, .string em, .bool false]).cells = #[.string em, .int .i64 0, .bool false, .int .i64 0, .int .i64 0, .string em, .int .i64 0, .int .i64 0, .string em, .bool false] := by rfl
    rw [hc]
    have h3 : j % 10 = 0 ∨ j % 10 = 1 ∨ j % 10 = 2 ∨ j % 10 = 3 ∨ j % 10 = 4 ∨ j % 10 = 5 ∨ j % 10 = 6 ∨ j % 10 = 7 ∨ j % 10 = 8 ∨ j % 10 = 9 := by omega
    rcases h3 with h3 | h3 | h3 | h3 | h3 | h3 | h3 | h3 | h3 | h3
    · have e : j = j / 10 * 10 := by omega
      rw [show (flatCg (List.replicate n zCg))[j]? = (flatCg (List.replicate n zCg))[j / 10 * 10]? by rw [← e], hg.1]
      simp [madeCells, hj, h3, zCg]
    · have e : j = j / 10 * 10 + 1 := by omega
      rw [show (flatCg (List.replicate n zCg))[j]? = (flatCg (List.replicate n zCg))[j / 10 * 10 + 1]? by rw [← e], hg.2.1]
      simp [madeCells, hj, h3, zCg]
    · have e : j = j / 10 * 10 + 2 := by omega
      rw [show (flatCg (List.replicate n zCg))[j]? = (flatCg (List.replicate n zCg))[j / 10 * 10 + 2]? by rw [← e], hg.2.2.1]
      simp [madeCells, hj, h3, zCg]
    · have e : j = j / 10 * 10 + 3 := by omega
      rw [show (flatCg (List.replicate n zCg))[j]? = (flatCg (List.replicate n zCg))[j / 10 * 10 + 3]? by rw [← e], hg.2.2.2.1]
      simp [madeCells, hj, h3, zCg]
    · have e : j = j / 10 * 10 + 4 := by omega
      rw [show (flatCg (List.replicate n zCg))[j]? = (flatCg (List.replicate n zCg))[j / 10 * 10 + 4]? by rw [← e], hg.2.2.2.2.1]
      simp [madeCells, hj, h3, zCg]
    · have e : j = j / 10 * 10 + 5 := by omega
      rw [show (flatCg (List.replicate n zCg))[j]? = (flatCg (List.replicate n zCg))[j / 10 * 10 + 5]? by rw [← e], hg.2.2.2.2.2.1]
      simp [madeCells, hj, h3, zCg]
    · have e : j = j / 10 * 10 + 6 := by omega
      rw [show (flatCg (List.replicate n zCg))[j]? = (flatCg (List.replicate n zCg))[j / 10 * 10 + 6]? by rw [← e], hg.2.2.2.2.2.2.1]
      simp [madeCells, hj, h3, zCg]
    · have e : j = j / 10 * 10 + 7 := by omega
      rw [show (flatCg (List.replicate n zCg))[j]? = (flatCg (List.replicate n zCg))[j / 10 * 10 + 7]? by rw [← e], hg.2.2.2.2.2.2.2.1]
      simp [madeCells, hj, h3, zCg]
    · have e : j = j / 10 * 10 + 8 := by omega
      rw [show (flatCg (List.replicate n zCg))[j]? = (flatCg (List.replicate n zCg))[j / 10 * 10 + 8]? by rw [← e], hg.2.2.2.2.2.2.2.2.1]
      simp [madeCells, hj, h3, zCg]
    · have e : j = j / 10 * 10 + 9 := by omega
      rw [show (flatCg (List.replicate n zCg))[j]? = (flatCg (List.replicate n zCg))[j / 10 * 10 + 9]? by rw [← e], hg.2.2.2.2.2.2.2.2.2]
      simp [madeCells, hj, h3, zCg]
  · rw [List.getElem?_eq_none (by simp [madeCells]; omega), List.getElem?_eq_none (by rw [flatCg_len]; simp; omega)]

def szCg (t : Cgr) : Prop := SzW t.wr ∧ t.bef.t.size ≤ 1048576
def maxCg (t : Cgr) : Prop := MaxW t.wr ∧ t.bef.t.size ≤ maxLen
theorem take_allCg (p : Cgr → Prop) (l : List Cgr) (k : Nat) (h : k < l.length) (h1 : ∀ v ∈ l.take k, p v) (h2 : p l[k]) : ∀ v ∈ l.take (k + 1), p v := by
  intro v hv
  rw [List.take_succ_eq_append_getElem h] at hv
  rcases List.mem_append.mp hv with hv | hv
  · exact h1 v hv
  · rw [List.mem_singleton.mp hv]; exact h2

set_option maxRecDepth 4000 in
set_option maxHeartbeats 1000000 in
theorem szChange_any (x : Cgr) (c : Int) (w : World) (hs : maxCg x) (hc : 0 ≤ c) (hc2 : c ≤ 1048576) :
    Calls Tryz.prog 40 #[.agg #[.string x.wr.coll, .int .i64 x.wr.id, .bool x.wr.gone, .int .i64 x.wr.doc.k, .int .i64 x.wr.doc.n, .string x.wr.doc.t, .int .i64 x.bef.k, .int .i64 x.bef.n, .string x.bef.t, .bool x.was], .int .i64 c] w fun e w' => (∃ r : Int, e = .returned (.int .i64 r) ∧ (r < 0 ∨ (0 ≤ r ∧ r ≤ c ∧ szCg x))) ∧ Below w.heap.size w w' := by
  have hb0 : Below w.heap.size w (w.alloc (.cells #[.string x.wr.coll, .int .i64 x.wr.id, .bool x.wr.gone, .int .i64 x.wr.doc.k, .int .i64 x.wr.doc.n, .string x.wr.doc.t, .int .i64 x.bef.k, .int .i64 x.bef.n, .string x.bef.t, .bool x.was] 71)) := (Below.refl _ _).alloc (Nat.le_refl _) _
  have HC : Hid (Calls _ _ _ _ _) := szWrite_any x.wr c (w.alloc (.cells #[.string x.wr.coll, .int .i64 x.wr.id, .bool x.wr.gone, .int .i64 x.wr.doc.k, .int .i64 x.wr.doc.n, .string x.wr.doc.t, .int .i64 x.bef.k, .int .i64 x.bef.n, .string x.bef.t, .bool x.was] 71)) hs.1 hc hc2
  have hsd := hs.2
  have HZ : Hid (∀ (r : Int) (W : World), 0 ≤ r → r ≤ 1048576 → Calls _ _ _ W _) := fun r W h1 h2 => szValue_any x.bef.k x.bef.n x.bef.t r W hsd h1 h2
  have k6 : (w.alloc (.cells #[.string x.wr.coll, .int .i64 x.wr.id, .bool x.wr.gone, .int .i64 x.wr.doc.k, .int .i64 x.wr.doc.n, .string x.wr.doc.t, .int .i64 x.bef.k, .int .i64 x.bef.n, .string x.bef.t, .bool x.was] 71)).cell? ⟨w.heap.size, 6, none⟩ = some (.int .i64 x.bef.k) := by simp [go_sem]
  have k7 : (w.alloc (.cells #[.string x.wr.coll, .int .i64 x.wr.id, .bool x.wr.gone, .int .i64 x.wr.doc.k, .int .i64 x.wr.doc.n, .string x.wr.doc.t, .int .i64 x.bef.k, .int .i64 x.bef.n, .string x.bef.t, .bool x.was] 71)).cell? ⟨w.heap.size, 7, none⟩ = some (.int .i64 x.bef.n) := by simp [go_sem]
  have k8 : (w.alloc (.cells #[.string x.wr.coll, .int .i64 x.wr.id, .bool x.wr.gone, .int .i64 x.wr.doc.k, .int .i64 x.wr.doc.n, .string x.wr.doc.t, .int .i64 x.bef.k, .int .i64 x.bef.n, .string x.bef.t, .bool x.was] 71)).cell? ⟨w.heap.size, 8, none⟩ = some (.string x.bef.t) := by simp [go_sem]
  have kl : w.heap.size < (w.alloc (.cells #[.string x.wr.coll, .int .i64 x.wr.id, .bool x.wr.gone, .int .i64 x.wr.doc.k, .int .i64 x.wr.doc.n, .string x.wr.doc.t, .int .i64 x.bef.k, .int .i64 x.bef.n, .string x.bef.t, .bool x.was] 71)).heap.size := by simp
  unfold maxLen at hsd
  clear hs
  go_enter Tryz.func40, Tryz.ntmps40
  go_wp2_with fail
  generalize w.alloc (.cells #[.string x.wr.coll, .int .i64 x.wr.id, .bool x.wr.gone, .int .i64 x.wr.doc.k, .int .i64 x.wr.doc.n, .string x.wr.doc.t, .int .i64 x.bef.k, .int .i64 x.bef.n, .string x.bef.t, .bool x.was] 71) = W0 at HC hb0 k6 k7 k8 kl ⊢
  refine HC.out.mono ?_
  rintro e w1 ⟨⟨r, rfl, hr⟩, hb⟩
  have hb1 := hb0.trans (hb.mono hb0.size)
  have m6 := (hb.cell (p := ⟨w.heap.size, 6, none⟩) kl).trans k6
  have m7 := (hb.cell (p := ⟨w.heap.size, 7, none⟩) kl).trans k7
  have m8 := (hb.cell (p := ⟨w.heap.size, 8, none⟩) kl).trans k8
  clear hb HC hb0 k6 k7 k8
  rcases hr with hneg | ⟨hr0, hr1, hsw⟩
  · go_wp2_with fail
    go_ret
    exact ⟨⟨-1, rfl, .inl (by omega)⟩, hb1⟩
  · have hnn : ¬ r < 0 := by omega
    have HSW : Hid (SzW x.wr) := hsw
    have HZ2 : Hid (∀ W : World, Calls _ _ _ W _) := fun W => HZ.out r W hr0 (by omega)
    clear hsw HZ
    by_cases h : r < (x.bef.t.size : Int)
    · rw [if_pos h] at HZ2
      go_wp2_with fail
      refine (HZ2.out _).mono ?_
      rintro e w2 ⟨rfl, hb⟩
      have hb2 := hb1.trans (hb.mono hb1.size)
      clear hb
      go_wp2_with fail
      go_ret
      exact ⟨⟨-1, rfl, .inl (by omega)⟩, hb2⟩
    · rw [if_neg h] at HZ2
      have hpos : ¬ r - (x.bef.t.size : Int) < 0 := by omega
      have HB : Hid (x.bef.t.size ≤ 1048576) := (by omega : x.bef.t.size ≤ 1048576)
      go_wp2_with fail
      refine (HZ2.out _).mono ?_
      rintro e w2 ⟨rfl, hb⟩
      have hb2 := hb1.trans (hb.mono hb1.size)
      clear hb
      go_wp2_with fail
      go_ret
      exact ⟨⟨_, rfl, .inr ⟨by omega, by omega, ⟨HSW.out, HB.out⟩⟩⟩, hb2⟩
/-- Two blocks of ten cells that are being made. -/
structure MkC (w W : World) (x y : Array Value) (U : TypeId) : Prop where
  bel : Below w.heap.size w W
  lt : w.heap.size + 2 < W.heap.size
  rb : W.heap[w.heap.size + 1]? = some (.cells x U)
  ob : W.heap[w.heap.size + 2]? = some (.cells y U)
theorem MkC.next {w W W' : World} {x y : Array Value} {U : TypeId} (h : MkC w W x y U) (hb : Below W.heap.size W W') : MkC w W' x y U := by
  have := h.lt
  exact ⟨h.bel.trans (hb.mono (by omega)), Nat.lt_of_lt_of_le h.lt hb.size, (hb.block _ (by omega)).trans h.rb, (hb.block _ h.lt).trans h.ob⟩
theorem MkC.set {w W : World} {x y : Array Value} {U : TypeId} (h : MkC w W x y U) (o : Nat) (v : Value) : MkC w (W.setCell ⟨w.heap.size + 2, o, none⟩ v) x (y.setIfInBounds o v) U :=
  ⟨h.bel.setCell (by show w.heap.size ≤ w.heap.size + 2; omega) _, by simpa [World.setCell] using h.lt, by rw [set_other (by omega)]; exact h.rb, set_same h.ob⟩
theorem MkC.start (w : World) (O : Obj) (x y : Array Value) (U : TypeId) : MkC w (((w.alloc O).alloc (.cells x U)).alloc (.cells y U)) x y U := by
  have s1 : (w.alloc O).heap.size = w.heap.size + 1 := by simp
  have s2 : ((w.alloc O).alloc (.cells x U)).heap.size = w.heap.size + 2 := by simp
  refine ⟨(((Below.refl _ _).alloc (Nat.le_refl _) _).alloc (by simp) _).alloc (by simp; omega) _, by simp, ?_, ?_⟩
  · rw [heap_alloc_old _ _ (by simp)]; rw [← s1]; exact heap_alloc_new _ _
  · rw [← s2]; exact heap_alloc_new _ _
theorem ten {W : World} {b : Nat} {T : TypeId} {v0 v1 v2 v3 v4 v5 v6 v7 v8 v9 : Value} (h : W.heap[b]? = some (.cells #[v0, v1, v2, v3, v4, v5, v6, v7, v8, v9] T)) :
    W.cell? ⟨b, 0, none⟩ = some v0 ∧ W.cell? ⟨b, 1, none⟩ = some v1 ∧ W.cell? ⟨b, 2, none⟩ = some v2 ∧ W.cell? ⟨b, 3, none⟩ = some v3 ∧ W.cell? ⟨b, 4, none⟩ = some v4 ∧ W.cell? ⟨b, 5, none⟩ = some v5 ∧ W.cell? ⟨b, 6, none⟩ = some v6 ∧ W.cell? ⟨b, 7, none⟩ = some v7 ∧ W.cell? ⟨b, 8, none⟩ = some v8 ∧ W.cell? ⟨b, 9, none⟩ = some v9 := by
  refine ⟨?_, ?_, ?_, ?_, ?_, ?_, ?_, ?_, ?_, ?_⟩ <;> simp [World.cell?, h]
set_option maxRecDepth 4000 in
set_option maxHeartbeats 4000000 in
theorem toChange_any (x : Cgr) (w : World) :
    Calls Tryz.prog 47 #[.agg #[.string x.wr.coll, .int .i64 x.wr.id, .bool x.wr.gone, .int .i64 x.wr.doc.k, .int .i64 x.wr.doc.n, .string x.wr.doc.t, .int .i64 x.bef.k, .int .i64 x.bef.n, .string x.bef.t, .bool x.was]] w fun e w' => e = .returned (.agg #[.string x.wr.coll, .int .i64 x.wr.id, .bool x.wr.gone, .int .i64 x.wr.doc.k, .int .i64 x.wr.doc.n, .string x.wr.doc.t, .int .i64 x.bef.k, .int .i64 x.bef.n, .string x.bef.t, .bool x.was]) ∧ Below w.heap.size w w' := by
  have M0 := MkC.start w (.cells #[.string x.wr.coll, .int .i64 x.wr.id, .bool x.wr.gone, .int .i64 x.wr.doc.k, .int .i64 x.wr.doc.n, .string x.wr.doc.t, .int .i64 x.bef.k, .int .i64 x.bef.n, .string x.bef.t, .bool x.was] 71) #[.string em, .int .i64 0, .bool false, .int .i64 0, .int .i64 0, .string em, .int .i64 0, .int .i64 0, .string em, .bool false] #[.string em, .int .i64 0, .bool false, .int .i64 0, .int .i64 0, .string em, .int .i64 0, .int .i64 0, .string em, .bool false] 86
  have HW : Hid (∀ W : World, Calls _ _ _ W _) := fun W => toWrite_any x.wr W
  have HV : Hid (∀ W : World, Calls _ _ _ W _) := fun W => toValue_any x.bef.k x.bef.n x.bef.t W
  have k6 : (((w.alloc (.cells #[.string x.wr.coll, .int .i64 x.wr.id, .bool x.wr.gone, .int .i64 x.wr.doc.k, .int .i64 x.wr.doc.n, .string x.wr.doc.t, .int .i64 x.bef.k, .int .i64 x.bef.n, .string x.bef.t, .bool x.was] 71)).alloc (.cells #[.string em, .int .i64 0, .bool false, .int .i64 0, .int .i64 0, .string em, .int .i64 0, .int .i64 0, .string em, .bool false] 86)).alloc (.cells #[.string em, .int .i64 0, .bool false, .int .i64 0, .int .i64 0, .string em, .int .i64 0, .int .i64 0, .string em, .bool false] 86)).cell? ⟨w.heap.size, 6, none⟩ = some (.int .i64 x.bef.k) := by simp [go_sem]
  have k7 : (((w.alloc (.cells #[.string x.wr.coll, .int .i64 x.wr.id, .bool x.wr.gone, .int .i64 x.wr.doc.k, .int .i64 x.wr.doc.n, .string x.wr.doc.t, .int .i64 x.bef.k, .int .i64 x.bef.n, .string x.bef.t, .bool x.was] 71)).alloc (.cells #[.string em, .int .i64 0, .bool false, .int .i64 0, .int .i64 0, .string em, .int .i64 0, .int .i64 0, .string em, .bool false] 86)).alloc (.cells #[.string em, .int .i64 0, .bool false, .int .i64 0, .int .i64 0, .string em, .int .i64 0, .int .i64 0, .string em, .bool false] 86)).cell? ⟨w.heap.size, 7, none⟩ = some (.int .i64 x.bef.n) := by simp [go_sem]
  have k8 : (((w.alloc (.cells #[.string x.wr.coll, .int .i64 x.wr.id, .bool x.wr.gone, .int .i64 x.wr.doc.k, .int .i64 x.wr.doc.n, .string x.wr.doc.t, .int .i64 x.bef.k, .int .i64 x.bef.n, .string x.bef.t, .bool x.was] 71)).alloc (.cells #[.string em, .int .i64 0, .bool false, .int .i64 0, .int .i64 0, .string em, .int .i64 0, .int .i64 0, .string em, .bool false] 86)).alloc (.cells #[.string em, .int .i64 0, .bool false, .int .i64 0, .int .i64 0, .string em, .int .i64 0, .int .i64 0, .string em, .bool false] 86)).cell? ⟨w.heap.size, 8, none⟩ = some (.string x.bef.t) := by simp [go_sem]
  have k9 : (((w.alloc (.cells #[.string x.wr.coll, .int .i64 x.wr.id, .bool x.wr.gone, .int .i64 x.wr.doc.k, .int .i64 x.wr.doc.n, .string x.wr.doc.t, .int .i64 x.bef.k, .int .i64 x.bef.n, .string x.bef.t, .bool x.was] 71)).alloc (.cells #[.string em, .int .i64 0, .bool false, .int .i64 0, .int .i64 0, .string em, .int .i64 0, .int .i64 0, .string em, .bool false] 86)).alloc (.cells #[.string em, .int .i64 0, .bool false, .int .i64 0, .int .i64 0, .string em, .int .i64 0, .int .i64 0, .string em, .bool false] 86)).cell? ⟨w.heap.size, 9, none⟩ = some (.bool x.was) := by simp [go_sem]
  go_enter Tryz.func47, Tryz.ntmps47
  go_wp2_with fail
  generalize ((w.alloc (.cells #[.string x.wr.coll, .int .i64 x.wr.id, .bool x.wr.gone, .int .i64 x.wr.doc.k, .int .i64 x.wr.doc.n, .string x.wr.doc.t, .int .i64 x.bef.k, .int .i64 x.bef.n, .string x.bef.t, .bool x.was] 71)).alloc (.cells #[.string em, .int .i64 0, .bool false, .int .i64 0, .int .i64 0, .string em, .int .i64 0, .int .i64 0, .string em, .bool false] 86)).alloc (.cells #[.string em, .int .i64 0, .bool false, .int .i64 0, .int .i64 0, .string em, .int .i64 0, .int .i64 0, .string em, .bool false] 86) = W0 at M0 k6 k7 k8 k9 ⊢
  have hl0 := M0.lt
  refine (HW.out _).mono ?_
  rintro e w1 ⟨rfl, hb⟩
  have M1 := M0.next hb
  have hw0 : w.heap.size < W0.heap.size := by omega
  have m6 := (hb.cell (p := ⟨w.heap.size, 6, none⟩) hw0).trans k6
  have m7 := (hb.cell (p := ⟨w.heap.size, 7, none⟩) hw0).trans k7
  have m8 := (hb.cell (p := ⟨w.heap.size, 8, none⟩) hw0).trans k8
  have m9 := (hb.cell (p := ⟨w.heap.size, 9, none⟩) hw0).trans k9
  obtain ⟨b0, b1, b2, b3, b4, b5, b6, b7, b8, b9⟩ := ten M1.ob
  have fb := soft M1.ob
  have hl1 := M1.lt
  have M2 : MkC w ((((((w1.setCell ⟨w.heap.size + 2, 0, none⟩ (.string x.wr.coll)).setCell ⟨w.heap.size + 2, 1, none⟩ (.int .i64 x.wr.id)).setCell ⟨w.heap.size + 2, 2, none⟩ (.bool x.wr.gone)).setCell ⟨w.heap.size + 2, 3, none⟩ (.int .i64 x.wr.doc.k)).setCell ⟨w.heap.size + 2, 4, none⟩ (.int .i64 x.wr.doc.n)).setCell ⟨w.heap.size + 2, 5, none⟩ (.string x.wr.doc.t)) #[.string em, .int .i64 0, .bool false, .int .i64 0, .int .i64 0, .string em, .int .i64 0, .int .i64 0, .string em, .bool false] #[.string x.wr.coll, .int .i64 x.wr.id, .bool x.wr.gone, .int .i64 x.wr.doc.k, .int .i64 x.wr.doc.n, .string x.wr.doc.t, .int .i64 0, .int .i64 0, .string em, .bool false] 86 := (((((M1.set 0 _).set 1 _).set 2 _).set 3 _).set 4 _).set 5 _
  have n6 : ((((((w1.setCell ⟨w.heap.size + 2, 0, none⟩ (.string x.wr.coll)).setCell ⟨w.heap.size + 2, 1, none⟩ (.int .i64 x.wr.id)).setCell ⟨w.heap.size + 2, 2, none⟩ (.bool x.wr.gone)).setCell ⟨w.heap.size + 2, 3, none⟩ (.int .i64 x.wr.doc.k)).setCell ⟨w.heap.size + 2, 4, none⟩ (.int .i64 x.wr.doc.n)).setCell ⟨w.heap.size + 2, 5, none⟩ (.string x.wr.doc.t)).cell? ⟨w.heap.size, 9, none⟩ = some (.bool x.was) := by simp [go_sem, *]
  clear hb M0 HW k6 k7 k8 k9 M1
  go_wp2_with fail
  generalize (((((w1.setCell ⟨w.heap.size + 2, 0, none⟩ (.string x.wr.coll)).setCell ⟨w.heap.size + 2, 1, none⟩ (.int .i64 x.wr.id)).setCell ⟨w.heap.size + 2, 2, none⟩ (.bool x.wr.gone)).setCell ⟨w.heap.size + 2, 3, none⟩ (.int .i64 x.wr.doc.k)).setCell ⟨w.heap.size + 2, 4, none⟩ (.int .i64 x.wr.doc.n)).setCell ⟨w.heap.size + 2, 5, none⟩ (.string x.wr.doc.t) = W2 at M2 n6 ⊢
  clear b0 b1 b2 b3 b4 b5 b6 b7 b8 b9 fb m6 m7 m8 m9 hl1
  have hl2 := M2.lt
  refine (HV.out _).mono ?_
  rintro e w3 ⟨rfl, hb⟩
  have M3 := M2.next hb
  have hw2 : w.heap.size < W2.heap.size := by omega
  have m9 := (hb.cell (p := ⟨w.heap.size, 9, none⟩) hw2).trans n6
  obtain ⟨b0, b1, b2, b3, b4, b5, b6, b7, b8, b9⟩ := ten M3.ob
  obtain ⟨a0, a1, a2, a3, a4, a5, a6, a7, a8, a9⟩ := ten M3.rb
  have fb := soft M3.ob
  have fa := soft M3.rb
  have hl3 := M3.lt
  have hbw := M3.bel
  clear hb M2 M3 HV n6
  go_wp2_with fail
  refine bodyPost_ret (v := .agg #[.string x.wr.coll, .int .i64 x.wr.id, .bool x.wr.gone, .int .i64 x.wr.doc.k, .int .i64 x.wr.doc.n, .string x.wr.doc.t, .int .i64 x.bef.k, .int .i64 x.bef.n, .string x.bef.t, .bool x.was]) (by simp [results, Tryz.results47, go_sem, *]) rfl ⟨rfl, ?_⟩
  (repeat (first | (with_reducible exact Below.refl _ _) | (with_reducible assumption) | (with_reducible apply below_drewN) | (with_reducible apply Below.drew) | ((with_reducible refine Below.setCell ?_ ?_ _); rotate_left; focus (first | (simp; done) | (simp; omega) | omega)) | ((with_reducible refine Below.alloc ?_ ?_ _); rotate_left; focus (first | (simp; done) | (simp; omega) | omega))))
set_option maxRecDepth 4000 in
set_option maxHeartbeats 1000000 in
theorem szChangeS_any (a : Option Addr) (cap : Nat) (l : List Cgr) (c0 : Int) (w : World) (hin : InCg w a l) (hl : l.length ≤ maxLen) (hs : ∀ v ∈ l, maxCg v) (h0 : 0 ≤ c0) (h1 : c0 ≤ 1048576) :
    Calls Tryz.prog 19 #[.slice a l.length cap, .int .i64 c0] w fun e w' => (∃ r : Int, e = .returned (.int .i64 r) ∧ (r < 0 ∨ (0 ≤ r ∧ r ≤ c0 ∧ l.length ≤ 1048576 ∧ ∀ v ∈ l, szCg v))) ∧ Below w.heap.size w w' := by
  unfold maxLen at hl
  have HI : Hid _ := hin
  have HS : Hid _ := hs
  clear hin hs
  by_cases hbig : c0 < (l.length : Int)
  · have hneg : c0 - (l.length : Int) < 0 := by omega
    go_enter Tryz.func19, Tryz.ntmps19
    go_wp2_with fail
    go_ret
    exact ⟨⟨-1, rfl, .inl (by omega)⟩, Below.refl _ _⟩
  · have hneg : ¬ c0 - (l.length : Int) < 0 := by omega
    go_enter Tryz.func19, Tryz.ntmps19
    go_wp2_with fail
    go_loopw [1, 5] (fun u i wr => ∃ k : Nat, k ≤ l.length ∧ i = .int .i64 k ∧ ∃ c : Int, u = .int .i64 c ∧ 0 ≤ c ∧ c ≤ c0 ∧ (∀ v ∈ l.take k, szCg v) ∧ Below w.heap.size w wr) (fun _ i _ => l.length - (intOf i).toNat)
    case atStart => exact ⟨0, Nat.zero_le _, rfl, _, rfl, by omega, by omega, (fun v hv => by simp at hv), Below.refl _ _⟩
    case round =>
      obtain ⟨k, hk, rfl, c, rfl, hc0, hc1, hall, hbel⟩ := hrel
      have HA : Hid _ := hall
      clear hall
      by_cases hlt : k < l.length
      · rcases HI.out with h0' | ⟨b, off, rfl, hbl, hcell⟩
        · omega
        · have hlt2 : (k : Int) < (l.length : Int) := by omega
          have x0 := (hbel.cell hbl).trans (hcell k hlt).1
          have x1 := (hbel.cell hbl).trans (hcell k hlt).2.1
          have x2 := (hbel.cell hbl).trans (hcell k hlt).2.2.1
          have x3 := (hbel.cell hbl).trans (hcell k hlt).2.2.2.1
          have x4 := (hbel.cell hbl).trans (hcell k hlt).2.2.2.2.1
          have x5 := (hbel.cell hbl).trans (hcell k hlt).2.2.2.2.2.1
          have x6 := (hbel.cell hbl).trans (hcell k hlt).2.2.2.2.2.2.1
          have x7 := (hbel.cell hbl).trans (hcell k hlt).2.2.2.2.2.2.2.1
          have x8 := (hbel.cell hbl).trans (hcell k hlt).2.2.2.2.2.2.2.2.1
          have x9 := (hbel.cell hbl).trans (hcell k hlt).2.2.2.2.2.2.2.2.2
          have hsz := HS.out l[k] (List.getElem_mem _)
          clear hcell
          go_wp2_with fail
          refine (szChange_any l[k] c _ hsz hc0 (by omega)).mono ?_
          rintro e w1 ⟨⟨r, rfl, hr⟩, hb⟩
          have hb1 := hbel.trans (hb.mono hbel.size)
          clear hb
          rcases hr with hneg2 | ⟨hr0, hr1, hr2⟩
          · go_wp2_with fail
            go_ret
            exact ⟨⟨-1, rfl, .inl (by omega)⟩, hb1⟩
          · have hnn : ¬ r < 0 := by omega
            have HSZ : Hid (szCg l[k]) := hr2
            clear hr2
            go_wp2_with fail
            go_roundw
            case rel => exact ⟨k + 1, by omega, by go_num, r, rfl, by omega, by omega, take_allCg _ l k hlt HA.out HSZ.out, hb1⟩
            case measure => simp [intOf]; omega
      · have hlt2 : ¬ (k : Int) < (l.length : Int) := by omega
        go_wp2_with fail
        go_ret
        exact ⟨⟨c, rfl, .inr ⟨hc0, hc1, by omega, by have := HA.out; rw [List.take_of_length_le (by omega)] at this; exact this⟩⟩, hbel⟩

set_option maxRecDepth 4000 in
set_option maxHeartbeats 1000000 in
theorem toChangeS_any (a : Option Addr) (cap : Nat) (l : List Cgr) (w : World) (hin : InCg w a l) (hlen : l.length ≤ 1048576) :
    Calls Tryz.prog 25 #[.slice a l.length cap] w fun e w' => (∃ g, e = .returned (.slice (some ⟨g, 0, none⟩) l.length l.length) ∧ OwnCg w' w.heap.size (.slice (some ⟨g, 0, none⟩) l.length l.length) l) ∧ Below w.heap.size w w' := by
  obtain ⟨i0, hi, hz0, hz1, hz2⟩ := info_parts infoCg
  have HI : Hid _ := hin
  clear hin
  go_enter Tryz.func25, Tryz.ntmps25
  go_wp2_with (refine wpList_make_full _ rfl (.tmp 6) (.tmp 6) 34 rfl w.heap.size 86 i0 (.agg #[.string em, .int .i64 0, .bool false, .int .i64 0, .int .i64 0, .string em, .int .i64 0, .int .i64 0, .string em, .bool false]) 10 Tryz.underlying34 hi hz0 hz1 .i64 .i64 _ _ l.length rfl rfl rfl rfl (by rw [hz2]; omega) (by unfold maxLen; omega) (Nat.le_refl _) ?_; intro w1 hown1 hgrow1)
  have hb1 : Below w.heap.size w w1 := Below.grown (Below.refl _ _) hgrow1 (Nat.le_refl _) (fun k h => by cases h)
  have hz : w.heap.size < w1.heap.size := (World.ownsRow.lt hown1 w.heap.size rfl).2
  rw [made_zeroCg, show List.replicate l.length zCg = mixCg l 0 from by simp [mixCg]] at hown1
  clear hgrow1
  go_loopw [4] (fun i wr => ∃ k : Nat, k ≤ l.length ∧ i = .int .i64 k ∧ wr.ownsRow w.heap.size 86 10 (.slice (some ⟨w.heap.size, 0, none⟩) l.length l.length) l.length (flatCg (mixCg l k)) ∧ Below w.heap.size w wr) (fun i _ => l.length - (intOf i).toNat)
  case atStart => exact ⟨0, Nat.zero_le _, rfl, hown1, hb1⟩
  case round =>
    obtain ⟨k, hk, rfl, hown, hbel⟩ := hrel
    clear hown1 hb1 hz
    by_cases hlt : k < l.length
    · rcases HI.out with h0 | ⟨b, off, rfl, hbl, hc⟩
      · omega
      · have hlt2 : (k : Int) < (l.length : Int) := by omega
        have x0 := (hbel.cell hbl).trans (hc k hlt).1
        have x1 := (hbel.cell hbl).trans (hc k hlt).2.1
        have x2 := (hbel.cell hbl).trans (hc k hlt).2.2.1
        have x3 := (hbel.cell hbl).trans (hc k hlt).2.2.2.1
        have x4 := (hbel.cell hbl).trans (hc k hlt).2.2.2.2.1
        have x5 := (hbel.cell hbl).trans (hc k hlt).2.2.2.2.2.1
        have x6 := (hbel.cell hbl).trans (hc k hlt).2.2.2.2.2.2.1
        have x7 := (hbel.cell hbl).trans (hc k hlt).2.2.2.2.2.2.2.1
        have x8 := (hbel.cell hbl).trans (hc k hlt).2.2.2.2.2.2.2.2.1
        have x9 := (hbel.cell hbl).trans (hc k hlt).2.2.2.2.2.2.2.2.2
        have hz := hbel.size
        have HO : Hid (World.ownsRow _ _ _ _ _ _ _) := hown
        have HB : Hid _ := hbel
        have hgl : w.heap.size < wr.heap.size := (hown.lt _ rfl).2
        clear hc hown hbel
        go_wp2_with fail
        refine (toChange_any l[k] _).mono ?_
        rintro e w2 ⟨rfl, hb2⟩
        have hown2 := owns_below HO.out hb2
        have hm := mixCg_len l k hk
        have hg := flatCg_get (mixCg l k) k (by omega)
        obtain ⟨z0, y0⟩ : ∃ u, w2.cell? ⟨w.heap.size, k * 10, none⟩ = some u := ⟨_, owns_cell hown2 _ _ hg.1⟩
        obtain ⟨z1, y1⟩ : ∃ u, w2.cell? ⟨w.heap.size, k * 10 + 1, none⟩ = some u := ⟨_, owns_cell hown2 _ _ hg.2.1⟩
        obtain ⟨z2, y2⟩ : ∃ u, w2.cell? ⟨w.heap.size, k * 10 + 2, none⟩ = some u := ⟨_, owns_cell hown2 _ _ hg.2.2.1⟩
        obtain ⟨z3, y3⟩ : ∃ u, w2.cell? ⟨w.heap.size, k * 10 + 3, none⟩ = some u := ⟨_, owns_cell hown2 _ _ hg.2.2.2.1⟩
        obtain ⟨z4, y4⟩ : ∃ u, w2.cell? ⟨w.heap.size, k * 10 + 4, none⟩ = some u := ⟨_, owns_cell hown2 _ _ hg.2.2.2.2.1⟩
        obtain ⟨z5, y5⟩ : ∃ u, w2.cell? ⟨w.heap.size, k * 10 + 5, none⟩ = some u := ⟨_, owns_cell hown2 _ _ hg.2.2.2.2.2.1⟩
        obtain ⟨z6, y6⟩ : ∃ u, w2.cell? ⟨w.heap.size, k * 10 + 6, none⟩ = some u := ⟨_, owns_cell hown2 _ _ hg.2.2.2.2.2.2.1⟩
        obtain ⟨z7, y7⟩ : ∃ u, w2.cell? ⟨w.heap.size, k * 10 + 7, none⟩ = some u := ⟨_, owns_cell hown2 _ _ hg.2.2.2.2.2.2.2.1⟩
        obtain ⟨z8, y8⟩ : ∃ u, w2.cell? ⟨w.heap.size, k * 10 + 8, none⟩ = some u := ⟨_, owns_cell hown2 _ _ hg.2.2.2.2.2.2.2.2.1⟩
        obtain ⟨z9, y9⟩ : ∃ u, w2.cell? ⟨w.heap.size, k * 10 + 9, none⟩ = some u := ⟨_, owns_cell hown2 _ _ hg.2.2.2.2.2.2.2.2.2⟩
        have f0 := World.ownsRow.frozenAt hown2 (k * 10)
        have f1 := World.ownsRow.frozenAt hown2 (k * 10 + 1)
        have f2 := World.ownsRow.frozenAt hown2 (k * 10 + 2)
        have f3 := World.ownsRow.frozenAt hown2 (k * 10 + 3)
        have f4 := World.ownsRow.frozenAt hown2 (k * 10 + 4)
        have f5 := World.ownsRow.frozenAt hown2 (k * 10 + 5)
        have f6 := World.ownsRow.frozenAt hown2 (k * 10 + 6)
        have f7 := World.ownsRow.frozenAt hown2 (k * 10 + 7)
        have f8 := World.ownsRow.frozenAt hown2 (k * 10 + 8)
        have f9 := World.ownsRow.frozenAt hown2 (k * 10 + 9)
        have hst := (World.ownsRow.stored (World.ownsRow.stored (World.ownsRow.stored (World.ownsRow.stored (World.ownsRow.stored (World.ownsRow.stored (World.ownsRow.stored (World.ownsRow.stored (World.ownsRow.stored (World.ownsRow.stored hown2 (k * 10) (.string l[k].wr.coll)).1 (k * 10 + 1) (.int .i64 l[k].wr.id)).1 (k * 10 + 2) (.bool l[k].wr.gone)).1 (k * 10 + 3) (.int .i64 l[k].wr.doc.k)).1 (k * 10 + 4) (.int .i64 l[k].wr.doc.n)).1 (k * 10 + 5) (.string l[k].wr.doc.t)).1 (k * 10 + 6) (.int .i64 l[k].bef.k)).1 (k * 10 + 7) (.int .i64 l[k].bef.n)).1 (k * 10 + 8) (.string l[k].bef.t)).1 (k * 10 + 9) (.bool l[k].was)).1
        rw [flatCg_set _ _ _ (by omega), mixCg_set l k hlt] at hst
        have HS : Hid (World.ownsRow _ _ _ _ _ _ _) := hst
        have HB2 : Hid _ := HB.out.trans (hb2.mono HB.out.size)
        have hz2 := hb2.size
        clear hst hown2 hg hm hb2
        go_wp2_with fail
        go_roundw
        case rel => exact ⟨k + 1, by omega, by go_num, HS.out, (((((((((HB2.out.setCell (Nat.le_refl _) _).setCell (Nat.le_refl _) _).setCell (Nat.le_refl _) _).setCell (Nat.le_refl _) _).setCell (Nat.le_refl _) _).setCell (Nat.le_refl _) _).setCell (Nat.le_refl _) _).setCell (Nat.le_refl _) _).setCell (Nat.le_refl _) _).setCell (Nat.le_refl _) _⟩
        case measure => simp [intOf]; omega
    · have hlt2 : ¬ (k : Int) < (l.length : Int) := by omega
      go_wp2_with fail
      go_ret
      rw [mixCg_full l k (by omega)] at hown
      exact ⟨⟨w.heap.size, rfl, hown⟩, hbel⟩

set_option maxRecDepth 4000 in
set_option maxHeartbeats 1000000 in
theorem eqWrite_same (x : Wrt) (w : World) :
    Calls Tryz.prog 89 #[.agg #[.string x.coll, .int .i64 x.id, .bool x.gone, .int .i64 x.doc.k, .int .i64 x.doc.n, .string x.doc.t], .agg #[.string x.coll, .int .i64 x.id, .bool x.gone, .int .i64 x.doc.k, .int .i64 x.doc.n, .string x.doc.t]] w fun e w' => e = .returned (.bool true) ∧ Below w.heap.size w w' := by
  have hb0 : Below w.heap.size w ((w.alloc (.cells #[.string x.coll, .int .i64 x.id, .bool x.gone, .int .i64 x.doc.k, .int .i64 x.doc.n, .string x.doc.t] 84)).alloc (.cells #[.string x.coll, .int .i64 x.id, .bool x.gone, .int .i64 x.doc.k, .int .i64 x.doc.n, .string x.doc.t] 84)) := ((Below.refl _ _).alloc (Nat.le_refl _) _).alloc (by simp) _
  have HC : Hid (∀ W : World, Calls _ _ _ W _) := fun W => eqValue_same x.doc.k x.doc.n x.doc.t W
  go_enter Tryz.func89, Tryz.ntmps89
  go_wp2_with fail
  refine (HC.out _).mono ?_
  rintro e w1 ⟨rfl, hb⟩
  have hbw := hb0.trans (hb.mono hb0.size)
  clear hb HC
  go_wp2_with fail
  go_ret
  exact ⟨rfl, hbw⟩
set_option maxRecDepth 4000 in
set_option maxHeartbeats 1000000 in
theorem eqChange_same (x : Cgr) (w : World) :
    Calls Tryz.prog 62 #[.agg #[.string x.wr.coll, .int .i64 x.wr.id, .bool x.wr.gone, .int .i64 x.wr.doc.k, .int .i64 x.wr.doc.n, .string x.wr.doc.t, .int .i64 x.bef.k, .int .i64 x.bef.n, .string x.bef.t, .bool x.was], .agg #[.string x.wr.coll, .int .i64 x.wr.id, .bool x.wr.gone, .int .i64 x.wr.doc.k, .int .i64 x.wr.doc.n, .string x.wr.doc.t, .int .i64 x.bef.k, .int .i64 x.bef.n, .string x.bef.t, .bool x.was]] w fun e w' => e = .returned (.bool true) ∧ Below w.heap.size w w' := by
  have hb0 : Below w.heap.size w ((w.alloc (.cells #[.string x.wr.coll, .int .i64 x.wr.id, .bool x.wr.gone, .int .i64 x.wr.doc.k, .int .i64 x.wr.doc.n, .string x.wr.doc.t, .int .i64 x.bef.k, .int .i64 x.bef.n, .string x.bef.t, .bool x.was] 86)).alloc (.cells #[.string x.wr.coll, .int .i64 x.wr.id, .bool x.wr.gone, .int .i64 x.wr.doc.k, .int .i64 x.wr.doc.n, .string x.wr.doc.t, .int .i64 x.bef.k, .int .i64 x.bef.n, .string x.bef.t, .bool x.was] 86)) := ((Below.refl _ _).alloc (Nat.le_refl _) _).alloc (by simp) _
  have HW : Hid (∀ W : World, Calls _ _ _ W _) := fun W => eqWrite_same x.wr W
  have HV : Hid (∀ W : World, Calls _ _ _ W _) := fun W => eqValue_same x.bef.k x.bef.n x.bef.t W
  have A0 : ((w.alloc (.cells #[.string x.wr.coll, .int .i64 x.wr.id, .bool x.wr.gone, .int .i64 x.wr.doc.k, .int .i64 x.wr.doc.n, .string x.wr.doc.t, .int .i64 x.bef.k, .int .i64 x.bef.n, .string x.bef.t, .bool x.was] 86)).alloc (.cells #[.string x.wr.coll, .int .i64 x.wr.id, .bool x.wr.gone, .int .i64 x.wr.doc.k, .int .i64 x.wr.doc.n, .string x.wr.doc.t, .int .i64 x.bef.k, .int .i64 x.bef.n, .string x.bef.t, .bool x.was] 86)).heap[w.heap.size]? = some (.cells #[.string x.wr.coll, .int .i64 x.wr.id, .bool x.wr.gone, .int .i64 x.wr.doc.k, .int .i64 x.wr.doc.n, .string x.wr.doc.t, .int .i64 x.bef.k, .int .i64 x.bef.n, .string x.bef.t, .bool x.was] 86) := by rw [heap_alloc_old _ _ (by simp)]; exact heap_alloc_new _ _
  have B0 : ((w.alloc (.cells #[.string x.wr.coll, .int .i64 x.wr.id, .bool x.wr.gone, .int .i64 x.wr.doc.k, .int .i64 x.wr.doc.n, .string x.wr.doc.t, .int .i64 x.bef.k, .int .i64 x.bef.n, .string x.bef.t, .bool x.was] 86)).alloc (.cells #[.string x.wr.coll, .int .i64 x.wr.id, .bool x.wr.gone, .int .i64 x.wr.doc.k, .int .i64 x.wr.doc.n, .string x.wr.doc.t, .int .i64 x.bef.k, .int .i64 x.bef.n, .string x.bef.t, .bool x.was] 86)).heap[w.heap.size + 1]? = some (.cells #[.string x.wr.coll, .int .i64 x.wr.id, .bool x.wr.gone, .int .i64 x.wr.doc.k, .int .i64 x.wr.doc.n, .string x.wr.doc.t, .int .i64 x.bef.k, .int .i64 x.bef.n, .string x.bef.t, .bool x.was] 86) := by
    have h := heap_alloc_new (w.alloc (.cells #[.string x.wr.coll, .int .i64 x.wr.id, .bool x.wr.gone, .int .i64 x.wr.doc.k, .int .i64 x.wr.doc.n, .string x.wr.doc.t, .int .i64 x.bef.k, .int .i64 x.bef.n, .string x.bef.t, .bool x.was] 86)) (.cells #[.string x.wr.coll, .int .i64 x.wr.id, .bool x.wr.gone, .int .i64 x.wr.doc.k, .int .i64 x.wr.doc.n, .string x.wr.doc.t, .int .i64 x.bef.k, .int .i64 x.bef.n, .string x.bef.t, .bool x.was] 86)
    rw [heap_size_alloc] at h; exact h
  have hl0 : w.heap.size + 1 < ((w.alloc (.cells #[.string x.wr.coll, .int .i64 x.wr.id, .bool x.wr.gone, .int .i64 x.wr.doc.k, .int .i64 x.wr.doc.n, .string x.wr.doc.t, .int .i64 x.bef.k, .int .i64 x.bef.n, .string x.bef.t, .bool x.was] 86)).alloc (.cells #[.string x.wr.coll, .int .i64 x.wr.id, .bool x.wr.gone, .int .i64 x.wr.doc.k, .int .i64 x.wr.doc.n, .string x.wr.doc.t, .int .i64 x.bef.k, .int .i64 x.bef.n, .string x.bef.t, .bool x.was] 86)).heap.size := by simp
  go_enter Tryz.func62, Tryz.ntmps62
  go_wp2_with fail
  generalize (w.alloc (.cells #[.string x.wr.coll, .int .i64 x.wr.id, .bool x.wr.gone, .int .i64 x.wr.doc.k, .int .i64 x.wr.doc.n, .string x.wr.doc.t, .int .i64 x.bef.k, .int .i64 x.bef.n, .string x.bef.t, .bool x.was] 86)).alloc (.cells #[.string x.wr.coll, .int .i64 x.wr.id, .bool x.wr.gone, .int .i64 x.wr.doc.k, .int .i64 x.wr.doc.n, .string x.wr.doc.t, .int .i64 x.bef.k, .int .i64 x.bef.n, .string x.bef.t, .bool x.was] 86) = W0 at hb0 A0 B0 hl0 ⊢
  refine (HW.out _).mono ?_
  rintro e w1 ⟨rfl, hb⟩
  have hb1 := hb0.trans (hb.mono hb0.size)
  have A1 := (hb.block _ (show w.heap.size < W0.heap.size by omega)).trans A0
  have B1 := (hb.block _ hl0).trans B0
  have hl1 := Nat.lt_of_lt_of_le hl0 hb.size
  obtain ⟨a0, a1, a2, a3, a4, a5, a6, a7, a8, a9⟩ := ten A1
  obtain ⟨b0, b1, b2, b3, b4, b5, b6, b7, b8, b9⟩ := ten B1
  clear hb HW hb0 A0 B0
  go_wp2_with fail
  refine (HV.out _).mono ?_
  rintro e w2 ⟨rfl, hb⟩
  have hb2 := hb1.trans (hb.mono hb1.size)
  have c9 := (hb.cell (p := ⟨w.heap.size, 9, none⟩) (show w.heap.size < w1.heap.size by omega)).trans a9
  have d9 := (hb.cell (p := ⟨w.heap.size + 1, 9, none⟩) hl1).trans b9
  clear hb HV hb1 A1 B1 a0 a1 a2 a3 a4 a5 a6 a7 a8 a9 b0 b1 b2 b3 b4 b5 b6 b7 b8 b9
  go_wp2_with fail
  go_ret
  exact ⟨rfl, hb2⟩
set_option maxRecDepth 4000 in
set_option maxHeartbeats 1000000 in
theorem eqChangeS_same (p1 p2 : Option Addr) (c1 c2 : Nat) (l : List Cgr) (w : World) (h1 : InCg w p1 l) (h2 : InCg w p2 l) (hlen : l.length ≤ 1048576) :
    Calls Tryz.prog 32 #[.slice p1 l.length c1, .slice p2 l.length c2] w fun e w' => e = .returned (.bool true) ∧ Below w.heap.size w w' := by
  have H1 : Hid (InCg _ _ _) := h1
  have H2 : Hid (InCg _ _ _) := h2
  clear h1 h2
  go_enter Tryz.func32, Tryz.ntmps32
  go_wp2_with fail
  go_loopw [5] (fun i wr => ∃ k : Nat, k ≤ l.length ∧ i = .int .i64 k ∧ Below w.heap.size w wr) (fun i _ => l.length - (intOf i).toNat)
  case atStart => exact ⟨0, Nat.zero_le _, rfl, Below.refl _ _⟩
  case round =>
    obtain ⟨k, hk, rfl, hbel⟩ := hrel
    by_cases hlt : k < l.length
    · rcases H1.out.step hbel with h0 | ⟨g1, o1, rfl, l1, x1⟩
      · omega
      rcases H2.out.step hbel with h0 | ⟨g2, o2, rfl, l2, x2⟩
      · omega
      have hk1 : (k : Int) < (l.length : Int) := by omega
      have q0 : ∀ u : Under wr, u.x.cell? ⟨g1, o1 + k * 10, none⟩ = some (.string l[k].wr.coll) := fun u => (u.h.cell l1).trans (x1 k hlt).1
      have r0 : ∀ u : Under wr, u.x.cell? ⟨g2, o2 + k * 10, none⟩ = some (.string l[k].wr.coll) := fun u => (u.h.cell l2).trans (x2 k hlt).1
      have q1 : ∀ u : Under wr, u.x.cell? ⟨g1, o1 + k * 10 + 1, none⟩ = some (.int .i64 l[k].wr.id) := fun u => (u.h.cell l1).trans (x1 k hlt).2.1
      have r1 : ∀ u : Under wr, u.x.cell? ⟨g2, o2 + k * 10 + 1, none⟩ = some (.int .i64 l[k].wr.id) := fun u => (u.h.cell l2).trans (x2 k hlt).2.1
      have q2 : ∀ u : Under wr, u.x.cell? ⟨g1, o1 + k * 10 + 2, none⟩ = some (.bool l[k].wr.gone) := fun u => (u.h.cell l1).trans (x1 k hlt).2.2.1
      have r2 : ∀ u : Under wr, u.x.cell? ⟨g2, o2 + k * 10 + 2, none⟩ = some (.bool l[k].wr.gone) := fun u => (u.h.cell l2).trans (x2 k hlt).2.2.1
      have q3 : ∀ u : Under wr, u.x.cell? ⟨g1, o1 + k * 10 + 3, none⟩ = some (.int .i64 l[k].wr.doc.k) := fun u => (u.h.cell l1).trans (x1 k hlt).2.2.2.1
      have r3 : ∀ u : Under wr, u.x.cell? ⟨g2, o2 + k * 10 + 3, none⟩ = some (.int .i64 l[k].wr.doc.k) := fun u => (u.h.cell l2).trans (x2 k hlt).2.2.2.1
      have q4 : ∀ u : Under wr, u.x.cell? ⟨g1, o1 + k * 10 + 4, none⟩ = some (.int .i64 l[k].wr.doc.n) := fun u => (u.h.cell l1).trans (x1 k hlt).2.2.2.2.1
      have r4 : ∀ u : Under wr, u.x.cell? ⟨g2, o2 + k * 10 + 4, none⟩ = some (.int .i64 l[k].wr.doc.n) := fun u => (u.h.cell l2).trans (x2 k hlt).2.2.2.2.1
      have q5 : ∀ u : Under wr, u.x.cell? ⟨g1, o1 + k * 10 + 5, none⟩ = some (.string l[k].wr.doc.t) := fun u => (u.h.cell l1).trans (x1 k hlt).2.2.2.2.2.1
      have r5 : ∀ u : Under wr, u.x.cell? ⟨g2, o2 + k * 10 + 5, none⟩ = some (.string l[k].wr.doc.t) := fun u => (u.h.cell l2).trans (x2 k hlt).2.2.2.2.2.1
      have q6 : ∀ u : Under wr, u.x.cell? ⟨g1, o1 + k * 10 + 6, none⟩ = some (.int .i64 l[k].bef.k) := fun u => (u.h.cell l1).trans (x1 k hlt).2.2.2.2.2.2.1
      have r6 : ∀ u : Under wr, u.x.cell? ⟨g2, o2 + k * 10 + 6, none⟩ = some (.int .i64 l[k].bef.k) := fun u => (u.h.cell l2).trans (x2 k hlt).2.2.2.2.2.2.1
      have q7 : ∀ u : Under wr, u.x.cell? ⟨g1, o1 + k * 10 + 7, none⟩ = some (.int .i64 l[k].bef.n) := fun u => (u.h.cell l1).trans (x1 k hlt).2.2.2.2.2.2.2.1
      have r7 : ∀ u : Under wr, u.x.cell? ⟨g2, o2 + k * 10 + 7, none⟩ = some (.int .i64 l[k].bef.n) := fun u => (u.h.cell l2).trans (x2 k hlt).2.2.2.2.2.2.2.1
      have q8 : ∀ u : Under wr, u.x.cell? ⟨g1, o1 + k * 10 + 8, none⟩ = some (.string l[k].bef.t) := fun u => (u.h.cell l1).trans (x1 k hlt).2.2.2.2.2.2.2.2.1
      have r8 : ∀ u : Under wr, u.x.cell? ⟨g2, o2 + k * 10 + 8, none⟩ = some (.string l[k].bef.t) := fun u => (u.h.cell l2).trans (x2 k hlt).2.2.2.2.2.2.2.2.1
      have q9 : ∀ u : Under wr, u.x.cell? ⟨g1, o1 + k * 10 + 9, none⟩ = some (.bool l[k].was) := fun u => (u.h.cell l1).trans (x1 k hlt).2.2.2.2.2.2.2.2.2
      have r9 : ∀ u : Under wr, u.x.cell? ⟨g2, o2 + k * 10 + 9, none⟩ = some (.bool l[k].was) := fun u => (u.h.cell l2).trans (x2 k hlt).2.2.2.2.2.2.2.2.2
      have hnu : Nonempty (Under wr) := ⟨⟨wr, Below.refl _ _⟩⟩
      clear x1 x2
      go_wp2_with fail
      refine wp_region_under (by kernel_rfl) (by kernel_rfl) ?_
      repeat (go_big_quiet_step ((go_at_call 62; exact calls_under _ (eqChange_same l[k] _))))
      refine wpQuiet_nil ?_
      rintro _ ⟨u, rfl⟩
      go_wp2_with fail
      go_roundw
      case rel => exact ⟨k + 1, by omega, by go_num, hbel.trans (u.h.mono hbel.size)⟩
      case measure => simp [intOf]; omega
    · have hlt2 : ¬ (k : Int) < (l.length : Int) := by omega
      go_wp2_with fail
      go_ret
      exact ⟨rfl, hbel⟩

end Go.Proofs.YtcggkeleaepebaaGreatDoor.Ce

/- Whether changes are right: what both sides answer. -/
namespace Go.Proofs.YtcggkeleaepebaaGreatDoor.Ce
open Go.RowKit Tr Co
set_option linter.unusedVariables false

/-- Whether a change is right. -/
def okCg (x : Cgr) : Bool := writeB x.wr && stateB x.wr.id (!x.was) x.bef
theorem topB_nonneg {x : Wrt} (h : writeB x = true) : 0 ≤ x.id := by
  unfold writeB topB at h
  simp only [Bool.and_eq_true, decide_eq_true_eq] at h
  exact h.2.1.1
set_option maxRecDepth 4000 in
set_option maxHeartbeats 2000000 in
theorem changeOK_any (x : Cgr) (w : World) (hs : szCg x) :
    Calls Tryz.prog 103 #[.agg #[.string x.wr.coll, .int .i64 x.wr.id, .bool x.wr.gone, .int .i64 x.wr.doc.k, .int .i64 x.wr.doc.n, .string x.wr.doc.t, .int .i64 x.bef.k, .int .i64 x.bef.n, .string x.bef.t, .bool x.was]] w fun e w' => e = .returned (.bool (okCg x)) ∧ Below w.heap.size w w' := by
  have hb0 : Below w.heap.size w (w.alloc (.cells #[.string x.wr.coll, .int .i64 x.wr.id, .bool x.wr.gone, .int .i64 x.wr.doc.k, .int .i64 x.wr.doc.n, .string x.wr.doc.t, .int .i64 x.bef.k, .int .i64 x.bef.n, .string x.bef.t, .bool x.was] 86)) := (Below.refl _ _).alloc (Nat.le_refl _) _
  have A0 : (w.alloc (.cells #[.string x.wr.coll, .int .i64 x.wr.id, .bool x.wr.gone, .int .i64 x.wr.doc.k, .int .i64 x.wr.doc.n, .string x.wr.doc.t, .int .i64 x.bef.k, .int .i64 x.bef.n, .string x.bef.t, .bool x.was] 86)).heap[w.heap.size]? = some (.cells #[.string x.wr.coll, .int .i64 x.wr.id, .bool x.wr.gone, .int .i64 x.wr.doc.k, .int .i64 x.wr.doc.n, .string x.wr.doc.t, .int .i64 x.bef.k, .int .i64 x.bef.n, .string x.bef.t, .bool x.was] 86) := heap_alloc_new _ _
  have hl0 : w.heap.size < (w.alloc (.cells #[.string x.wr.coll, .int .i64 x.wr.id, .bool x.wr.gone, .int .i64 x.wr.doc.k, .int .i64 x.wr.doc.n, .string x.wr.doc.t, .int .i64 x.bef.k, .int .i64 x.bef.n, .string x.bef.t, .bool x.was] 86)).heap.size := by simp
  have HW : Hid (∀ W : World, Calls _ _ _ W _) := fun W => writeOK_any x.wr W hs.1
  have HS : Hid (0 ≤ x.wr.id → ∀ W : World, Calls _ _ _ W _) := fun h W => stateOK_any x.wr.id (!x.was) x.bef W h hs.2
  clear hs
  unfold okCg
  cases hw : writeB x.wr
  · rw [hw] at HW
    clear HS
    go_enter Tryz.func103, Tryz.ntmps103
    go_wp2_with fail
    generalize w.alloc (.cells #[.string x.wr.coll, .int .i64 x.wr.id, .bool x.wr.gone, .int .i64 x.wr.doc.k, .int .i64 x.wr.doc.n, .string x.wr.doc.t, .int .i64 x.bef.k, .int .i64 x.bef.n, .string x.bef.t, .bool x.was] 86) = W0 at hb0 A0 hl0 ⊢
    refine (HW.out _).mono ?_
    rintro e w1 ⟨rfl, hb⟩
    have hb1 := hb0.trans (hb.mono hb0.size)
    clear hb
    go_wp2_with fail
    go_ret
    exact ⟨rfl, hb1⟩
  · rw [hw] at HW
    have HS2 : Hid (∀ W : World, Calls _ _ _ W _) := HS.out (topB_nonneg hw)
    clear HS hw
    cases hwas : x.was
    all_goals
      rw [hwas] at HS2
      simp only [hwas] at A0 hb0 hl0
      go_enter Tryz.func103, Tryz.ntmps103
      go_wp2_with fail
      generalize w.alloc _ = W0 at hb0 A0 hl0 ⊢
      refine (HW.out _).mono ?_
      rintro e w1 ⟨rfl, hb⟩
      have hb1 := hb0.trans (hb.mono hb0.size)
      have A1 := (hb.block _ hl0).trans A0
      obtain ⟨a0, a1, a2, a3, a4, a5, a6, a7, a8, a9⟩ := ten A1
      clear hb A0 hb0
      go_wp2_with fail
      refine (HS2.out _).mono ?_
      rintro e w2 ⟨rfl, hb⟩
      have hb2 := hb1.trans (hb.mono hb1.size)
      clear hb
      go_wp2_with fail
      go_ret
      exact ⟨rfl, hb2⟩
set_option maxRecDepth 4000 in
set_option maxHeartbeats 2000000 in
theorem l09Change_any (x : Cgr) (w : World) (hs : szCg x) :
    Calls Tryz.prog 70 #[.agg #[.string x.wr.coll, .int .i64 x.wr.id, .bool x.wr.gone, .int .i64 x.wr.doc.k, .int .i64 x.wr.doc.n, .string x.wr.doc.t, .int .i64 x.bef.k, .int .i64 x.bef.n, .string x.bef.t, .bool x.was]] w fun e w' => e = .returned (.bool (okCg x)) ∧ Below w.heap.size w w' := by
  have hb0 : Below w.heap.size w (w.alloc (.cells #[.string x.wr.coll, .int .i64 x.wr.id, .bool x.wr.gone, .int .i64 x.wr.doc.k, .int .i64 x.wr.doc.n, .string x.wr.doc.t, .int .i64 x.bef.k, .int .i64 x.bef.n, .string x.bef.t, .bool x.was] 86)) := (Below.refl _ _).alloc (Nat.le_refl _) _
  have A0 : (w.alloc (.cells #[.string x.wr.coll, .int .i64 x.wr.id, .bool x.wr.gone, .int .i64 x.wr.doc.k, .int .i64 x.wr.doc.n, .string x.wr.doc.t, .int .i64 x.bef.k, .int .i64 x.bef.n, .string x.bef.t, .bool x.was] 86)).heap[w.heap.size]? = some (.cells #[.string x.wr.coll, .int .i64 x.wr.id, .bool x.wr.gone, .int .i64 x.wr.doc.k, .int .i64 x.wr.doc.n, .string x.wr.doc.t, .int .i64 x.bef.k, .int .i64 x.bef.n, .string x.bef.t, .bool x.was] 86) := heap_alloc_new _ _
  have hl0 : w.heap.size < (w.alloc (.cells #[.string x.wr.coll, .int .i64 x.wr.id, .bool x.wr.gone, .int .i64 x.wr.doc.k, .int .i64 x.wr.doc.n, .string x.wr.doc.t, .int .i64 x.bef.k, .int .i64 x.bef.n, .string x.bef.t, .bool x.was] 86)).heap.size := by simp
  have HW : Hid (∀ W : World, Calls _ _ _ W _) := fun W => specWrite_any x.wr W hs.1
  have HS : Hid (∀ W : World, Calls _ _ _ W _) := fun W => l08Doc_any x.wr.id (!x.was) x.bef W hs.2
  clear hs
  unfold okCg
  cases hw : writeB x.wr
  · rw [hw] at HW
    clear HS
    go_enter Tryz.func70, Tryz.ntmps70
    go_wp2_with fail
    generalize w.alloc (.cells #[.string x.wr.coll, .int .i64 x.wr.id, .bool x.wr.gone, .int .i64 x.wr.doc.k, .int .i64 x.wr.doc.n, .string x.wr.doc.t, .int .i64 x.bef.k, .int .i64 x.bef.n, .string x.bef.t, .bool x.was] 86) = W0 at hb0 A0 hl0 ⊢
    refine (HW.out _).mono ?_
    rintro e w1 ⟨rfl, hb⟩
    have hb1 := hb0.trans (hb.mono hb0.size)
    clear hb
    go_wp2_with fail
    go_ret
    exact ⟨rfl, hb1⟩
  · rw [hw] at HW
    have HS2 : Hid (∀ W : World, Calls _ _ _ W _) := HS.out
    clear HS hw
    cases hwas : x.was
    all_goals
      rw [hwas] at HS2
      simp only [hwas] at A0 hb0 hl0
      go_enter Tryz.func70, Tryz.ntmps70
      go_wp2_with fail
      generalize w.alloc _ = W0 at hb0 A0 hl0 ⊢
      refine (HW.out _).mono ?_
      rintro e w1 ⟨rfl, hb⟩
      have hb1 := hb0.trans (hb.mono hb0.size)
      have A1 := (hb.block _ hl0).trans A0
      obtain ⟨a0, a1, a2, a3, a4, a5, a6, a7, a8, a9⟩ := ten A1
      clear hb A0 hb0
      go_wp2_with fail
      refine (HS2.out _).mono ?_
      rintro e w2 ⟨rfl, hb⟩
      have hb2 := hb1.trans (hb.mono hb1.size)
      clear hb
      go_wp2_with fail
      go_ret
      exact ⟨rfl, hb2⟩
set_option maxRecDepth 4000 in
set_option maxHeartbeats 1000000 in
theorem isWrongChange_any (x : Cgr) (w : World) (hs : szCg x) :
    Calls Tryz.prog 79 #[.agg #[.string x.wr.coll, .int .i64 x.wr.id, .bool x.wr.gone, .int .i64 x.wr.doc.k, .int .i64 x.wr.doc.n, .string x.wr.doc.t, .int .i64 x.bef.k, .int .i64 x.bef.n, .string x.bef.t, .bool x.was]] w fun e w' => e = .returned (.bool (!(okCg x))) ∧ Below w.heap.size w w' := by
  have hb0 : Below w.heap.size w (w.alloc (.cells #[.string x.wr.coll, .int .i64 x.wr.id, .bool x.wr.gone, .int .i64 x.wr.doc.k, .int .i64 x.wr.doc.n, .string x.wr.doc.t, .int .i64 x.bef.k, .int .i64 x.bef.n, .string x.bef.t, .bool x.was] 86)) := (Below.refl _ _).alloc (Nat.le_refl _) _
  have HW : Hid (∀ W : World, Calls _ _ _ W _) := fun W => changeOK_any x W hs
  clear hs
  go_enter Tryz.func79, Tryz.ntmps79
  go_wp2_with fail
  refine (HW.out _).mono ?_
  rintro e w1 ⟨rfl, hb⟩
  have hb1 := hb0.trans (hb.mono hb0.size)
  clear hb
  go_wp2_with fail
  go_ret
  exact ⟨rfl, hb1⟩
set_option maxRecDepth 4000 in
set_option maxHeartbeats 1000000 in
theorem idxWrongCg_any (q : Option Addr) (qc : Nat) (l : List Cgr) (w : World) (hr : RowCg w q l) (hl : l.length ≤ 1048576) (hs : ∀ v ∈ l, szCg v) :
    Calls Tryz.prog 102 #[.slice q l.length qc, .func (.func 79) #[] #[]] w fun e w' => (∃ i : Int, e = .returned (.int .i64 i) ∧ decide (0 ≤ i) = !(l.all okCg)) ∧ Below w.heap.size w w' := by
  have HR : Hid (RowCg _ _ _) := hr
  have HS : Hid _ := hs
  clear hr hs
  go_enter Tryz.func102, Tryz.ntmps102
  go_wp2_with fail
  go_loopw [8] (fun i wr => ∃ k : Nat, k ≤ l.length ∧ i = .int .i64 k ∧ (∀ u ∈ l.take k, okCg u = true) ∧ Below w.heap.size w wr) (fun i _ => l.length - (intOf i).toNat)
  case atStart => exact ⟨0, Nat.zero_le _, rfl, fun u hu => by simp at hu, Below.refl _ _⟩
  case round =>
    obtain ⟨k, hk, rfl, hall, hbel⟩ := hrel
    have HA : Hid _ := hall
    clear hall
    by_cases hlt : k < l.length
    · rcases HR.out.next hbel with h0 | ⟨g, rfl, R⟩
      · subst h0; simp at hlt
      obtain ⟨x0, x1, x2, x3, x4, x5, x6, x7, x8, x9⟩ := R.cells k hlt
      have hlt2 : (k : Int) < (l.length : Int) := by omega
      have HK0 : ∀ W : World, Below wr.heap.size wr W → Calls Tryz.prog 79 #[.agg #[.string l[k].wr.coll, .int .i64 l[k].wr.id, .bool l[k].wr.gone, .int .i64 l[k].wr.doc.k, .int .i64 l[k].wr.doc.n, .string l[k].wr.doc.t, .int .i64 l[k].bef.k, .int .i64 l[k].bef.n, .string l[k].bef.t, .bool l[k].was]] W fun e w' => e = .returned (.bool (!(okCg l[k]))) ∧ Below W.heap.size W w' := fun W _ => isWrongChange_any l[k] W (HS.out l[k] (List.getElem_mem _))
      cases hP : okCg l[k]
      · rw [hP] at HK0
        have HK : Hid _ := HK0
        have hal : l.all okCg = false := by
          rw [Bool.eq_false_iff]; intro hh
          have := List.all_eq_true.mp hh l[k] (List.getElem_mem _)
          rw [hP] at this; cases this
        have HL : Hid _ := hal
        clear R hP HK0 hal
        go_wp2_with fail
        refine (HK.out _ (Below.refl _ _)).mono ?_
        rintro e w1 ⟨rfl, hb⟩
        have hb1 := hbel.trans (hb.mono hbel.size)
        clear hb
        go_wp2_with fail
        go_ret
        exact ⟨⟨k, rfl, by rw [HL.out]; exact decide_eq_true (by omega)⟩, hb1⟩
      · rw [hP] at HK0
        have HK : Hid _ := HK0
        have HPK : Hid _ := hP
        clear R hP HK0
        go_wp2_with fail
        refine (HK.out _ (Below.refl _ _)).mono ?_
        rintro e w1 ⟨rfl, hb⟩
        have hb1 := hbel.trans (hb.mono hbel.size)
        clear hb
        go_wp2_with fail
        go_roundw
        case rel =>
          refine ⟨k + 1, by omega, by go_num, ?_, hb1⟩
          intro u hu
          rw [List.take_succ_eq_append_getElem hlt] at hu
          rcases List.mem_append.mp hu with h | h
          · exact HA.out u h
          · simp at h; subst h; exact HPK.out
        case measure => simp [intOf]; omega
    · have hlt2 : ¬ (k : Int) < (l.length : Int) := by omega
      have hal : l.all okCg = true := List.all_eq_true.mpr (fun u hu => HA.out u (by rw [List.take_of_length_le (by omega)]; exact hu))
      have HL : Hid _ := hal
      clear hal
      go_wp2_with fail
      go_ret
      exact ⟨⟨-1, rfl, by rw [HL.out]; rfl⟩, hbel⟩
set_option maxRecDepth 4000 in
set_option maxHeartbeats 1000000 in
theorem anyWrongCg_any (q : Option Addr) (qc : Nat) (l : List Cgr) (w : World) (hr : RowCg w q l) (hl : l.length ≤ 1048576) (hs : ∀ v ∈ l, szCg v) :
    Calls Tryz.prog 78 #[.slice q l.length qc, .func (.func 79) #[] #[]] w fun e w' => e = .returned (.bool (!(l.all okCg))) ∧ Below w.heap.size w w' := by
  have HI : Hid (Calls _ _ _ _ _) := idxWrongCg_any q qc l w hr hl hs
  clear hr hs
  go_enter Tryz.func78, Tryz.ntmps78
  go_wp2_with fail
  refine HI.out.mono ?_
  rintro e w1 ⟨⟨i, rfl, hi⟩, hb⟩
  have HJ : Hid _ := hi
  clear hi HI
  go_wp2_with fail
  go_ret
  exact ⟨ret_bool HJ.out, hb⟩


end Go.Proofs.YtcggkeleaepebaaGreatDoor.Ce

/- Whether lists of reads and changes are right: the specification's answer. -/
namespace Go.Proofs.YtcggkeleaepebaaGreatDoor.Ce
open Go.RowKit Tr Co Rea
set_option linter.unusedVariables false

/-- Whether two changes are of one document. -/
def sameD (a b : Cgr) : Bool := (a.wr.coll.toList == b.wr.coll.toList) && decide (a.wr.id = b.wr.id)
/-- Whether changes are right, and no document is there twice. -/
def lstB : List Cgr → List Cgr → Bool
  | _, [] => true
  | pre, x :: r => okCg x && (!(pre.any (fun y => sameD y x)) && lstB (pre ++ [x]) r)
def listsB (rs : List Rdg) (cs : List Cgr) : Bool := rs.all okR && (lstB [] cs && (decide (rs.length ≤ 20) && decide (cs.length ≤ 60)))
theorem lstB_step (l : List Cgr) (k : Nat) (h : k < l.length) : lstB (l.take k) (l.drop k) = (okCg l[k] && (!((l.take k).any (fun y => sameD y l[k])) && lstB (l.take (k + 1)) (l.drop (k + 1)))) := by
  rw [List.drop_eq_getElem_cons h, lstB, List.take_succ_eq_append_getElem h]
theorem lstB_end (l : List Cgr) (k : Nat) (h : l.length ≤ k) : lstB (l.take k) (l.drop k) = true := by
  rw [List.drop_eq_nil_of_le h]; rfl
theorem any_at (l : List Cgr) (P : Cgr → Bool) (k j : Nat) (hj : j < l.length) (hjk : j < k) (h : P l[j] = true) : (l.take k).any P = true := by
  rw [List.any_eq_true]
  exact ⟨l[j], by rw [List.mem_take_iff_getElem]; exact ⟨j, by omega, rfl⟩, h⟩
theorem take_next (l : List Cgr) (P : Cgr → Bool) (k : Nat) (h : k < l.length) (h1 : ∀ v ∈ l.take k, P v = false) (h2 : P l[k] = false) : ∀ v ∈ l.take (k + 1), P v = false := by
  intro v hv
  rw [List.take_succ_eq_append_getElem h] at hv
  rcases List.mem_append.1 hv with hv | hv
  · exact h1 v hv
  · simp at hv; subst hv; exact h2

set_option maxRecDepth 8000 in
set_option maxHeartbeats 4000000 in
theorem l09Lists_any (g1 g2 c1 c2 b1 : Nat) (rs : List Rdg) (cs : List Cgr) (w : World) (h1 : MadeRd w b1 g1 rs) (h2 : ReadCg w g2 cs) (hl1 : rs.length ≤ 1048576) (hl2 : cs.length ≤ 1048576) (hs1 : ∀ v ∈ rs, szRd v) (hs2 : ∀ v ∈ cs, szCg v) :
    Calls Tryz.prog 42 #[.slice (some ⟨g1, 0, none⟩) rs.length c1, .slice (some ⟨g2, 0, none⟩) cs.length c2] w fun e w' => e = .returned (.bool (listsB rs cs)) ∧ Below w.heap.size w w' := by
  have H1 : Hid (MadeRd _ _ _ _) := h1
  have H2 : Hid (ReadCg _ _ _) := h2
  have HS1 : Hid (∀ v ∈ rs, szRd v) := hs1
  have HS2 : Hid (∀ v ∈ cs, szCg v) := hs2
  obtain ⟨R, hR⟩ : ∃ R, R = listsB rs cs := ⟨_, rfl⟩
  rw [← hR]
  have HR : Hid (R = listsB rs cs) := hR
  clear h1 h2 hs1 hs2 hR
  go_enter Tryz.func42, Tryz.ntmps42
  go_wp2_with fail
  go_loopw [5] (fun i wr => ∃ k : Nat, k ≤ rs.length ∧ i = .int .i64 k ∧ (∀ u ∈ rs.take k, okR u = true) ∧ Below w.heap.size w wr) (fun i _ => rs.length - (intOf i).toNat)
  case atStart => exact ⟨0, Nat.zero_le _, rfl, (fun u hu => by simp at hu), Below.refl _ _⟩
  case round =>
    obtain ⟨k, hk, rfl, hall, hbel⟩ := hrel
    have HA : Hid (∀ u ∈ rs.take k, okR u = true) := hall
    clear hall
    by_cases hlt : k < rs.length
    · have hlt2 : (k : Int) < (rs.length : Int) := by omega
      have R1 := H1.out.next hbel
      obtain ⟨x0, ga, x1, xa⟩ := R1.cells k hlt
      have hg1 := R1.lt
      have hsk := HS1.out rs[k] (List.getElem_mem _)
      have hbad : okR rs[k] = false → rs.all okR = false := fun h => by
        rw [Bool.eq_false_iff]; intro hh
        have := List.all_eq_true.mp hh rs[k] (List.getElem_mem _)
        rw [h] at this; cases this
      have hgood : okR rs[k] = true → ∀ u ∈ rs.take (k + 1), okR u = true := fun h => take_allRd (fun u => okR u = true) rs k hlt HA.out h
      obtain ⟨x, hx⟩ : ∃ x, x = rs[k] := ⟨_, rfl⟩
      rw [← hx] at x0 x1 xa hsk hbad hgood
      have HC : Hid (Calls _ _ _ _ _) := specRead_any x.coll (some ⟨ga, 0, none⟩) x.f.length x.f wr (.inr ⟨ga, rfl, xa.read⟩) hsk
      have HBAD : Hid (okR x = false → rs.all okR = false) := hbad
      have HGOOD : Hid (okR x = true → ∀ u ∈ rs.take (k + 1), okR u = true) := hgood
      have HOK : Hid (readB x.coll x.f = okR x) := rfl
      rw [HOK.out] at HC
      clear hx R1 xa hsk hbad hgood
      cases hP : okR x
      · rw [hP] at HC
        have HF : Hid (R = false) := by show R = false; rw [HR.out]; unfold listsB; rw [HBAD.out hP]; rfl
        clear hP
        go_wp2_with fail
        refine HC.out.mono ?_
        rintro e w1 ⟨rfl, hb⟩
        have hb1 := hbel.trans (hb.mono hbel.size)
        clear hb
        go_wp2_with fail
        go_ret
        exact ⟨by rw [HF.out]; rfl, hb1⟩
      · rw [hP] at HC
        have HG : Hid (∀ u ∈ rs.take (k + 1), okR u = true) := HGOOD.out hP
        clear hP
        go_wp2_with fail
        refine HC.out.mono ?_
        rintro e w1 ⟨rfl, hb⟩
        have hb1 := hbel.trans (hb.mono hbel.size)
        clear hb
        go_wp2_with fail
        go_roundw
        case rel => exact ⟨k + 1, by omega, by go_num, HG.out, hb1⟩
        case measure => simp [intOf]; omega
    · have hlt2 : ¬ (k : Int) < (rs.length : Int) := by omega
      have hal : rs.all okR = true := List.all_eq_true.mpr (fun u hu => HA.out u (by rw [List.take_of_length_le (by omega)]; exact hu))
      obtain ⟨C, hC⟩ : ∃ C, C = (decide (rs.length ≤ 20) && decide (cs.length ≤ 60)) := ⟨_, rfl⟩
      have HC0 : Hid (C = (decide (rs.length ≤ 20) && decide (cs.length ≤ 60))) := hC
      have HR2 : Hid (R = (lstB [] cs && C)) := by show R = _; rw [HR.out]; unfold listsB; rw [hal, hC]; rfl
      clear hal HA HR hC
      go_wp2_with fail
      go_loopw [6] (fun i wq => ∃ k : Nat, k ≤ cs.length ∧ i = .int .i64 k ∧ R = (lstB (cs.take k) (cs.drop k) && C) ∧ Below w.heap.size w wq) (fun i _ => cs.length - (intOf i).toNat)
      case atStart => exact ⟨0, Nat.zero_le _, rfl, HR2.out, hbel⟩
      case round =>
        obtain ⟨k, hk, rfl, hrk, hbel2⟩ := hrel
        clear HR2
        by_cases hlt3 : k < cs.length
        · have hlt4 : (k : Int) < (cs.length : Int) := by omega
          have R2 := H2.out.next hbel2
          obtain ⟨x0, x1, x2, x3, x4, x5, x6, x7, x8, x9⟩ := R2.cells k hlt3
          have hg2 := R2.lt
          have hsk := HS2.out cs[k] (List.getElem_mem _)
          rw [lstB_step cs k hlt3] at hrk
          have HAN : Hid (∀ j (h : j < cs.length), j < k → sameD cs[j] cs[k] = true → (cs.take k).any (fun y => sameD y cs[k]) = true) := fun j hj hjk h => any_at cs (fun y => sameD y cs[k]) k j hj hjk h
          have HTN : Hid (∀ j (h : j < cs.length), (∀ v ∈ cs.take j, sameD v cs[k] = false) → sameD cs[j] cs[k] = false → ∀ v ∈ cs.take (j + 1), sameD v cs[k] = false) := fun j hj h1 h2 => take_next cs (fun y => sameD y cs[k]) j hj h1 h2
          obtain ⟨x, hx⟩ : ∃ x, x = cs[k] := ⟨_, rfl⟩
          rw [← hx] at x0 x1 x2 x3 x4 x5 x6 x7 x8 x9 hsk hrk HAN HTN
          have HC : Hid (Calls _ _ _ _ _) := l09Change_any x wr hsk
          have HRK : Hid (R = _) := hrk
          clear hsk hrk R2
          cases hP : okCg x
          · rw [hP] at HC HRK
            have HF : Hid (R = false) := by show R = false; rw [HRK.out]; rfl
            clear hP hx HAN HTN
            go_wp2_with fail
            refine HC.out.mono ?_
            rintro e w1 ⟨rfl, hb⟩
            have hb1 := hbel2.trans (hb.mono hbel2.size)
            clear hb
            go_wp2_with fail
            go_ret
            exact ⟨by rw [HF.out]; rfl, hb1⟩
          · rw [hP] at HC HRK
            rw [Bool.true_and] at HRK
            have HX : Hid (x = cs[k]) := hx
            clear hP hx
            go_wp2_with fail
            refine HC.out.mono ?_
            rintro e w1 ⟨rfl, hb⟩
            have hb1 := hbel2.trans (hb.mono hbel2.size)
            clear hb HC hbel2 x0 x1 x2 x3 x4 x5 x6 x7 x8 x9 hg2
            go_wp2_with fail
            go_loopw [7] (fun i wp => ∃ j : Nat, j ≤ k ∧ i = .int .i64 j ∧ (∀ v ∈ cs.take j, sameD v x = false) ∧ Below w.heap.size w wp) (fun i _ => k - (intOf i).toNat)
            case atStart => exact ⟨0, Nat.zero_le _, rfl, (fun v hv => by simp at hv), hb1⟩
            case round =>
              obtain ⟨j, hj, rfl, hno, hbel3⟩ := hrel
              have HNO : Hid (∀ v ∈ cs.take j, sameD v x = false) := hno
              clear hno
              by_cases hjk : j < k
              · have hjk2 : (j : Int) < (k : Int) := by omega
                have hjn : j < cs.length := by omega
                have hjn2 : (j : Int) < (cs.length : Int) := by omega
                have R3 := H2.out.next hbel3
                obtain ⟨y0, y1, _⟩ := R3.cells j hjn
                obtain ⟨z0, z1, _⟩ := R3.cells k hlt3
                have hg3 := R3.lt
                rw [← HX.out] at z0 z1
                have HNX : Hid (sameD cs[j] x = false → ∀ v ∈ cs.take (j + 1), sameD v x = false) := fun h => HTN.out j hjn HNO.out h
                have HYX : Hid (sameD cs[j] x = true → (cs.take k).any (fun y => sameD y x) = true) := fun h => HAN.out j hjn hjk h
                obtain ⟨y, hy⟩ : ∃ y, y = cs[j] := ⟨_, rfl⟩
                rw [← hy] at y0 y1 HNX HYX
                have hsd : sameD y x = ((y.wr.coll.toList == x.wr.coll.toList) && decide (y.wr.id = x.wr.id)) := rfl
                clear R3 hy
                cases e1 : (y.wr.coll.toList == x.wr.coll.toList)
                · have HN2 : Hid (∀ v ∈ cs.take (j + 1), sameD v x = false) := HNX.out (by rw [hsd, e1]; rfl)
                  clear hsd HNX HYX
                  go_wp2_with fail
                  go_quiet (fail)
                  go_wp2_with fail
                  go_roundw
                  case rel => exact ⟨j + 1, by omega, by go_num, HN2.out, below_drewN hbel3 _⟩
                  case measure => simp [intOf]; omega
                · by_cases e2 : y.wr.id = x.wr.id
                  · have HF : Hid (R = false) := by
                      show R = false
                      rw [HRK.out, HYX.out (by rw [hsd, e1, decide_eq_true e2]; rfl)]; rfl
                    have e3 : (y.wr.id == x.wr.id) = true := by simp [e2]
                    clear hsd HNX HYX
                    go_wp2_with fail
                    go_quiet (fail)
                    go_wp2_with fail
                    go_ret
                    exact ⟨by rw [HF.out]; rfl, below_drewN hbel3 _⟩
                  · have HN2 : Hid (∀ v ∈ cs.take (j + 1), sameD v x = false) := HNX.out (by rw [hsd, e1, decide_eq_false e2]; rfl)
                    have e3 : (y.wr.id == x.wr.id) = false := beq_eq_false_iff_ne.mpr e2
                    clear hsd HNX HYX
                    go_wp2_with fail
                    go_quiet (fail)
                    go_wp2_with fail
                    go_roundw
                    case rel => exact ⟨j + 1, by omega, by go_num, HN2.out, below_drewN hbel3 _⟩
                    case measure => simp [intOf]; omega
              · have hjk2 : ¬ (j : Int) < (k : Int) := by omega
                obtain rfl : j = k := by omega
                have HF : Hid (R = (lstB (cs.take (j + 1)) (cs.drop (j + 1)) && C)) := by
                  show R = _
                  have hno : (cs.take j).any (fun y => sameD y x) = false := by
                    rw [Bool.eq_false_iff]; intro hh
                    obtain ⟨v, hv, hv2⟩ := List.any_eq_true.1 hh
                    rw [HNO.out v hv] at hv2; cases hv2
                  rw [HRK.out, hno]; rfl
                go_wp2_with fail
                go_roundw
                case rel => exact ⟨j + 1, by omega, by go_num, HF.out, hbel3⟩
                case measure => simp [intOf]; omega
        · have hlt4 : ¬ (k : Int) < (cs.length : Int) := by omega
          rw [lstB_end cs k (by omega), Bool.true_and, HC0.out] at hrk
          have HF : Hid (R = _) := hrk
          clear hrk HC0
          by_cases h20 : rs.length ≤ 20
          · have h20' : (rs.length : Int) ≤ 20 := by omega
            by_cases h60 : cs.length ≤ 60
            · have h60' : (cs.length : Int) ≤ 60 := by omega
              go_wp2_with fail
              go_ret
              exact ⟨by rw [HF.out, decide_eq_true h20, decide_eq_true h60]; rfl, hbel2⟩
            · have h60' : ¬ (cs.length : Int) ≤ 60 := by omega
              go_wp2_with fail
              go_ret
              exact ⟨by rw [HF.out, decide_eq_true h20, decide_eq_false h60]; rfl, hbel2⟩
          · have h20' : ¬ (rs.length : Int) ≤ 20 := by omega
            go_wp2_with fail
            go_ret
            exact ⟨by rw [HF.out, decide_eq_false h20]; rfl, hbel2⟩

end Go.Proofs.YtcggkeleaepebaaGreatDoor.Ce

/- Whether reads are right: ContainsFunc over them; whether reads and changes are; whether two changes are of one document. -/
namespace Go.Proofs.YtcggkeleaepebaaGreatDoor.Rea
open Go.RowKit
set_option linter.unusedVariables false

set_option maxRecDepth 4000 in
set_option maxHeartbeats 1000000 in
theorem isWrongRead_any (x : Rdg) (p : Option Addr) (cap : Nat) (w : World) (hr : RowC w p x.f) (hs : szRd x) :
    Calls Tryz.prog 77 #[.agg #[.string x.coll, .slice p x.f.length cap]] w fun e w' => e = .returned (.bool (!(okR x))) ∧ Below w.heap.size w w' := by
  have hb0 : Below w.heap.size w (w.alloc (.cells #[.string x.coll, .slice p x.f.length cap] 80)) := (Below.refl _ _).alloc (Nat.le_refl _) _
  have HW : Hid (Calls _ _ _ _ _) := readOK_any x.coll p cap x.f (w.alloc (.cells #[.string x.coll, .slice p x.f.length cap] 80)) (hr.next hb0) hs
  have ho : readB x.coll x.f = okR x := rfl
  rw [ho] at HW
  clear hs hr ho
  go_enter Tryz.func77, Tryz.ntmps77
  go_wp2_with fail
  refine HW.out.mono ?_
  rintro e w1 ⟨rfl, hb⟩
  have hb1 := hb0.trans (hb.mono hb0.size)
  clear hb
  go_wp2_with fail
  go_ret
  exact ⟨rfl, hb1⟩

set_option maxRecDepth 4000 in
set_option maxHeartbeats 1000000 in
theorem idxWrongRd_any (g qc bs : Nat) (l : List Rdg) (w : World) (hr : MadeRd w bs g l) (hl : l.length ≤ 1048576) (hs : ∀ v ∈ l, szRd v) :
    Calls Tryz.prog 100 #[.slice (some ⟨g, 0, none⟩) l.length qc, .func (.func 77) #[] #[]] w fun e w' => (∃ i : Int, e = .returned (.int .i64 i) ∧ decide (0 ≤ i) = !(l.all okR)) ∧ Below w.heap.size w w' := by
  have HR : Hid (MadeRd _ _ _ _) := hr
  have HS : Hid _ := hs
  clear hr hs
  go_enter Tryz.func100, Tryz.ntmps100
  go_wp2_with fail
  go_loopw [8] (fun i wr => ∃ k : Nat, k ≤ l.length ∧ i = .int .i64 k ∧ (∀ u ∈ l.take k, okR u = true) ∧ Below w.heap.size w wr) (fun i _ => l.length - (intOf i).toNat)
  case atStart => exact ⟨0, Nat.zero_le _, rfl, fun u hu => by simp at hu, Below.refl _ _⟩
  case round =>
    obtain ⟨k, hk, rfl, hall, hbel⟩ := hrel
    have HA : Hid _ := hall
    clear hall
    by_cases hlt : k < l.length
    · have R := HR.out.next hbel
      have hg1 := R.lt
      obtain ⟨x0, gk, x1, xr⟩ := R.cells k hlt
      have hlt2 : (k : Int) < (l.length : Int) := by omega
      have HK0 : ∀ W : World, Below wr.heap.size wr W → Calls Tryz.prog 77 #[.agg #[.string l[k].coll, .slice (some ⟨gk, 0, none⟩) l[k].f.length l[k].f.length]] W fun e w' => e = .returned (.bool (!(okR l[k]))) ∧ Below W.heap.size W w' := fun W hW => isWrongRead_any l[k] (some ⟨gk, 0, none⟩) l[k].f.length W (.inr ⟨gk, rfl, xr.read.next hW⟩) (HS.out l[k] (List.getElem_mem _))
      cases hP : okR l[k]
      · rw [hP] at HK0
        have HK : Hid _ := HK0
        have hal : l.all okR = false := by
          rw [Bool.eq_false_iff]; intro hh
          have := List.all_eq_true.mp hh l[k] (List.getElem_mem _)
          rw [hP] at this; cases this
        have HL : Hid _ := hal
        clear R xr hP HK0 hal
        go_wp2_with fail
        refine (HK.out _ (Below.refl _ _)).mono ?_
        rintro e w1 ⟨rfl, hb⟩
        have hb1 := hbel.trans (hb.mono hbel.size)
        clear hb
        go_wp2_with fail
        go_ret
        exact ⟨⟨k, rfl, by rw [HL.out]; exact decide_eq_true (by omega)⟩, hb1⟩
      · rw [hP] at HK0
        have HK : Hid _ := HK0
        have HPK : Hid _ := hP
        clear R xr hP HK0
        go_wp2_with fail
        refine (HK.out _ (Below.refl _ _)).mono ?_
        rintro e w1 ⟨rfl, hb⟩
        have hb1 := hbel.trans (hb.mono hbel.size)
        clear hb
        go_wp2_with fail
        go_roundw
        case rel =>
          refine ⟨k + 1, by omega, by go_num, ?_, hb1⟩
          intro u hu
          rw [List.take_succ_eq_append_getElem hlt] at hu
          rcases List.mem_append.mp hu with h | h
          · exact HA.out u h
          · simp at h; subst h; exact HPK.out
        case measure => simp [intOf]; omega
    · have hlt2 : ¬ (k : Int) < (l.length : Int) := by omega
      have hal : l.all okR = true := List.all_eq_true.mpr (fun u hu => HA.out u (by rw [List.take_of_length_le (by omega)]; exact hu))
      have HL : Hid _ := hal
      clear hal
      go_wp2_with fail
      go_ret
      exact ⟨⟨-1, rfl, by rw [HL.out]; rfl⟩, hbel⟩
set_option maxRecDepth 4000 in
set_option maxHeartbeats 1000000 in
theorem anyWrongRd_any (g qc bs : Nat) (l : List Rdg) (w : World) (hr : MadeRd w bs g l) (hl : l.length ≤ 1048576) (hs : ∀ v ∈ l, szRd v) :
    Calls Tryz.prog 76 #[.slice (some ⟨g, 0, none⟩) l.length qc, .func (.func 77) #[] #[]] w fun e w' => e = .returned (.bool (!(l.all okR))) ∧ Below w.heap.size w w' := by
  have HI : Hid (Calls _ _ _ _ _) := idxWrongRd_any g qc bs l w hr hl hs
  clear hr hs
  go_enter Tryz.func76, Tryz.ntmps76
  go_wp2_with fail
  refine HI.out.mono ?_
  rintro e w1 ⟨⟨i, rfl, hi⟩, hb⟩
  have HJ : Hid _ := hi
  clear hi HI
  go_wp2_with fail
  go_ret
  exact ⟨ret_bool HJ.out, hb⟩


end Go.Proofs.YtcggkeleaepebaaGreatDoor.Rea
namespace Go.Proofs.YtcggkeleaepebaaGreatDoor.Ce
open Go.RowKit Tr Co Rea
set_option linter.unusedVariables false

set_option maxRecDepth 4000 in
set_option maxHeartbeats 1000000 in
theorem areRight_any (g1 g2 c1 c2 b1 : Nat) (rs : List Rdg) (cs : List Cgr) (w : World) (h1 : MadeRd w b1 g1 rs) (h2 : ReadCg w g2 cs) (hl1 : rs.length ≤ 1048576) (hl2 : cs.length ≤ 1048576) (hs1 : ∀ v ∈ rs, szRd v) (hs2 : ∀ v ∈ cs, szCg v) :
    Calls Tryz.prog 52 #[.slice (some ⟨g1, 0, none⟩) rs.length c1, .slice (some ⟨g2, 0, none⟩) cs.length c2] w fun e w' => e = .returned (.bool (rs.all okR && cs.all okCg)) ∧ Below w.heap.size w w' := by
  have HA : Hid (Calls _ _ _ _ _) := anyWrongRd_any g1 c1 b1 rs w h1 hl1 hs1
  have HB : Hid (∀ W : World, Below w.heap.size w W → Calls _ _ _ W _) := fun W hW => anyWrongCg_any (some ⟨g2, 0, none⟩) c2 cs W (.inr ⟨g2, rfl, h2.next hW⟩) hl2 hs2
  clear h1 h2 hs1 hs2
  cases hP : rs.all okR
  · rw [hP] at HA
    clear HB hP
    go_enter Tryz.func52, Tryz.ntmps52
    go_wp2_with fail
    refine HA.out.mono ?_
    rintro e w1 ⟨rfl, hb⟩
    go_wp2_with fail
    go_ret
    exact ⟨rfl, hb⟩
  · rw [hP] at HA
    clear hP
    obtain ⟨R, hR⟩ : ∃ R, R = cs.all okCg := ⟨_, rfl⟩
    rw [← hR] at HB ⊢
    clear hR
    go_enter Tryz.func52, Tryz.ntmps52
    go_wp2_with fail
    refine HA.out.mono ?_
    rintro e w1 ⟨rfl, hb⟩
    go_wp2_with fail
    refine (HB.out _ hb).mono ?_
    rintro e w2 ⟨rfl, hb2⟩
    have hb3 := hb.trans (hb2.mono hb.size)
    clear hb2
    go_wp2_with fail
    go_ret
    exact ⟨ret_bool (by simp), hb3⟩

end Go.Proofs.YtcggkeleaepebaaGreatDoor.Ce

/- Whether two changes are of one document; the maker of the pairs; the specification's answer on whether a committed one is right. -/
namespace Go.Proofs.YtcggkeleaepebaaGreatDoor.Ce
open Go.RowKit Tr Co Rea
set_option linter.unusedVariables false

set_option maxRecDepth 4000 in
set_option maxHeartbeats 2000000 in
theorem sameDoc_any (x y : Cgr) (w : World) :
    Calls Tryz.prog 81 #[.agg #[.string x.wr.coll, .int .i64 x.wr.id, .bool x.wr.gone, .int .i64 x.wr.doc.k, .int .i64 x.wr.doc.n, .string x.wr.doc.t, .int .i64 x.bef.k, .int .i64 x.bef.n, .string x.bef.t, .bool x.was], .agg #[.string y.wr.coll, .int .i64 y.wr.id, .bool y.wr.gone, .int .i64 y.wr.doc.k, .int .i64 y.wr.doc.n, .string y.wr.doc.t, .int .i64 y.bef.k, .int .i64 y.bef.n, .string y.bef.t, .bool y.was]] w fun e w' => e = .returned (.bool (sameD x y)) ∧ Below w.heap.size w w' := by
  have hb0 : Below w.heap.size w ((w.alloc (.cells #[.string x.wr.coll, .int .i64 x.wr.id, .bool x.wr.gone, .int .i64 x.wr.doc.k, .int .i64 x.wr.doc.n, .string x.wr.doc.t, .int .i64 x.bef.k, .int .i64 x.bef.n, .string x.bef.t, .bool x.was] 86)).alloc (.cells #[.string y.wr.coll, .int .i64 y.wr.id, .bool y.wr.gone, .int .i64 y.wr.doc.k, .int .i64 y.wr.doc.n, .string y.wr.doc.t, .int .i64 y.bef.k, .int .i64 y.bef.n, .string y.bef.t, .bool y.was] 86)) := ((Below.refl _ _).alloc (Nat.le_refl _) _).alloc (by simp) _
  have hsd : sameD x y = ((x.wr.coll.toList == y.wr.coll.toList) && decide (x.wr.id = y.wr.id)) := rfl
  rw [hsd]
  clear hsd
  cases e1 : (x.wr.coll.toList == y.wr.coll.toList)
  · go_enter Tryz.func81, Tryz.ntmps81
    go_wp2_with fail
    go_ret
    exact ⟨rfl, hb0⟩
  · by_cases e2 : x.wr.id = y.wr.id
    · have e3 : (x.wr.id == y.wr.id) = true := by simp [e2]
      rw [decide_eq_true e2]
      clear e2
      go_enter Tryz.func81, Tryz.ntmps81
      go_wp2_with fail
      go_ret
      exact ⟨ret_bool (by simp), hb0⟩
    · have e3 : (x.wr.id == y.wr.id) = false := beq_eq_false_iff_ne.mpr e2
      rw [decide_eq_false e2]
      clear e2
      go_enter Tryz.func81, Tryz.ntmps81
      go_wp2_with fail
      go_ret
      exact ⟨ret_bool (by simp), hb0⟩

/-- Whether a committed one is right. -/
def doneB (sn at_ : Int) (rs : List Rdg) (cs : List Cgr) : Bool := decide (0 ≤ sn ∧ sn ≤ 10000) && (decide (sn + 1 ≤ at_ ∧ at_ ≤ 10000) && listsB rs cs)
set_option maxRecDepth 4000 in
set_option maxHeartbeats 2000000 in
theorem specDone_any (sn at_ : Int) (g1 g2 c1 c2 b1 : Nat) (di do_ : Bool) (rs : List Rdg) (cs : List Cgr) (w : World) (h1 : MadeRd w b1 g1 rs) (h2 : ReadCg w g2 cs) (hl1 : rs.length ≤ 1048576) (hl2 : cs.length ≤ 1048576) (hs1 : ∀ v ∈ rs, szRd v) (hs2 : ∀ v ∈ cs, szCg v) :
    Calls Tryz.prog 21 #[.agg #[.int .i64 sn, .int .i64 at_, .slice (some ⟨g1, 0, none⟩) rs.length c1, .slice (some ⟨g2, 0, none⟩) cs.length c2, .bool di, .bool do_]] w fun e w' => e = .returned (.bool (doneB sn at_ rs cs)) ∧ Below w.heap.size w w' := by
  have hb0 : Below w.heap.size w (w.alloc (.cells #[.int .i64 sn, .int .i64 at_, .slice (some ⟨g1, 0, none⟩) rs.length c1, .slice (some ⟨g2, 0, none⟩) cs.length c2, .bool di, .bool do_] 36)) := (Below.refl _ _).alloc (Nat.le_refl _) _
  have HL : Hid (Calls _ _ _ _ _) := l09Lists_any g1 g2 c1 c2 b1 rs cs (w.alloc (.cells #[.int .i64 sn, .int .i64 at_, .slice (some ⟨g1, 0, none⟩) rs.length c1, .slice (some ⟨g2, 0, none⟩) cs.length c2, .bool di, .bool do_] 36)) (h1.next hb0) (h2.next hb0) hl1 hl2 hs1 hs2
  clear h1 h2 hs1 hs2
  unfold doneB
  by_cases hA : 0 ≤ sn ∧ sn ≤ 10000
  · have HA : Hid (∀ W : World, Calls _ _ _ W _) := fun W => l01In_any sn 0 10000 W
    rw [decide_eq_true hA] at HA ⊢
    have hlo := hA.1
    have hhi := hA.2
    by_cases hB : sn + 1 ≤ at_ ∧ at_ ≤ 10000
    · have HB : Hid (∀ W : World, Calls _ _ _ W _) := fun W => l01In_any at_ (sn + 1) 10000 W
      rw [decide_eq_true hB] at HB ⊢
      obtain ⟨R, hR⟩ : ∃ R, R = listsB rs cs := ⟨_, rfl⟩
      rw [← hR] at HL ⊢
      clear hR hA hB
      go_enter Tryz.func21, Tryz.ntmps21
      go_wp2_with fail
      refine (HA.out _).mono ?_
      rintro e w1 ⟨rfl, rfl⟩
      go_wp2_with fail
      refine (HB.out _).mono ?_
      rintro e w1 ⟨rfl, rfl⟩
      go_wp2_with fail
      refine HL.out.mono ?_
      rintro e w1 ⟨rfl, hb⟩
      have hbw := hb0.trans (hb.mono hb0.size)
      clear hb
      go_wp2_with fail
      go_ret
      exact ⟨ret_bool (by simp), hbw⟩
    · have HB : Hid (∀ W : World, Calls _ _ _ W _) := fun W => l01In_any at_ (sn + 1) 10000 W
      rw [decide_eq_false hB] at HB ⊢
      clear hA hB HL
      go_enter Tryz.func21, Tryz.ntmps21
      go_wp2_with fail
      refine (HA.out _).mono ?_
      rintro e w1 ⟨rfl, rfl⟩
      go_wp2_with fail
      refine (HB.out _).mono ?_
      rintro e w1 ⟨rfl, rfl⟩
      go_wp2_with fail
      go_ret
      exact ⟨rfl, hb0⟩
  · have HA : Hid (∀ W : World, Calls _ _ _ W _) := fun W => l01In_any sn 0 10000 W
    rw [decide_eq_false hA] at HA ⊢
    clear hA HL
    go_enter Tryz.func21, Tryz.ntmps21
    go_wp2_with fail
    refine (HA.out _).mono ?_
    rintro e w1 ⟨rfl, rfl⟩
    go_wp2_with fail
    go_ret
    exact ⟨rfl, hb0⟩

end Go.Proofs.YtcggkeleaepebaaGreatDoor.Ce
