/- What the laws' own helpers on rows of values answer. -/
import Derived.Test.YtcggkeleaepebaaGreatDoorLawB
import Derived.Test.YtcggkeleaepebaaGreatDoorLawVal
import Derived.Test.YtcggkeleaepebaaGreatDoorUnder
namespace Go.Proofs.YtcggkeleaepebaaGreatDoor
open Go.RowKit
set_option linter.unusedVariables false

/-- A row of values that stands at a block's head. -/
structure ReadV (w : World) (g : Nat) (l : List Val) : Prop where
  lt : g < w.heap.size
  cells : ∀ i (h : i < l.length), w.cell? ⟨g, i * 3, none⟩ = some (.int .i64 l[i].k) ∧ w.cell? ⟨g, i * 3 + 1, none⟩ = some (.int .i64 l[i].n) ∧ w.cell? ⟨g, i * 3 + 2, none⟩ = some (.string l[i].t)
theorem ReadV.step {w w' : World} {g base : Nat} {l : List Val} (h : ReadV w g l) (hb : Below base w w') (hg : g < base) : ReadV w' g l :=
  ⟨Nat.lt_of_lt_of_le h.lt hb.size, fun i hi => ⟨(hb.cell hg).trans (h.cells i hi).1, (hb.cell hg).trans (h.cells i hi).2.1, (hb.cell hg).trans (h.cells i hi).2.2⟩⟩
theorem ReadV.next {w w' : World} {g : Nat} {l : List Val} (h : ReadV w g l) (hb : Below w.heap.size w w') : ReadV w' g l := h.step hb h.lt
theorem ReadV.of_own {w : World} {base g cap : Nat} {l : List Val} (h : w.ownsRow base 82 3 (.slice (some ⟨g, 0, none⟩) l.length cap) l.length (flat l)) : ReadV w g l :=
  ⟨(h.lt g rfl).2, fun i hi => ⟨owns_cell h _ _ (flat_get l i hi).1, owns_cell h _ _ (flat_get l i hi).2.1, owns_cell h _ _ (flat_get l i hi).2.2⟩⟩
/-- Values that came in. -/
def InV (w : World) (a : Option Addr) (l : List Val) : Prop := l.length = 0 ∨ ∃ b off, a = some ⟨b, off, none⟩ ∧ b < w.heap.size ∧ ∀ i (h : i < l.length), w.cell? ⟨b, off + i * 3, none⟩ = some (.int .i64 l[i].k) ∧ w.cell? ⟨b, off + i * 3 + 1, none⟩ = some (.int .i64 l[i].n) ∧ w.cell? ⟨b, off + i * 3 + 2, none⟩ = some (.string l[i].t)
theorem InV.step {w w' : World} {a : Option Addr} {l : List Val} (h : InV w a l) (hb : Below w.heap.size w w') : InV w' a l := by
  rcases h with h | ⟨b, off, ha, hlt, hc⟩
  · exact .inl h
  · exact .inr ⟨b, off, ha, Nat.lt_of_lt_of_le hlt hb.size, fun i hi => ⟨(hb.cell hlt).trans (hc i hi).1, (hb.cell hlt).trans (hc i hi).2.1, (hb.cell hlt).trans (hc i hi).2.2⟩⟩

/-- Block number w.heap.size of W holds three cells that may be written, and all that lay in w lies in W as it did. -/
structure Res3 (w W : World) (a b c : Value) : Prop where
  bel : Below w.heap.size w W
  lt : w.heap.size < W.heap.size
  c0 : W.cell? ⟨w.heap.size, 0, none⟩ = some a
  c1 : W.cell? ⟨w.heap.size, 1, none⟩ = some b
  c2 : W.cell? ⟨w.heap.size, 2, none⟩ = some c
  z0 : W.frozen? ⟨w.heap.size, 0, none⟩ = false
  z1 : W.frozen? ⟨w.heap.size, 1, none⟩ = false
  z2 : W.frozen? ⟨w.heap.size, 2, none⟩ = false
theorem Res3.start (w : World) (a b c : Value) (T : TypeId) : Res3 w (w.alloc (.cells #[a, b, c] T)) a b c :=
  ⟨(Below.refl _ _).alloc (Nat.le_refl _) _, by simp, by simp [go_sem], by simp [go_sem], by simp [go_sem], by simp [go_sem], by simp [go_sem], by simp [go_sem]⟩
theorem Res3.step {w W W' : World} {a b c : Value} (h : Res3 w W a b c) (hb : Below W.heap.size W W') : Res3 w W' a b c :=
  ⟨h.bel.trans (hb.mono h.bel.size), Nat.lt_of_lt_of_le h.lt hb.size, (hb.cell h.lt).trans h.c0, (hb.cell h.lt).trans h.c1, (hb.cell h.lt).trans h.c2, (hb.frozen h.lt).trans h.z0, (hb.frozen h.lt).trans h.z1, (hb.frozen h.lt).trans h.z2⟩
def zv : Val := ⟨0, 0, em⟩
/-- The first k values, and zero ones behind them. -/
def mixV (l : List Val) (k : Nat) : List Val := l.take k ++ List.replicate (l.length - k) zv
theorem mixV_len (l : List Val) (k : Nat) (h : k ≤ l.length) : (mixV l k).length = l.length := by unfold mixV; simp; omega
theorem mixV_full (l : List Val) (k : Nat) (h : l.length ≤ k) : mixV l k = l := by
  unfold mixV; rw [List.take_of_length_le h, Nat.sub_eq_zero_of_le h]; simp
theorem mixV_set (l : List Val) (k : Nat) (h : k < l.length) : (mixV l k).set k l[k] = mixV l (k + 1) := by
  unfold mixV
  have hl : (l.take k).length = k := by simp; omega
  rw [List.take_succ_eq_append_getElem h, List.append_assoc, List.set_append_right _ _ (by omega)]
  congr 1
  rw [hl, Nat.sub_self]
  obtain ⟨m, hm⟩ : ∃ m, l.length - k = m + 1 := ⟨l.length - k - 1, by omega⟩
  rw [hm, List.replicate_succ, show l.length - (k + 1) = m by omega]
  rfl
theorem flat_cons (v : Val) (l : List Val) : flat (v :: l) = .int .i64 v.k :: .int .i64 v.n :: .string v.t :: flat l := rfl
theorem flat_set : ∀ (l : List Val) (k : Nat) (v : Val), k < l.length → (((flat l).set (k * 3) (.int .i64 v.k)).set (k * 3 + 1) (.int .i64 v.n)).set (k * 3 + 2) (.string v.t) = flat (l.set k v)
  | [], k, v, h => by simp at h
  | u :: l, 0, v, _ => rfl
  | u :: l, k + 1, v, h => by
    rw [List.set_cons_succ, flat_cons, flat_cons, ← flat_set l k v (by simpa using h)]
    rw [show (k + 1) * 3 = k * 3 + 1 + 1 + 1 by omega]
    rfl
theorem flat_len (l : List Val) : (flat l).length = l.length * 3 := by
  induction l with
  | nil => rfl
  | cons v l ih => rw [flat_cons]; simp [ih]; omega
theorem made_zero (n : Nat) : (madeCells (Value.agg #[.int .i64 0, .int .i64 0, .string em]).cells (n * 3)).toList = flat (List.replicate n zv) := by
  apply List.ext_getElem?
  intro j
  by_cases hj : j < n * 3
  · have hg := flat_get (List.replicate n zv) (j / 3) (by simp; omega)
    simp only [List.getElem_replicate] at hg
    have hc : (Value.agg #[.int .i64 0, .int .i64 0, .string em]).cells = #[.int .i64 0, .int .i64 0, .string em] := by rfl
    rw [hc]
    have h3 : j % 3 = 0 ∨ j % 3 = 1 ∨ j % 3 = 2 := by omega
    rcases h3 with h3 | h3 | h3
    · have e : j = j / 3 * 3 := by omega
      rw [show (flat (List.replicate n zv))[j]? = (flat (List.replicate n zv))[j / 3 * 3]? by rw [← e], hg.1]
      simp [madeCells, hj, h3, zv]
    · have e : j = j / 3 * 3 + 1 := by omega
      rw [show (flat (List.replicate n zv))[j]? = (flat (List.replicate n zv))[j / 3 * 3 + 1]? by rw [← e], hg.2.1]
      simp [madeCells, hj, h3, zv]
    · have e : j = j / 3 * 3 + 2 := by omega
      rw [show (flat (List.replicate n zv))[j]? = (flat (List.replicate n zv))[j / 3 * 3 + 2]? by rw [← e], hg.2.2]
      simp [madeCells, hj, h3, zv]
  · rw [List.getElem?_eq_none (by simp [madeCells]; omega), List.getElem?_eq_none (by rw [flat_len]; simp; omega)]

theorem take_all (p : Val → Prop) (l : List Val) (k : Nat) (h : k < l.length) (h1 : ∀ v ∈ l.take k, p v) (h2 : p l[k]) : ∀ v ∈ l.take (k + 1), p v := by
  intro v hv
  rw [List.take_succ_eq_append_getElem h] at hv
  rcases List.mem_append.mp hv with hv | hv
  · exact h1 v hv
  · rw [List.mem_singleton.mp hv]; exact h2

end Go.Proofs.YtcggkeleaepebaaGreatDoor
