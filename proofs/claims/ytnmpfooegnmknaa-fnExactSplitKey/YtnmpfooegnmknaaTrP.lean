/- Rows of pages, and trees: what the laws' own helpers on them answer. -/
import Derived.Test.YtnmpfooegnmknaaTrE
namespace Go.Proofs.Ytnmpfooegnmknaa.Tr
open Go.RowKit
set_option linter.unusedVariables false

theorem infoP : (Try.prog.info? 86).map (fun i => (i.zero, i.size, i.bytes)) = some (some (.agg #[.int .i64 0, .slice none 0 0]), 2, 32) := by kernel_rfl
/-- A row of pages that stands at a block's head. -/
structure ReadP (w : World) (g : Nat) (f : List Pg) : Prop where
  lt : g < w.heap.size
  cells : ∀ i (h : i < f.length), w.cell? ⟨g, i * 2, none⟩ = some (.int .i64 f[i].num) ∧ ∃ p cap, w.cell? ⟨g, i * 2 + 1, none⟩ = some (.slice p f[i].es.length cap) ∧ InE w p f[i].es
theorem ReadP.next {w w' : World} {g : Nat} {f : List Pg} (h : ReadP w g f) (hb : Below w.heap.size w w') : ReadP w' g f :=
  ⟨Nat.lt_of_lt_of_le h.lt hb.size, fun i hi => by
    obtain ⟨h0, p, cap, hc, hr⟩ := h.cells i hi
    exact ⟨(hb.cell h.lt).trans h0, p, cap, (hb.cell h.lt).trans hc, hr.step hb⟩⟩
/-- A row of pages, a nil one too. -/
def RowP (w : World) (p : Option Addr) (f : List Pg) : Prop := f = [] ∨ ∃ g, p = some ⟨g, 0, none⟩ ∧ ReadP w g f
theorem RowP.next {w w' : World} {p : Option Addr} {f : List Pg} (h : RowP w p f) (hb : Below w.heap.size w w') : RowP w' p f := by
  rcases h with h | ⟨g, hp, hr⟩
  · exact .inl h
  · exact .inr ⟨g, hp, hr.next hb⟩
/-- Pages that came in. -/
def InP (w : World) (a : Option Addr) (f : List Pg) : Prop := f.length = 0 ∨ ∃ b off, a = some ⟨b, off, none⟩ ∧ b < w.heap.size ∧ ∀ i (h : i < f.length), w.cell? ⟨b, off + i * 2, none⟩ = some (.int .i64 f[i].num) ∧ ∃ p cap, w.cell? ⟨b, off + i * 2 + 1, none⟩ = some (.slice p f[i].es.length cap) ∧ InE w p f[i].es
theorem InP.step {w w' : World} {a : Option Addr} {f : List Pg} (h : InP w a f) (hb : Below w.heap.size w w') : InP w' a f := by
  rcases h with h | ⟨b, off, ha, hlt, hc⟩
  · exact .inl h
  · exact .inr ⟨b, off, ha, Nat.lt_of_lt_of_le hlt hb.size, fun i hi => by
      obtain ⟨h0, p, cap, h1, h2⟩ := hc i hi
      exact ⟨(hb.cell hlt).trans h0, p, cap, (hb.cell hlt).trans h1, h2.step hb⟩⟩
def szP (p : Pg) : Prop := p.es.length ≤ 1048576 ∧ ∀ v ∈ p.es, szE v
def maxP (p : Pg) : Prop := p.es.length ≤ maxLen ∧ ∀ v ∈ p.es, maxE v
theorem take_allP (p : Pg → Prop) (l : List Pg) (k : Nat) (h : k < l.length) (h1 : ∀ v ∈ l.take k, p v) (h2 : p l[k]) : ∀ v ∈ l.take (k + 1), p v := by
  intro v hv
  rw [List.take_succ_eq_append_getElem h] at hv
  rcases List.mem_append.mp hv with hv | hv
  · exact h1 v hv
  · rw [List.mem_singleton.mp hv]; exact h2

/-- The first k of a row of n pages, owned with all their entries, from block number base on; no two of these rows lie in one block. -/
structure PartT (w : World) (base : Nat) (v : Value) (n : Nat) (f : List Pg) (k : Nat) (vs : Nat → Value) (xs : List Value) : Prop where
  row : w.ownsRow base 86 2 v n xs
  at_ : ∀ i (h : i < f.length), i < k → xs[i * 2]? = some (.int .i64 f[i].num) ∧ xs[i * 2 + 1]? = some (vs i)
  ents : ∀ i (h : i < f.length), i < k → OwnE w base (vs i) f[i].es
  apart : ∀ i j, i < f.length → j < f.length → i < k → j < k → i ≠ j → (vs i).ownBlock = none ∨ (vs i).ownBlock ≠ (vs j).ownBlock
  aside : ∀ i, i < f.length → i < k → (vs i).ownBlock = none ∨ (vs i).ownBlock ≠ v.ownBlock
theorem PartT.next {w w' : World} {base : Nat} {v : Value} {n : Nat} {f : List Pg} {k : Nat} {vs : Nat → Value} {xs : List Value} (h : PartT w base v n f k vs xs) (hb : Below w.heap.size w w') : PartT w' base v n f k vs xs :=
  ⟨owns_below h.row hb, h.at_, fun i hi hk => owns_below (h.ents i hi hk) hb, h.apart, h.aside⟩
theorem PartT.grown {w w' : World} {base : Nat} {v : Value} {n : Nat} {f : List Pg} {k : Nat} {vs : Nat → Value} {xs : List Value} {b : Nat} (h : PartT w base v n f k vs xs) (hg : w.grownBy w' (some b)) (hb : b < base) : PartT w' base v n f k vs xs := by
  have hne : ∀ {T : TypeId} {s : Nat} {u : Value} {m : Nat} {ys : List Value}, w.ownsRow base T s u m ys → u.ownBlock = none ∨ u.ownBlock ≠ some b := by
    intro T s u m ys ho
    cases hu : u.ownBlock with
    | none => exact .inl rfl
    | some q => exact .inr (fun e => by injection e with e; have := (ho.lt q hu).1; omega)
  exact ⟨h.row.kept hg (hne h.row), h.at_, fun i hi hk => World.ownsRow.kept (h.ents i hi hk) hg (hne (h.ents i hi hk)), h.apart, h.aside⟩
theorem PartT.store {w : World} {base g cap n : Nat} {f : List Pg} {k : Nat} {vs : Nat → Value} {xs : List Value} {u : Value} (h : PartT w base (.slice (some ⟨g, 0, none⟩) n cap) n f k vs xs) (hk : k < f.length) (hn : k < n)
    (hu : OwnE w base u f[k].es) (ha : u.ownBlock = none ∨ u.ownBlock ≠ some g) (hv : ∀ i, i < f.length → i < k → u.ownBlock = none ∨ u.ownBlock ≠ (vs i).ownBlock) :
    PartT ((w.setCell ⟨g, k * 2, none⟩ (.int .i64 f[k].num)).setCell ⟨g, k * 2 + 1, none⟩ u) base (.slice (some ⟨g, 0, none⟩) n cap) n f (k + 1) (fun i => if i = k then u else vs i) ((xs.set (k * 2) (.int .i64 f[k].num)).set (k * 2 + 1) u) := by
  have hr := (World.ownsRow.stored (World.ownsRow.stored h.row (k * 2) (.int .i64 f[k].num)).1 (k * 2 + 1) u).1
  have hl : xs.length = n * 2 := h.row.1
  have kept : ∀ {x : Value} {m : Nat} {ys : List Value}, w.ownsRow base 40 2 x m ys → (x.ownBlock = none ∨ x.ownBlock ≠ some g) → ((w.setCell ⟨g, k * 2, none⟩ (.int .i64 f[k].num)).setCell ⟨g, k * 2 + 1, none⟩ u).ownsRow base 40 2 x m ys :=
    fun ho hne => (ho.kept grown_set hne).kept grown_set hne
  refine ⟨hr, ?_, ?_, ?_, ?_⟩
  · intro i hi hik
    by_cases e : i = k
    · subst e
      rw [if_pos rfl, List.getElem?_set_ne (by omega), List.getElem?_set_self (by omega), List.getElem?_set_self (by simp; omega)]
      exact ⟨rfl, rfl⟩
    · rw [if_neg e, List.getElem?_set_ne (by omega), List.getElem?_set_ne (by omega), List.getElem?_set_ne (by omega), List.getElem?_set_ne (by omega)]
      exact h.at_ i hi (by omega)
  · intro i hi hik
    by_cases e : i = k
    · subst e; simp only [if_pos]; exact kept hu ha
    · simp only [if_neg e]; exact kept (h.ents i hi (by omega)) (h.aside i hi (by omega))
  · intro i j hi hj hik hjk hne
    by_cases e : i = k
    · subst e
      have e2 : ¬ j = i := fun e => hne e.symm
      simp only [if_pos, if_neg e2]
      exact hv j hj (by omega)
    · by_cases e2 : j = k
      · subst e2
        simp only [if_pos, if_neg e]
        rcases hv i hi (by omega) with hx | hx
        · rw [hx]
          cases hvi : (vs i).ownBlock with
          | none => exact .inl rfl
          | some q => exact .inr (by simp)
        · exact .inr (fun e => hx e.symm)
      · simp only [if_neg e, if_neg e2]
        exact h.apart i j hi hj (by omega) (by omega) hne
  · intro i hi hik
    by_cases e : i = k
    · subst e; simp only [if_pos]; exact ha
    · simp only [if_neg e]; exact h.aside i hi (by omega)
/-- A tree's pages, owned. -/
def OwnT (w : World) (base : Nat) (v : Value) (f : List Pg) : Prop := ∃ vs xs, PartT w base v f.length f f.length vs xs
theorem OwnT.next {w w' : World} {base : Nat} {v : Value} {f : List Pg} (h : OwnT w base v f) (hb : Below w.heap.size w w') : OwnT w' base v f := by
  obtain ⟨vs, xs, h⟩ := h
  exact ⟨vs, xs, h.next hb⟩
theorem OwnT.grown {w w' : World} {base b : Nat} {v : Value} {f : List Pg} (h : OwnT w base v f) (hg : w.grownBy w' (some b)) (hb : b < base) : OwnT w' base v f := by
  obtain ⟨vs, xs, h⟩ := h
  exact ⟨vs, xs, h.grown hg hb⟩
theorem OwnT.mono {w : World} {base base' : Nat} {v : Value} {f : List Pg} (h : OwnT w base v f) (hb : base' ≤ base) : OwnT w base' v f := by
  obtain ⟨vs, xs, h⟩ := h
  exact ⟨vs, xs, owns_mono h.row hb, h.at_, fun i hi hk => owns_mono (h.ents i hi hk) hb, h.apart, h.aside⟩
theorem OwnT.rowP {w : World} {base g cap n : Nat} {f : List Pg} (h : OwnT w base (.slice (some ⟨g, 0, none⟩) n cap) f) : RowP w (some ⟨g, 0, none⟩) f := by
  obtain ⟨vs, xs, h⟩ := h
  exact .inr ⟨g, rfl, (h.row.lt g rfl).2, fun i hi => by
    obtain ⟨a0, a1⟩ := h.at_ i hi hi
    obtain ⟨p, c, e1, e2⟩ := (h.ents i hi hi).inE
    exact ⟨owns_cell h.row _ _ a0, p, c, by rw [← e1]; exact owns_cell h.row _ _ a1, e2⟩⟩
theorem OwnT.form {w : World} {base : Nat} {v : Value} {f : List Pg} (h : OwnT w base v f) : (v = .slice none 0 0 ∧ f = []) ∨ ∃ g cap, v = .slice (some ⟨g, 0, none⟩) f.length cap ∧ base ≤ g ∧ ReadP w g f := by
  obtain ⟨vs, xs, h⟩ := h
  have hrow := h.row
  have hlt := World.ownsRow.lt h.row
  obtain ⟨h1, h2⟩ := hrow
  rcases h2 with ⟨h2, h3⟩ | ⟨g, cap, cur, hv, hg, hh, r⟩
  · exact .inl ⟨h2, List.length_eq_zero_iff.1 h3⟩
  · refine .inr ⟨g, cap, hv, hg, (hlt g (by rw [hv]; rfl)).2, fun i hi => ?_⟩
    obtain ⟨a0, a1⟩ := h.at_ i hi hi
    obtain ⟨p, c, e1, e2⟩ := (h.ents i hi hi).inE
    have hrow := h.row
    rw [hv] at hrow
    exact ⟨owns_cell hrow _ _ a0, p, c, by rw [← e1]; exact owns_cell hrow _ _ a1, e2⟩

end Go.Proofs.Ytnmpfooegnmknaa.Tr
