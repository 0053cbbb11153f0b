/- Pages in a row, each with room for its entries. -/
import Derived.Test.YtnmpfooegnmknaaTrW
namespace Go.Proofs.Ytnmpfooegnmknaa.Tr
open Go.RowKit
set_option linter.unusedVariables false

/-- A page as it lies in two cells, its entries in a row with room for them. -/
structure PgC (w : World) (b o : Nat) (q : Option Addr) (c : Nat) (p : Pg) : Prop where
  lt : b < w.heap.size
  num : w.cell? ⟨b, o, none⟩ = some (.int .i64 p.num)
  row : w.cell? ⟨b, o + 1, none⟩ = some (.slice q p.es.length c)
  cap : p.es.length ≤ c
  ents : InE w q p.es
  form : (q = none ∧ c = 0) ∨ ∃ b' o', q = some ⟨b', o', none⟩ ∧ b' < w.heap.size
theorem PgC.next {w w' : World} {b o : Nat} {q : Option Addr} {c : Nat} {p : Pg} (h : PgC w b o q c p) (hb : Below w.heap.size w w') : PgC w' b o q c p :=
  ⟨Nat.lt_of_lt_of_le h.lt hb.size, (hb.cell h.lt).trans h.num, (hb.cell h.lt).trans h.row, h.cap, h.ents.step hb, h.form.imp id fun ⟨b', o', h1, h2⟩ => ⟨b', o', h1, Nat.lt_of_lt_of_le h2 hb.size⟩⟩
theorem PgC.pageAt {w : World} {b o : Nat} {q : Option Addr} {c : Nat} {p : Pg} (h : PgC w b o q c p) : PageAtA w b o p := ⟨h.lt, h.num, q, c, h.row, h.ents⟩
theorem PgC.grown {w w' : World} {b o g : Nat} {q : Option Addr} {c : Nat} {p : Pg} (h : PgC w b o q c p) (hg : w.grownBy w' (some g)) (h1 : b ≠ g) (h2 : ∀ b' o', q = some ⟨b', o', none⟩ → b' ≠ g) : PgC w' b o q c p := by
  have hc : ∀ x, w'.cell? ⟨b, x, none⟩ = w.cell? ⟨b, x, none⟩ := fun x => World.cell?_of_block (hg.block b h.lt (fun e => h1 (Option.some.inj e)))
  exact ⟨Nat.lt_of_lt_of_le h.lt hg.size, (hc o).trans h.num, (hc (o + 1)).trans h.row, h.cap, h.ents.grown hg (fun b' o' e e2 => h2 b' o' e (Option.some.inj e2)), h.form.imp id fun ⟨b', o', h3, h4⟩ => ⟨b', o', h3, Nat.lt_of_lt_of_le h4 hg.size⟩⟩
/-- Pages in a row, each with room for its entries. -/
structure FullP (w : World) (g : Nat) (f : List Pg) : Prop where
  lt : g < w.heap.size
  pages : ∀ i (h : i < f.length), ∃ q c, PgC w g (i * 2) q c f[i]
theorem FullP.next {w w' : World} {g : Nat} {f : List Pg} (h : FullP w g f) (hb : Below w.heap.size w w') : FullP w' g f :=
  ⟨Nat.lt_of_lt_of_le h.lt hb.size, fun i hi => by obtain ⟨q, c, hp⟩ := h.pages i hi; exact ⟨q, c, hp.next hb⟩⟩
theorem FullP.rowP {w : World} {g : Nat} {f : List Pg} (h : FullP w g f) : RowP w (some ⟨g, 0, none⟩) f :=
  .inr ⟨g, rfl, h.lt, fun i hi => by obtain ⟨q, c, hp⟩ := h.pages i hi; exact ⟨hp.num, q, c, hp.row, hp.ents⟩⟩
/-- A row of entries of one's own: its room, and where it lies. -/
theorem OwnE.room {w : World} {base : Nat} {v : Value} {l : List Ent} (hE : OwnE w base v l) : ∃ p c, v = .slice p l.length c ∧ l.length ≤ c ∧ InE w p l ∧ ((p = none ∧ c = 0) ∨ ∃ b' o', p = some ⟨b', o', none⟩ ∧ b' < w.heap.size) := by
  obtain ⟨p, c, e1, e2⟩ := hE.inE
  have hlt := World.ownsRow.lt hE
  obtain ⟨hE0, hE1⟩ := hE
  refine ⟨p, c, e1, ?_, e2, ?_⟩
  · rcases hE1 with ⟨h1, h2⟩ | ⟨g', cap', cur, hv, hg', hh, hc1, hc2, r⟩
    · rw [h2]; exact Nat.zero_le _
    · rw [e1] at hv; injection hv with _ _ hc; rw [hc]; exact hc1
  · rcases hE1 with ⟨h1, h2⟩ | ⟨g', cap', cur, hv, hg', hh, hc1, hc2, r⟩
    · rw [e1] at h1; injection h1 with h1 _ h3; exact .inl ⟨h1, h3⟩
    · rw [e1] at hv; injection hv with hv _ _
      refine .inr ⟨g', 0, hv, ?_⟩
      exact (hlt g' (by rw [e1, hv]; rfl)).2
theorem OwnT.full {w : World} {base g cap n : Nat} {f : List Pg} (h : OwnT w base (.slice (some ⟨g, 0, none⟩) n cap) f) : FullP w g f := by
  obtain ⟨vs, xs, h⟩ := h
  refine ⟨(h.row.lt g rfl).2, fun i hi => ?_⟩
  obtain ⟨a0, a1⟩ := h.at_ i hi hi
  have hE := h.ents i hi hi
  obtain ⟨p, c, e1, e2⟩ := hE.inE
  have hlt := World.ownsRow.lt hE
  have hE2 := hE
  obtain ⟨hE0, hE1⟩ := hE
  have hcell := owns_cell h.row _ _ a1
  rw [e1] at hcell
  refine ⟨p, c, (h.row.lt g rfl).2, owns_cell h.row _ _ a0, hcell, ?_, e2, ?_⟩
  · rcases hE1 with ⟨h1, h2⟩ | ⟨g', cap', cur, hv, hg', hh, hc1, hc2, r⟩
    · rw [h2]; exact Nat.zero_le _
    · rw [e1] at hv; injection hv with _ _ hc; rw [hc]; exact hc1
  · rcases hE1 with ⟨h1, h2⟩ | ⟨g', cap', cur, hv, hg', hh, hc1, hc2, r⟩
    · rw [e1] at h1; injection h1 with h1 _ h3; exact .inl ⟨h1, h3⟩
    · rw [e1] at hv; injection hv with hv _ _
      refine .inr ⟨g', 0, hv, ?_⟩
      exact (hlt g' (by rw [e1, hv]; rfl)).2
/-- A row of pages that is there, with room. -/
def RowF (w : World) (p : Option Addr) (f : List Pg) : Prop := ∃ g, p = some ⟨g, 0, none⟩ ∧ FullP w g f
theorem RowF.rowP {w : World} {p : Option Addr} {f : List Pg} (h : RowF w p f) : RowP w p f := by
  obtain ⟨g, rfl, h⟩ := h; exact h.rowP
theorem RowF.next {w w' : World} {p : Option Addr} {f : List Pg} (h : RowF w p f) (hb : Below w.heap.size w w') : RowF w' p f := by
  obtain ⟨g, e, h⟩ := h; exact ⟨g, e, h.next hb⟩
theorem row_both {w : World} {p : Option Addr} {f : List Pg} {P C : Prop} (h : RowF w p f) (hc : C) : RowP w p f ∧ (P → RowF w p f) ∧ C := ⟨h.rowP, fun _ => h, hc⟩
end Go.Proofs.Ytnmpfooegnmknaa.Tr
