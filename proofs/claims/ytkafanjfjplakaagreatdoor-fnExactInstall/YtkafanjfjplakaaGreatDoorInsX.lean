/- The boxes of the law of Install. -/
import Derived.Test.YtkafanjfjplakaaGreatDoorInsI
import Derived.Test.YtkafanjfjplakaaGreatDoorInsV
namespace Go.Proofs.YtkafanjfjplakaaGreatDoor.Co
open Go.RowKit Tr
set_option linter.unusedVariables false

/-- The boxes of what came in. -/
structure LwI (w W : World) (a b c : Value) (x : Wrt) : Prop where
  bx : Boxed w W a b c
  wr : BxW W (w.heap.size + 1) x
theorem LwI.start (w : World) (a b c : Value) (x : Wrt) (T T2 : TypeId) : LwI w ((w.alloc (.cells #[a, b, c] T)).alloc (.cells #[.string x.coll, .int .i64 x.id, .bool x.gone, .int .i64 x.doc.k, .int .i64 x.doc.n, .string x.doc.t] T2)) a b c x := by
  have h1 := Boxed.start w a b c T
  have h2 := BxW.new (w.alloc (.cells #[a, b, c] T)) x T2
  rw [heap_size_alloc] at h2
  exact ⟨h1.step ((Below.refl _ _).alloc (Nat.le_refl _) _), h2⟩
theorem LwI.step {w W W' : World} {a b c : Value} {x : Wrt} (h : LwI w W a b c x) (hb : Below W.heap.size W W') : LwI w W' a b c x := ⟨h.bx.step hb, h.wr.next hb⟩
theorem LwI.under {w W W' : World} {base : Nat} {a b c : Value} {x : Wrt} (h : LwI w W a b c x) (hb : Below base W W') (hlt : w.heap.size + 1 < base) : LwI w W' a b c x :=
  have hl : w.heap.size < base := by omega
  ⟨⟨h.bx.bel.trans (hb.mono (Nat.le_of_lt hl)), Nat.lt_of_lt_of_le h.bx.lt hb.size, (hb.cell hl).trans h.bx.c0, (hb.cell hl).trans h.bx.c1, (hb.cell hl).trans h.bx.c2⟩, h.wr.step hb hlt⟩
theorem keepLw {w W w0 : World} {a b c : Value} {x : Wrt} (X : LwI w W a b c x) (hb : Below W.heap.size W w0) :
    w0.cell? ⟨w.heap.size, 0, none⟩ = some a ∧ w0.cell? ⟨w.heap.size, 1, none⟩ = some b ∧ w0.cell? ⟨w.heap.size, 2, none⟩ = some c ∧ w0.cell? ⟨w.heap.size + 1, 0, none⟩ = some (.string x.coll) ∧ w0.cell? ⟨w.heap.size + 1, 1, none⟩ = some (.int .i64 x.id) ∧ w0.cell? ⟨w.heap.size + 1, 2, none⟩ = some (.bool x.gone) ∧ w0.cell? ⟨w.heap.size + 1, 3, none⟩ = some (.int .i64 x.doc.k) ∧ w0.cell? ⟨w.heap.size + 1, 4, none⟩ = some (.int .i64 x.doc.n) ∧ w0.cell? ⟨w.heap.size + 1, 5, none⟩ = some (.string x.doc.t) :=
  have Y := X.step hb
  ⟨Y.bx.c0, Y.bx.c1, Y.bx.c2, Y.wr.c0, Y.wr.c1, Y.wr.c2, Y.wr.c3, Y.wr.c4, Y.wr.c5⟩
theorem keepLa {w W w0 : World} {a b c : Value} {x : Wrt} {bx : Nat} {y0 y1 y2 : Value} (X : LwI w W a b c x) (m : bx < W.heap.size) (e0 : W.cell? ⟨bx, 0, none⟩ = some y0) (e1 : W.cell? ⟨bx, 1, none⟩ = some y1) (e2 : W.cell? ⟨bx, 2, none⟩ = some y2) (hb : Below W.heap.size W w0) :
    w0.cell? ⟨bx, 0, none⟩ = some y0 ∧ w0.cell? ⟨bx, 1, none⟩ = some y1 ∧ w0.cell? ⟨bx, 2, none⟩ = some y2 ∧ w0.cell? ⟨w.heap.size + 1, 0, none⟩ = some (.string x.coll) ∧ w0.cell? ⟨w.heap.size + 1, 1, none⟩ = some (.int .i64 x.id) ∧ w0.cell? ⟨w.heap.size + 1, 2, none⟩ = some (.bool x.gone) ∧ w0.cell? ⟨w.heap.size + 1, 3, none⟩ = some (.int .i64 x.doc.k) ∧ w0.cell? ⟨w.heap.size + 1, 4, none⟩ = some (.int .i64 x.doc.n) ∧ w0.cell? ⟨w.heap.size + 1, 5, none⟩ = some (.string x.doc.t) :=
  have Y := X.step hb
  ⟨(hb.cell m).trans e0, (hb.cell m).trans e1, (hb.cell m).trans e2, Y.wr.c0, Y.wr.c1, Y.wr.c2, Y.wr.c3, Y.wr.c4, Y.wr.c5⟩
/-- A block of an empty collection that may be written. -/
structure ZC (U : World) (b : Nat) : Prop where
  lt : b < U.heap.size
  c0 : U.cell? ⟨b, 0, none⟩ = some (.string em)
  c1 : U.cell? ⟨b, 1, none⟩ = some (.slice none 0 0)
  c2 : U.cell? ⟨b, 2, none⟩ = some (.slice none 0 0)
  z0 : U.frozen? ⟨b, 0, none⟩ = false
  z1 : U.frozen? ⟨b, 1, none⟩ = false
  z2 : U.frozen? ⟨b, 2, none⟩ = false
theorem ZC.next {U U' : World} {b : Nat} (h : ZC U b) (hb : Below U.heap.size U U') : ZC U' b :=
  ⟨Nat.lt_of_lt_of_le h.lt hb.size, (hb.cell h.lt).trans h.c0, (hb.cell h.lt).trans h.c1, (hb.cell h.lt).trans h.c2, (hb.frozen (p := ⟨b, 0, none⟩) h.lt).trans h.z0, (hb.frozen (p := ⟨b, 1, none⟩) h.lt).trans h.z1, (hb.frozen (p := ⟨b, 2, none⟩) h.lt).trans h.z2⟩
theorem zca {W w1 : World} {T : TypeId} (h : Below (W.alloc (.cells #[.string em, .slice none 0 0, .slice none 0 0] T)).heap.size (W.alloc (.cells #[.string em, .slice none 0 0, .slice none 0 0] T)) w1) : ZC w1 W.heap.size :=
  ZC.next ⟨by simp, by simp [go_sem], by simp [go_sem], by simp [go_sem], by simp [go_sem], by simp [go_sem], by simp [go_sem]⟩ h
theorem zcd {W w1 : World} {T : TypeId} (h : Below (W.drew.alloc (.cells #[.string em, .slice none 0 0, .slice none 0 0] T)).heap.size (W.drew.alloc (.cells #[.string em, .slice none 0 0, .slice none 0 0] T)) w1) : ZC w1 W.heap.size := zca (W := W.drew) h
theorem zce {W w1 : World} {T : TypeId} (h : Below (W.alloc (.cells #[.string em, .slice none 0 0, .slice none 0 0] T)).drew.heap.size (W.alloc (.cells #[.string em, .slice none 0 0, .slice none 0 0] T)).drew w1) : ZC w1 W.heap.size :=
  ZC.next (U := (W.alloc (.cells #[.string em, .slice none 0 0, .slice none 0 0] T)).drew) ⟨by simp, by simp [go_sem], by simp [go_sem], by simp [go_sem], by simp [go_sem], by simp [go_sem], by simp [go_sem]⟩ h
/-- An answer in its box. -/
structure ResS (w2 wx : World) (bs : Nat) (nm : ByteArray) (p q : Option Addr) (n m cp cq : Nat) (f : List Chn) (d : List Dfn) : Prop where
  out : ∃ lo mid hi top, BxS wx bs lo mid hi top nm p q n m cp cq f d ∧ Below w2.heap.size w2 wx ∧ w2.heap.size ≤ bs ∧ w2.heap.size ≤ lo
theorem ResS.late {w2 w5 : World} {lo mid hi : Nat} {T : TypeId} {nm : ByteArray} {p q : Option Addr} {n m cp cq : Nat} {f : List Chn} {d : List Dfn} (hB : Below w2.heap.size w2 w5) (hO : OwnChS w5 lo (sS lo mid hi w5.heap.size) (.slice p n cp) f) (hD : OwnDfH w5 mid hi (.slice q m cq) d) (h1 : w2.heap.size ≤ lo) (hl : lo ≤ mid) (hm : mid ≤ hi) (hh : hi ≤ w5.heap.size) :
    ResS w2 (w5.alloc (.cells #[.string nm, .slice p n cp, .slice q m cq] T)) w5.heap.size nm p q n m cp cq f d := by
  have hb : Below w5.heap.size w5 (w5.alloc (.cells #[.string nm, .slice p n cp, .slice q m cq] T)) := (Below.refl _ _).alloc (Nat.le_refl _) _
  exact ⟨lo, mid, hi, w5.heap.size, BxS.cells (hO.next hb) (hD.next hb) hl hm hh hb.size (.inr (Nat.le_refl _)) (by simp) (by simp [go_sem]) (by simp [go_sem]) (by simp [go_sem]), hB.trans (hb.mono hB.size), hB.size, h1⟩
theorem ResS.early {w2 w5 : World} {lo mid hi bs : Nat} {nm : ByteArray} {p q : Option Addr} {n m cp cq : Nat} {f : List Chn} {d : List Dfn} (Z : ZC w5 bs) (hB : Below w2.heap.size w2 w5) (hO : OwnChS w5 lo (sS lo mid hi w5.heap.size) (.slice p n cp) f) (hD : OwnDfH w5 mid hi (.slice q m cq) d) (h1 : w2.heap.size ≤ lo) (h2 : w2.heap.size ≤ bs) (h3 : bs < lo) (hl : lo ≤ mid) (hm : mid ≤ hi) (hh : hi ≤ w5.heap.size) :
    ResS w2 (((w5.setCell ⟨bs, 0, none⟩ (.string nm)).setCell ⟨bs, 1, none⟩ (.slice p n cp)).setCell ⟨bs, 2, none⟩ (.slice q m cq)) bs nm p q n m cp cq f d := by
  have hz : (((w5.setCell ⟨bs, 0, none⟩ (.string nm)).setCell ⟨bs, 1, none⟩ (.slice p n cp)).setCell ⟨bs, 2, none⟩ (.slice q m cq)).heap.size = w5.heap.size := by simp [World.setCell]
  obtain ⟨zl, z0, z1, z2, _, _, _⟩ := Z
  exact ⟨lo, mid, hi, w5.heap.size, BxS.cells (((hO.low h3).low h3).low h3) (dfH_at (dfH_at (dfH_at hD _ _ _ (by omega)) _ _ _ (by omega)) _ _ _ (by omega)) hl hm hh (by rw [hz]; exact Nat.le_refl _) (.inl h3) (by rw [hz]; exact zl) (by simp [go_sem, *]) (by simp [go_sem, *]) (by simp [go_sem, *]), ((hB.setCell h2 _).setCell h2 _).setCell h2 _, h2, h1⟩

end Go.Proofs.YtkafanjfjplakaaGreatDoor.Co
