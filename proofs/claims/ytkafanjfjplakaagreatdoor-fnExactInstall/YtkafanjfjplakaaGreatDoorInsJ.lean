/- The program's Install: the collection that it makes, step by step. -/
import Derived.Test.YtkafanjfjplakaaGreatDoorInsP
namespace Go.Proofs.YtkafanjfjplakaaGreatDoor.Co
open Go.RowKit Tr
set_option linter.unusedVariables false

/-- The boxes of a collection and of a write, and the answer's cells. -/
structure MkI (w W : World) (nm v u : Value) (x : Wrt) : Prop where
  bel : Below w.heap.size w W
  lt : w.heap.size + 2 < W.heap.size
  c0 : W.cell? ⟨w.heap.size, 0, none⟩ = some nm
  c1 : W.cell? ⟨w.heap.size, 1, none⟩ = some v
  c2 : W.cell? ⟨w.heap.size, 2, none⟩ = some u
  wr : BxW W (w.heap.size + 1) x
  r0 : ∃ x, W.cell? ⟨w.heap.size + 2, 0, none⟩ = some x
  r1 : ∃ x, W.cell? ⟨w.heap.size + 2, 1, none⟩ = some x
  r2 : ∃ x, W.cell? ⟨w.heap.size + 2, 2, none⟩ = some x
  y0 : ∀ o, W.frozen? ⟨w.heap.size + 2, o, none⟩ = false
theorem MkI.start (w : World) (nm v u p q r : Value) (x : Wrt) (T T2 T3 : TypeId) : MkI w (((w.alloc (.cells #[nm, v, u] T)).alloc (.cells #[.string x.coll, .int .i64 x.id, .bool x.gone, .int .i64 x.doc.k, .int .i64 x.doc.n, .string x.doc.t] T2)).alloc (.cells #[p, q, r] T3)) nm v u x :=
  ⟨(((Below.refl _ _).alloc (Nat.le_refl _) _).alloc (by simp) _).alloc (by simp; omega) _, by simp, by simp [go_sem], by simp [go_sem], by simp [go_sem], ⟨by simp, by simp [go_sem], by simp [go_sem], by simp [go_sem], by simp [go_sem], by simp [go_sem], by simp [go_sem]⟩, ⟨p, by simp [go_sem]⟩, ⟨q, by simp [go_sem]⟩, ⟨r, by simp [go_sem]⟩, fun o => by simp [go_sem]⟩
theorem MkI.step {w W W' : World} {nm v u : Value} {x : Wrt} {B : Nat} (h : MkI w W nm v u x) (hb : Below B W W') (hB : w.heap.size + 3 ≤ B) : MkI w W' nm v u x := by
  have hc : ∀ b o, b < B → W'.cell? ⟨b, o, none⟩ = W.cell? ⟨b, o, none⟩ := fun b o hh => hb.cell (p := ⟨b, o, none⟩) hh
  have hf : ∀ b o, b < B → W'.frozen? ⟨b, o, none⟩ = W.frozen? ⟨b, o, none⟩ := fun b o hh => hb.frozen (p := ⟨b, o, none⟩) hh
  refine ⟨h.bel.trans (hb.mono (by omega)), Nat.lt_of_lt_of_le h.lt hb.size, (hc _ _ (by omega)).trans h.c0, (hc _ _ (by omega)).trans h.c1, (hc _ _ (by omega)).trans h.c2, h.wr.step hb (by omega), ?_, ?_, ?_, fun o => (hf _ _ (by omega)).trans (h.y0 o)⟩
  · rw [hc _ _ (by omega)]; exact h.r0
  · rw [hc _ _ (by omega)]; exact h.r1
  · rw [hc _ _ (by omega)]; exact h.r2
theorem MkI.next {w W W' : World} {nm v u : Value} {x : Wrt} (h : MkI w W nm v u x) (hb : Below W.heap.size W W') : MkI w W' nm v u x := h.step hb (by have := h.lt; omega)
theorem ansS_zero {w W : World} {e : Ending} {k : Int} (hb : Below w.heap.size w W) (he : e = .returned (.tuple #[.agg #[.string em, .slice none 0 0, .slice none 0 0], .int .i64 k])) : AnsS (zCol, k) w e W :=
  ⟨hb, none, none, 0, 0, W.heap.size, W.heap.size, he, hb.size, Nat.le_refl _, Nat.le_refl _, ⟨fun _ => .slice none 0 0, [], ⟨⟨rfl, .inl ⟨rfl, rfl⟩⟩, fun i h hi => absurd hi (by simp [zCol]), fun i h hi => absurd hi (by simp [zCol]), fun i j h h2 hi => absurd hi (by simp [zCol]), fun i h hi => absurd hi (by simp [zCol])⟩, fun b h => (by cases h), fun i h => absurd h (by simp [zCol])⟩, noDf _ _ _⟩
/-- What a store into a block that is none of a row's leaves of a row of chains. -/
theorem PartCh.off {w w' : World} {base : Nat} {v : Value} {n : Nat} {f : List Chn} {k : Nat} {vs : Nat → Value} {xs : List Value} {b : Nat} (h : PartCh w base v n f k vs xs) (hg : w.grownBy w' (some b)) (h1 : v.ownBlock ≠ some b) (h2 : ∀ i, i < f.length → i < k → (vs i).ownBlock ≠ some b) : PartCh w' base v n f k vs xs :=
  ⟨h.row.kept hg (.inr h1), h.at_, fun i hi hk => World.ownsRow.kept (h.ents i hi hk) hg (.inr (h2 i hi hk)), h.apart, h.aside⟩
theorem OwnDfH.far {w w' : World} {lo hi : Nat} {row : Option Nat} {v : Value} {d : List Dfn} (h : OwnDfH w lo hi v d) (hg : w.grownBy w' row) (hr : ∀ b, row = some b → b < lo ∨ hi ≤ b) : OwnDfH w' lo hi v d :=
  (ChgS.of_grown (S := fun b => row = some b) hg (fun b e => e)).away hr h
/-- The collection that is being made: its box, its rows. -/
structure StI (w W : World) (nm v u : Value) (c : Col) (x : Wrt) (bo lo mid hi g cp : Nat) (q : Option Addr) (cq : Nat) (F : List Chn) (vs : Nat → Value) (xs : List Value) : Prop where
  bx : MkI w W nm v u x
  lo3 : w.heap.size + 3 ≤ lo
  lm : lo ≤ mid
  mh : mid ≤ hi
  hb : hi ≤ bo
  lt : bo < W.heap.size
  o0 : W.cell? ⟨bo, 0, none⟩ = some (.string c.name)
  o1 : W.cell? ⟨bo, 1, none⟩ = some (.slice (some ⟨g, 0, none⟩) F.length cp)
  o2 : W.cell? ⟨bo, 2, none⟩ = some (.slice q c.dfs.length cq)
  part : PartCh W lo (.slice (some ⟨g, 0, none⟩) F.length cp) F.length F F.length vs xs
  inV : (lo ≤ g ∧ g < mid) ∨ bo < g
  inS : ∀ i, i < F.length → ∀ b, (vs i).ownBlock = some b → (lo ≤ b ∧ b < mid) ∨ bo < b
  df : OwnDfH W mid hi (.slice q c.dfs.length cq) c.dfs
theorem StI.next {w W W' : World} {nm v u : Value} {c : Col} {x : Wrt} {bo lo mid hi g cp : Nat} {q : Option Addr} {cq : Nat} {F : List Chn} {vs : Nat → Value} {xs : List Value} (h : StI w W nm v u c x bo lo mid hi g cp q cq F vs xs) (hb : Below W.heap.size W W') : StI w W' nm v u c x bo lo mid hi g cp q cq F vs xs :=
  ⟨h.bx.next hb, h.lo3, h.lm, h.mh, h.hb, Nat.lt_of_lt_of_le h.lt hb.size, (hb.cell h.lt).trans h.o0, (hb.cell h.lt).trans h.o1, (hb.cell h.lt).trans h.o2, h.part.next hb, h.inV, h.inS, h.df.next hb⟩
theorem StI.add {w W w1 : World} {nm v u : Value} {c : Col} {x : Wrt} {bo lo mid hi g cp : Nat} {q : Option Addr} {cq : Nat} {F : List Chn} {vs : Nat → Value} {xs : List Value} (h : StI w W nm v u c x bo lo mid hi g cp q cq F vs xs) {k : Nat} (hk : k < F.length) {u' : Value} {es : List Ver}
    (hg : W.grownBy w1 (vs k).ownBlock) (ho : OwnVr w1 lo u' es) (hat : u'.ownBlock = (vs k).ownBlock ∨ ∃ b, W.heap.size ≤ b ∧ u'.ownBlock = some b) :
    StI w (w1.setCell ⟨g, k * 2 + 1, none⟩ u') nm v u c x bo lo mid hi g cp q cq (F.set k ⟨F[k].id, es⟩) (fun i => if i = k then u' else vs i) (xs.set (k * 2 + 1) u') := by
  have hin := h.inS k hk
  have hlm := h.lm; have hmh := h.mh; have hhb := h.hb; have hbo := h.lt; have hV := h.inV; have hl3 := h.lo3
  have hgl := (h.part.row.lt g rfl)
  have hent := h.part.ents k hk hk
  have B1 : Below lo W w1 := Below.grown (Below.refl lo W) hg (by omega) (fun b e => (World.ownsRow.lt hent b e).1)
  have B2 : Below lo W (w1.setCell ⟨g, k * 2 + 1, none⟩ u') := B1.setCell hgl.1 _
  have hcell : ∀ j, (w1.setCell ⟨g, k * 2 + 1, none⟩ u').cell? ⟨bo, j, none⟩ = W.cell? ⟨bo, j, none⟩ := fun j => by
    have e1 : (w1.setCell ⟨g, k * 2 + 1, none⟩ u').heap[bo]? = w1.heap[bo]? := grown_set.block bo (by have := hg.size; omega) (fun e => by injection e with e; omega)
    have e2 : w1.heap[bo]? = W.heap[bo]? := hg.block bo hbo (fun e => by have := hin bo e.symm; omega)
    exact World.cell?_of_block (a := ⟨bo, j, none⟩) (e1.trans e2)
  have hlen : (F.set k ⟨F[k].id, es⟩).length = F.length := List.length_set
  refine ⟨h.bx.step B2 hl3, h.lo3, h.lm, h.mh, h.hb, by have := B2.size; omega, (hcell 0).trans h.o0, (hcell 1).trans (by rw [hlen]; exact h.o1), (hcell 2).trans h.o2, by rw [hlen]; exact h.part.addAt rfl hk hg ho hat, h.inV, ?_, ?_⟩
  · intro i hi b e
    rw [hlen] at hi
    by_cases hik : i = k
    · simp only [if_pos hik] at e
      rcases hat with e2 | ⟨b2, hb2, e2⟩
      · exact hin b (e2.symm.trans e)
      · rw [e2] at e; injection e with e; omega
    · simp only [if_neg hik] at e
      exact h.inS i hi b e
  · exact (h.df.far hg (fun b e => by have := hin b e; omega)).far grown_set (fun b e => by injection e with e; omega)
theorem OwnChS.low {w : World} {lo b o : Nat} {S : Nat → Prop} {v x : Value} {f : List Chn} (h : OwnChS w lo S v f) (hb : b < lo) : OwnChS (w.setCell ⟨b, o, none⟩ x) lo S v f := by
  obtain ⟨vs, xs, h, h1, h2⟩ := h
  exact ⟨vs, xs, h.grown grown_set hb, h1, h2⟩
theorem StI.fin {w W : World} {nm v u : Value} {c : Col} {x : Wrt} {bo lo mid hi g cp : Nat} {q : Option Addr} {cq : Nat} {F : List Chn} {vs : Nat → Value} {xs : List Value} (h : StI w W nm v u c x bo lo mid hi g cp q cq F vs xs) (code : Int) (y0 y1 y2 : Value) :
    AnsS (⟨c.name, F, c.dfs⟩, code) w (.returned (.tuple #[.agg #[.string c.name, .slice (some ⟨g, 0, none⟩) F.length cp, .slice q c.dfs.length cq], .int .i64 code])) (((W.setCell ⟨w.heap.size + 2, 0, none⟩ y0).setCell ⟨w.heap.size + 2, 1, none⟩ y1).setCell ⟨w.heap.size + 2, 2, none⟩ y2) := by
  have hlm := h.lm; have hmh := h.mh; have hhb := h.hb; have hbo := h.lt; have hV := h.inV; have hl3 := h.lo3
  have hS : OwnChS W lo (sS lo mid hi W.heap.size) (.slice (some ⟨g, 0, none⟩) F.length cp) F := ⟨vs, xs, h.part, fun b e => by
      have hh := (h.part.row.lt b e).2
      have e' : g = b := Option.some.inj (show some g = some b from e)
      unfold sS; omega, fun i hi b e => by
      have hh := (World.ownsRow.lt (h.part.ents i hi hi) b e).2
      have := h.inS i hi b e
      unfold sS; omega⟩
  have hz : (((W.setCell ⟨w.heap.size + 2, 0, none⟩ y0).setCell ⟨w.heap.size + 2, 1, none⟩ y1).setCell ⟨w.heap.size + 2, 2, none⟩ y2).heap.size = W.heap.size := by simp [World.setCell]
  refine ⟨((h.bx.bel.setCell (by show w.heap.size ≤ w.heap.size + 2; omega) _).setCell (by show w.heap.size ≤ w.heap.size + 2; omega) _).setCell (by show w.heap.size ≤ w.heap.size + 2; omega) _, _, _, _, _, mid, hi, rfl, by omega, h.mh, by rw [hz]; omega, ?_, ?_⟩
  · rw [hz]
    exact (((hS.low (by omega)).low (by omega)).low (by omega)).mono (by omega) (fun b hb => by unfold sS at hb ⊢; omega)
  · exact ((h.df.far grown_set (fun b e => by injection e with e; omega)).far grown_set (fun b e => by injection e with e; omega)).far grown_set (fun b e => by injection e with e; omega)
/-- After the copy: the box made behind the rows. -/
theorem StI.start {w W : World} {nm v u : Value} {c : Col} {x : Wrt} {lo mid g cp : Nat} {q : Option Addr} {cq : Nat} (hm : MkI w W nm v u x) (hl3 : w.heap.size + 3 ≤ lo) (hlm : lo ≤ mid) (hmh : mid ≤ W.heap.size) (hC : OwnChH W lo mid (.slice (some ⟨g, 0, none⟩) c.chs.length cp) c.chs) (hD : OwnDfH W mid W.heap.size (.slice q c.dfs.length cq) c.dfs) (T : TypeId) :
    ∃ vs xs, StI w (W.alloc (.cells #[.string c.name, .slice (some ⟨g, 0, none⟩) c.chs.length cp, .slice q c.dfs.length cq] T)) nm v u c x W.heap.size lo mid W.heap.size g cp q cq c.chs vs xs := by
  obtain ⟨vs, xs, hP, h1, h2⟩ := hC
  have hb : Below W.heap.size W (W.alloc (.cells #[.string c.name, .slice (some ⟨g, 0, none⟩) c.chs.length cp, .slice q c.dfs.length cq] T)) := (Below.refl _ _).alloc (Nat.le_refl _) _
  refine ⟨vs, xs, hm.next hb, hl3, hlm, hmh, Nat.le_refl _, by simp, by simp [go_sem], by simp [go_sem], by simp [go_sem], hP.next hb, .inl ⟨(hP.row.lt g rfl).1, h1 g rfl⟩, fun i hi b e => .inl ⟨(World.ownsRow.lt (hP.ents i hi hi) b e).1, h2 i hi b e⟩, hD.next hb⟩
/-- After a chain was put in: the box's second cell is written anew. -/
theorem StI.ins {w W W6 w7 : World} {nm v u : Value} {c : Col} {x : Wrt} {bo lo mid hi g cp : Nat} {q : Option Addr} {cq : Nat} {vs : Nat → Value} {xs : List Value} {vv : Value} {k : Nat} (hm : MkI w W nm v u x) (hl3 : w.heap.size + 3 ≤ lo) (hlm : lo ≤ mid) (hmh : mid ≤ hi) (hhb : hi ≤ bo) (hbo : bo < W.heap.size)
    (o0 : W.cell? ⟨bo, 0, none⟩ = some (.string c.name)) (o1 : ∃ y, W.cell? ⟨bo, 1, none⟩ = some y) (o2 : W.cell? ⟨bo, 2, none⟩ = some (.slice q c.dfs.length cq)) (hP : PartCh W lo vv c.chs.length c.chs c.chs.length vs xs) (hV : ∀ b, vv.ownBlock = some b → lo ≤ b ∧ b < mid) (hVS : ∀ i, i < c.chs.length → ∀ b, (vs i).ownBlock = some b → lo ≤ b ∧ b < mid) (hD : OwnDfH W mid hi (.slice q c.dfs.length cq) c.dfs)
    (hW6 : Below W.heap.size W W6) (hk : k ≤ c.chs.length) (hr : w7.ownsRow lo 94 2 (.slice (some ⟨g, 0, none⟩) (c.chs.length + 1) cp) (c.chs.length + 1) (xs.take (k * 2) ++ [.int .i64 x.id, .slice none 0 0] ++ xs.drop (k * 2))) (hg : W6.grownBy w7 vv.ownBlock) (hat : (Value.slice (some ⟨g, 0, none⟩) (c.chs.length + 1) cp).ownBlock = vv.ownBlock ∨ ∃ b, W6.heap.size ≤ b ∧ (Value.slice (some ⟨g, 0, none⟩) (c.chs.length + 1) cp).ownBlock = some b) :
    StI w (w7.setCell ⟨bo, 1, none⟩ (.slice (some ⟨g, 0, none⟩) (c.chs.length + 1) cp)) nm v u c x bo lo mid hi g cp q cq (c.chs.take k ++ ⟨x.id, []⟩ :: c.chs.drop k) (fun i => if i < k then vs i else if i = k then .slice none 0 0 else vs (i - 1)) (xs.take (k * 2) ++ [.int .i64 x.id, .slice none 0 0] ++ xs.drop (k * 2)) := by
  have hz6 := hW6.size
  have hz7 := hg.size
  have hlen : (c.chs.take k ++ (⟨x.id, []⟩ : Chn) :: c.chs.drop k).length = c.chs.length + 1 := by rw [List.length_append, List.length_take, List.length_cons, List.length_drop]; omega
  have hP7 := (hP.next hW6).ins rfl hk hr hg hat
  have hgv : (lo ≤ g ∧ g < mid) ∨ bo < g := by
    rcases hat with e | ⟨b, hb, e⟩
    · exact .inl (hV g (e.symm.trans rfl))
    · have e' : g = b := Option.some.inj (show some g = some b from e)
      omega
  have B1 : Below lo W w7 := Below.grown (hW6.mono (by omega)) hg (by omega) (fun b e => (hV b e).1)
  have B2 : Below lo W (w7.setCell ⟨bo, 1, none⟩ (.slice (some ⟨g, 0, none⟩) (c.chs.length + 1) cp)) := B1.setCell (by show lo ≤ bo; omega) _
  have hbk : w7.heap[bo]? = W.heap[bo]? := (hg.block bo (by omega) (fun e => by have := hV bo e.symm; omega)).trans (hW6.block bo hbo)
  have hcell : ∀ j, w7.cell? ⟨bo, j, none⟩ = W.cell? ⟨bo, j, none⟩ := fun j => World.cell?_of_block (a := ⟨bo, j, none⟩) hbk
  obtain ⟨y, hy⟩ := o1
  have p0 := (hcell 0).trans o0
  have p1 := (hcell 1).trans hy
  have p2 := (hcell 2).trans o2
  refine ⟨hm.step B2 hl3, hl3, hlm, hmh, hhb, by have := B2.size; omega, by simp [go_sem, p0], by rw [hlen]; simp [go_sem, p1], by simp [go_sem, p2], ?_, hgv, ?_, ?_⟩
  · rw [hlen]
    refine hP7.off grown_set (fun e => ?_) (fun i hi hik e => ?_)
    · have e' : g = bo := Option.some.inj (show some g = some bo from e)
      omega
    · rw [hlen] at hi
      by_cases h1 : i < k
      · simp only [if_pos h1] at e; have := hVS i (by omega) bo e; omega
      · by_cases h2 : i = k
        · simp only [if_neg h1, if_pos h2] at e; cases e
        · simp only [if_neg h1, if_neg h2] at e; have := hVS (i - 1) (by omega) bo e; omega
  · intro i hi b e
    rw [hlen] at hi
    by_cases h1 : i < k
    · simp only [if_pos h1] at e; exact .inl (hVS i (by omega) b e)
    · by_cases h2 : i = k
      · simp only [if_neg h1, if_pos h2] at e; cases e
      · simp only [if_neg h1, if_neg h2] at e; exact .inl (hVS (i - 1) (by omega) b e)
  · exact ((hD.next hW6).far hg (fun b e => by have := hV b e; omega)).far grown_set (fun b e => by injection e with e; omega)

end Go.Proofs.YtkafanjfjplakaaGreatDoor.Co
