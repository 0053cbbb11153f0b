/- Collections copied by the program: what it answers. -/
import Derived.Test.YtkafanjfjplakaaGreatDoorCopD
import Derived.Test.YtkafanjfjplakaaGreatDoorColC
namespace Go.Proofs.YtkafanjfjplakaaGreatDoor.Co
open Go.RowKit Tr
set_option linter.unusedVariables false

theorem step_appCh {ops : Array Oper} {o : Oper} {a : Act} {w : World} {K : Act → World → Prop} {Q : Exit → Act → World → Prop} {E : Prop} (hgd : o.guard = none) (s x : Operand)
    (ho : o.op = .call { callee := .builtin .append, args := #[s, x], argTypes := #[27, 27] }) (base n : Nat) (v : Value) (xs : List Value)
    (hs : a.eval s = v) (hown : w.ownsRow base 94 2 v n xs) (ad : Addr) (m c : Nat) (news : List Value) (hx : a.eval x = .slice (some ad) m c) (hl : news.length = m * 2) (hnews : ∀ j u, news[j]? = some u → w.cell? (ad.add j) = some u) (h1 : ∀ u ∈ news, u.oneCell' = true)
    (hn : n ≤ 1000) (hm : m ≤ 1000) (hbase : base ≤ w.heap.size)
    (hK : ∀ v' w', w'.ownsRow base 94 2 v' (n + m) (xs ++ news) → w.grownBy w' v.ownBlock → (v'.ownBlock = v.ownBlock ∨ v'.ownBlock = some w.heap.size) → K (a.put o.dst v') w') : if Region.wanted o (yielded ops a.tmps) = true then Oper.wp Tryz.prog o a w K Q else E := by
  have hw : Region.wanted o (yielded ops a.tmps) = true := by simp [Region.wanted, hgd]
  rw [if_pos hw]
  obtain ⟨i0, hi, hz0, hz1, hz2⟩ := info_parts infoCh
  obtain ⟨v', w', hr, h2, h3, h4, h5⟩ := run_append_own_at (P := Tryz.prog) w base 27 o.type 94 i0 (.agg #[.int .i64 0, .slice none 0 0]) 2 32 Tryz.underlying27 hi hz0 hz1 hz2 rfl (by decide) v n xs hown ad m c news hl hnews h1 (by unfold maxLen; omega) (by omega) hbase
  unfold Oper.wp execOp
  simp only [ho, resolve, invoke, builtin, Sem.run_bind, Sem.run_pure, Result.andThen_ok, List.map_toArray, List.map_cons, List.map_nil, hs, hx, hr]
  exact hK v' w' h2 h3 h5
theorem step_appDf {ops : Array Oper} {o : Oper} {a : Act} {w : World} {K : Act → World → Prop} {Q : Exit → Act → World → Prop} {E : Prop} (hgd : o.guard = none) (s x : Operand)
    (ho : o.op = .call { callee := .builtin .append, args := #[s, x], argTypes := #[28, 28] }) (base n : Nat) (v : Value) (xs : List Value)
    (hs : a.eval s = v) (hown : w.ownsRow base 159 2 v n xs) (ad : Addr) (m c : Nat) (news : List Value) (hx : a.eval x = .slice (some ad) m c) (hl : news.length = m * 2) (hnews : ∀ j u, news[j]? = some u → w.cell? (ad.add j) = some u) (h1 : ∀ u ∈ news, u.oneCell' = true)
    (hn : n ≤ 1000) (hm : m ≤ 1000) (hbase : base ≤ w.heap.size)
    (hK : ∀ v' w', w'.ownsRow base 159 2 v' (n + m) (xs ++ news) → w.grownBy w' v.ownBlock → (v'.ownBlock = v.ownBlock ∨ v'.ownBlock = some w.heap.size) → K (a.put o.dst v') w') : if Region.wanted o (yielded ops a.tmps) = true then Oper.wp Tryz.prog o a w K Q else E := by
  have hw : Region.wanted o (yielded ops a.tmps) = true := by simp [Region.wanted, hgd]
  rw [if_pos hw]
  obtain ⟨i0, hi, hz0, hz1, hz2⟩ := info_parts infoDf
  obtain ⟨v', w', hr, h2, h3, h4, h5⟩ := run_append_own_at (P := Tryz.prog) w base 28 o.type 159 i0 (.agg #[.string em, .slice none 0 0]) 2 40 Tryz.underlying28 hi hz0 hz1 hz2 rfl (by decide) v n xs hown ad m c news hl hnews h1 (by unfold maxLen; omega) (by omega) hbase
  unfold Oper.wp execOp
  simp only [ho, resolve, invoke, builtin, Sem.run_bind, Sem.run_pure, Result.andThen_ok, List.map_toArray, List.map_cons, List.map_nil, hs, hx, hr]
  exact hK v' w' h2 h3 h5
theorem PartCh.snoc {w w' : World} {base k : Nat} {v v' u : Value} {f : List Chn} {vs : Nat → Value} {xs : List Value} {o : Obj} {en : Chn} (h : PartCh w base v k f k vs xs) (hk : k < f.length) (he : en = f[k]) (hu : OwnVr w base u en.vs)
    (hv : ∀ i, i < f.length → i < k → u.ownBlock = none ∨ u.ownBlock ≠ (vs i).ownBlock) (ha : u.ownBlock = none ∨ u.ownBlock ≠ v.ownBlock)
    (hr : w'.ownsRow base 94 2 v' (k + 1) (xs ++ [.int .i64 en.id, u])) (hg : (w.alloc o).grownBy w' v.ownBlock) (hat : v'.ownBlock = v.ownBlock ∨ v'.ownBlock = some (w.alloc o).heap.size) :
    PartCh w' base v' (k + 1) f (k + 1) (fun i => if i = k then u else vs i) (xs ++ [.int .i64 en.id, u]) := by
  subst he
  have hl : xs.length = k * 2 := h.row.1
  have hnew : ∀ {x : Value} {m : Nat} {ys : List Value}, w.ownsRow base 96 5 x m ys → (x.ownBlock = none ∨ x.ownBlock ≠ v.ownBlock) → (x.ownBlock = none ∨ x.ownBlock ≠ v'.ownBlock) := by
    intro x m ys hx hh
    rcases hat with e | e
    · rw [e]; exact hh
    · cases hb : x.ownBlock with
      | none => exact .inl rfl
      | some g => exact .inr (fun e2 => by rw [e] at e2; injection e2 with e2; have := (hx.lt g hb).2; simp at e2; omega)
  refine ⟨hr, ?_, ?_, ?_, ?_⟩
  · intro i hi hik
    by_cases e : i = k
    · subst e
      rw [if_pos rfl, List.getElem?_append_right (by omega), List.getElem?_append_right (by omega), hl, Nat.sub_self, show i * 2 + 1 - i * 2 = 1 by omega]
      exact ⟨rfl, rfl⟩
    · rw [if_neg e, List.getElem?_append_left (by omega), List.getElem?_append_left (by omega)]
      exact h.at_ i hi (by omega)
  · intro i hi hik
    by_cases e : i = k
    · subst e; simp only [if_pos]; exact World.ownsRow.kept (World.ownsRow.alloc hu o) hg ha
    · simp only [if_neg e]; exact World.ownsRow.kept (World.ownsRow.alloc (h.ents i hi (by omega)) o) hg (h.aside i hi (by omega))
  · intro i j hi hj hik hjk hne
    by_cases e : i = k
    · subst e
      have e2 : ¬ j = i := fun e => hne e.symm
      simp only [if_pos, if_neg e2]
      exact hv j hj (by omega)
    · by_cases e2 : j = k
      · subst e2
        simp only [if_pos, if_neg e]
        rcases hv i hi (by omega) with hx | hx
        · rw [hx]
          cases hvi : (vs i).ownBlock with
          | none => exact .inl rfl
          | some q => exact .inr (by simp)
        · exact .inr (fun e => hx e.symm)
      · simp only [if_neg e, if_neg e2]
        exact h.apart i j hi hj (by omega) (by omega) hne
  · intro i hi hik
    by_cases e : i = k
    · subst e; simp only [if_pos]; exact hnew hu ha
    · simp only [if_neg e]; exact hnew (h.ents i hi (by omega)) (h.aside i hi (by omega))
theorem PartCh.ofSet {w : World} {base b o : Nat} {v x : Value} {n k : Nat} {f : List Chn} {vs : Nat → Value} {xs : List Value} (h : PartCh w base v n f k vs xs) (hb : b < base) : PartCh (w.setCell ⟨b, o, none⟩ x) base v n f k vs xs := h.grown grown_set hb
theorem PartDf.snoc {w w' : World} {base k : Nat} {v v' u : Value} {f : List Dfn} {vs : Nat → Value} {xs : List Value} {o : Obj} {en : Dfn} (h : PartDf w base v k f k vs xs) (hk : k < f.length) (he : en = f[k]) (hu : OwnD w base u en.ps)
    (hv : ∀ i, i < f.length → i < k → u.ownBlock = none ∨ u.ownBlock ≠ (vs i).ownBlock) (ha : u.ownBlock = none ∨ u.ownBlock ≠ v.ownBlock)
    (hr : w'.ownsRow base 159 2 v' (k + 1) (xs ++ [.string en.name, u])) (hg : (w.alloc o).grownBy w' v.ownBlock) (hat : v'.ownBlock = v.ownBlock ∨ v'.ownBlock = some (w.alloc o).heap.size) :
    PartDf w' base v' (k + 1) f (k + 1) (fun i => if i = k then u else vs i) (xs ++ [.string en.name, u]) := by
  subst he
  have hl : xs.length = k * 2 := h.row.1
  have hnew : ∀ {x : Value} {m : Nat} {ys : List Value}, w.ownsRow base 200 2 x m ys → (x.ownBlock = none ∨ x.ownBlock ≠ v.ownBlock) → (x.ownBlock = none ∨ x.ownBlock ≠ v'.ownBlock) := by
    intro x m ys hx hh
    rcases hat with e | e
    · rw [e]; exact hh
    · cases hb : x.ownBlock with
      | none => exact .inl rfl
      | some g => exact .inr (fun e2 => by rw [e] at e2; injection e2 with e2; have := (hx.lt g hb).2; simp at e2; omega)
  refine ⟨hr, ?_, ?_, ?_, ?_⟩
  · intro i hi hik
    by_cases e : i = k
    · subst e
      rw [if_pos rfl, List.getElem?_append_right (by omega), List.getElem?_append_right (by omega), hl, Nat.sub_self, show i * 2 + 1 - i * 2 = 1 by omega]
      exact ⟨rfl, rfl⟩
    · rw [if_neg e, List.getElem?_append_left (by omega), List.getElem?_append_left (by omega)]
      exact h.at_ i hi (by omega)
  · intro i hi hik
    by_cases e : i = k
    · subst e; simp only [if_pos]; exact World.ownsRow.kept (World.ownsRow.alloc hu o) hg ha
    · simp only [if_neg e]; exact World.ownsRow.kept (World.ownsRow.alloc (h.ents i hi (by omega)) o) hg (h.aside i hi (by omega))
  · intro i j hi hj hik hjk hne
    by_cases e : i = k
    · subst e
      have e2 : ¬ j = i := fun e => hne e.symm
      simp only [if_pos, if_neg e2]
      exact hv j hj (by omega)
    · by_cases e2 : j = k
      · subst e2
        simp only [if_pos, if_neg e]
        rcases hv i hi (by omega) with hx | hx
        · rw [hx]
          cases hvi : (vs i).ownBlock with
          | none => exact .inl rfl
          | some q => exact .inr (by simp)
        · exact .inr (fun e => hx e.symm)
      · simp only [if_neg e, if_neg e2]
        exact h.apart i j hi hj (by omega) (by omega) hne
  · intro i hi hik
    by_cases e : i = k
    · subst e; simp only [if_pos]; exact hnew hu ha
    · simp only [if_neg e]; exact hnew (h.ents i hi (by omega)) (h.aside i hi (by omega))
theorem PartDf.ofSet {w : World} {base b o : Nat} {v x : Value} {n k : Nat} {f : List Dfn} {vs : Nat → Value} {xs : List Value} (h : PartDf w base v n f k vs xs) (hb : b < base) : PartDf (w.setCell ⟨b, o, none⟩ x) base v n f k vs xs := h.grown grown_set hb
theorem two_newA (w : World) (n x : Value) (T : TypeId) : ∀ j u, [n, x][j]? = some u → (w.alloc (.cells #[n, x] T)).cell? ((⟨w.heap.size, 0, none⟩ : Addr).add j) = some u := by
  intro j u hj
  match j, hj with
  | 0, hj => simp at hj; subst hj; simp [Addr.add, go_sem]
  | 1, hj => simp at hj; subst hj; simp [Addr.add, go_sem]
  | j + 2, hj => simp at hj
theorem two_oneA (n : Value) (h : n.oneCell' = true) (p : Option Addr) (l c : Nat) : ∀ u ∈ [n, .slice p l c], u.oneCell' = true := by
  intro u hu
  simp at hu
  rcases hu with rfl | rfl
  · exact h
  · rfl
theorem chg_low {B : Nat} {w w' : World} (h : Below B w w') : Chg B w.heap.size w w' := ⟨h.os, h.tape, h.output, h.size, fun k hk ho => h.block k (by omega)⟩
/-- The argument's box of three cells in the first new block, the answer's three cells in the second. -/
structure MkS (w W : World) (x y z : Value) : Prop where
  bel : Below w.heap.size w W
  lt : w.heap.size + 1 < W.heap.size
  b0 : W.cell? ⟨w.heap.size, 0, none⟩ = some x
  b1 : W.cell? ⟨w.heap.size, 1, none⟩ = some y
  b2 : W.cell? ⟨w.heap.size, 2, none⟩ = some z
  r0 : ∃ u, W.cell? ⟨w.heap.size + 1, 0, none⟩ = some u
  r1 : ∃ u, W.cell? ⟨w.heap.size + 1, 1, none⟩ = some u
  r2 : ∃ u, W.cell? ⟨w.heap.size + 1, 2, none⟩ = some u
  y0 : ∀ o, W.frozen? ⟨w.heap.size + 1, o, none⟩ = false
theorem MkS.start (w : World) (x y z p q r : Value) (T T2 : TypeId) : MkS w ((w.alloc (.cells #[x, y, z] T)).alloc (.cells #[p, q, r] T2)) x y z :=
  ⟨((Below.refl _ _).alloc (Nat.le_refl _) _).alloc (by simp) _, by simp, by simp [go_sem], by simp [go_sem], by simp [go_sem], ⟨p, by simp [go_sem]⟩, ⟨q, by simp [go_sem]⟩, ⟨r, by simp [go_sem]⟩, fun o => by simp [go_sem]⟩
theorem MkS.step {w W W' : World} {x y z : Value} {B : Nat} (h : MkS w W x y z) (hb : Below B W W') (hB : w.heap.size + 2 ≤ B) : MkS w W' x y z := by
  have hc : ∀ b o, b < B → W'.cell? ⟨b, o, none⟩ = W.cell? ⟨b, o, none⟩ := fun b o hh => hb.cell (p := ⟨b, o, none⟩) hh
  have hf : ∀ b o, b < B → W'.frozen? ⟨b, o, none⟩ = W.frozen? ⟨b, o, none⟩ := fun b o hh => hb.frozen (p := ⟨b, o, none⟩) hh
  refine ⟨h.bel.trans (hb.mono (by omega)), Nat.lt_of_lt_of_le h.lt hb.size, ?_, ?_, ?_, ?_, ?_, ?_, fun o => ?_⟩
  · rw [hc _ _ (by omega)]; exact h.b0
  · rw [hc _ _ (by omega)]; exact h.b1
  · rw [hc _ _ (by omega)]; exact h.b2
  · rw [hc _ _ (by omega)]; exact h.r0
  · rw [hc _ _ (by omega)]; exact h.r1
  · rw [hc _ _ (by omega)]; exact h.r2
  · rw [hf _ _ (by omega)]; exact h.y0 o
theorem MkS.next {w W W' : World} {x y z : Value} (h : MkS w W x y z) (hb : Below W.heap.size W W') : MkS w W' x y z := h.step hb (by have := h.lt; omega)
/-- .. and a collection that is being made in a later block. -/
structure MkL (w W : World) (g : Nat) (z nm v u : Value) : Prop where
  bel : Below w.heap.size w W
  lo : w.heap.size + 1 < g
  lt : g < W.heap.size
  b2 : W.cell? ⟨w.heap.size, 2, none⟩ = some z
  r0 : ∃ u, W.cell? ⟨w.heap.size + 1, 0, none⟩ = some u
  r1 : ∃ u, W.cell? ⟨w.heap.size + 1, 1, none⟩ = some u
  r2 : ∃ u, W.cell? ⟨w.heap.size + 1, 2, none⟩ = some u
  y0 : ∀ o, W.frozen? ⟨w.heap.size + 1, o, none⟩ = false
  c0 : W.cell? ⟨g, 0, none⟩ = some nm
  c1 : W.cell? ⟨g, 1, none⟩ = some v
  c2 : W.cell? ⟨g, 2, none⟩ = some u
  z0 : ∀ o, W.frozen? ⟨g, o, none⟩ = false
theorem MkL.start {w W : World} {x y z : Value} (h : MkS w W x y z) (nm v u : Value) (T : TypeId) : MkL w (W.alloc (.cells #[nm, v, u] T)) W.heap.size z nm v u := by
  have h1 := h.next (W' := W.alloc (.cells #[nm, v, u] T)) ((Below.refl _ _).alloc (Nat.le_refl _) _)
  exact ⟨h1.bel, h.lt, by simp, h1.b2, h1.r0, h1.r1, h1.r2, h1.y0, by simp [go_sem], by simp [go_sem], by simp [go_sem], fun o => by simp [go_sem]⟩
theorem MkL.step {w W W' : World} {g : Nat} {z nm v u : Value} {B : Nat} (h : MkL w W g z nm v u) (hb : Below B W W') (hB : g + 1 ≤ B) : MkL w W' g z nm v u := by
  have hg := h.lo
  have hc : ∀ b o, b < B → W'.cell? ⟨b, o, none⟩ = W.cell? ⟨b, o, none⟩ := fun b o hh => hb.cell (p := ⟨b, o, none⟩) hh
  have hf : ∀ b o, b < B → W'.frozen? ⟨b, o, none⟩ = W.frozen? ⟨b, o, none⟩ := fun b o hh => hb.frozen (p := ⟨b, o, none⟩) hh
  refine ⟨h.bel.trans (hb.mono (by omega)), hg, Nat.lt_of_lt_of_le h.lt hb.size, ?_, ?_, ?_, ?_, fun o => ?_, ?_, ?_, ?_, fun o => ?_⟩
  · rw [hc _ _ (by omega)]; exact h.b2
  · rw [hc _ _ (by omega)]; exact h.r0
  · rw [hc _ _ (by omega)]; exact h.r1
  · rw [hc _ _ (by omega)]; exact h.r2
  · rw [hf _ _ (by omega)]; exact h.y0 o
  · rw [hc _ _ (by omega)]; exact h.c0
  · rw [hc _ _ (by omega)]; exact h.c1
  · rw [hc _ _ (by omega)]; exact h.c2
  · rw [hf _ _ (by omega)]; exact h.z0 o
theorem MkL.next {w W W' : World} {g : Nat} {z nm v u : Value} (h : MkL w W g z nm v u) (hb : Below W.heap.size W W') : MkL w W' g z nm v u := h.step hb h.lt
theorem MkL.set1 {w W : World} {g : Nat} {z nm v u : Value} (h : MkL w W g z nm v u) (v' : Value) : MkL w (W.setCell ⟨g, 1, none⟩ v') g z nm v' u := by
  obtain ⟨u0, h0⟩ := h.r0
  obtain ⟨u1, h1⟩ := h.r1
  obtain ⟨u2, h2⟩ := h.r2
  have hlo := h.lo
  have hne : ¬ w.heap.size + 1 = g := by omega
  have hne2 : ¬ g = w.heap.size + 1 := by omega
  have hne3 : ¬ w.heap.size = g := by omega
  have hne4 : ¬ g = w.heap.size := by omega
  have h3 := h.y0; have h4 := h.c0; have h5 := h.c1; have h6 := h.z0; have h7 := h.c2; have h8 := h.b2
  exact ⟨h.bel.setCell (by simp; omega) _, hlo, by simpa [World.setCell] using h.lt, by simp [go_sem, *], ⟨u0, by simp [go_sem, *]⟩, ⟨u1, by simp [go_sem, *]⟩, ⟨u2, by simp [go_sem, *]⟩, fun o => by simp [go_sem, *], by simp [go_sem, *], by simp [go_sem, *], by simp [go_sem, *], fun o => by simp [go_sem, *]⟩
theorem MkL.set2 {w W : World} {g : Nat} {z nm v u : Value} (h : MkL w W g z nm v u) (v' : Value) : MkL w (W.setCell ⟨g, 2, none⟩ v') g z nm v v' := by
  obtain ⟨u0, h0⟩ := h.r0
  obtain ⟨u1, h1⟩ := h.r1
  obtain ⟨u2, h2⟩ := h.r2
  have hlo := h.lo
  have hne : ¬ w.heap.size + 1 = g := by omega
  have hne2 : ¬ g = w.heap.size + 1 := by omega
  have hne3 : ¬ w.heap.size = g := by omega
  have hne4 : ¬ g = w.heap.size := by omega
  have h3 := h.y0; have h4 := h.c0; have h5 := h.c1; have h6 := h.z0; have h7 := h.c2; have h8 := h.b2
  exact ⟨h.bel.setCell (by simp; omega) _, hlo, by simpa [World.setCell] using h.lt, by simp [go_sem, *], ⟨u0, by simp [go_sem, *]⟩, ⟨u1, by simp [go_sem, *]⟩, ⟨u2, by simp [go_sem, *]⟩, fun o => by simp [go_sem, *], by simp [go_sem, *], by simp [go_sem, *], by simp [go_sem, *], fun o => by simp [go_sem, *]⟩

end Go.Proofs.YtkafanjfjplakaaGreatDoor.Co
