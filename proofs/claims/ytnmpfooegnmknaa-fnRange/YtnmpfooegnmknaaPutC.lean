/- Trees copied by the program: what it answers. -/
import Derived.Test.YtnmpfooegnmknaaPutB
namespace Go.Proofs.Ytnmpfooegnmknaa.Tr
open Go.RowKit
set_option linter.unusedVariables false

theorem step_appP {ops : Array Oper} {o : Oper} {a : Act} {w : World} {K : Act → World → Prop} {Q : Exit → Act → World → Prop} {E : Prop} (hgd : o.guard = none) (s x : Operand)
    (ho : o.op = .call { callee := .builtin .append, args := #[s, x], argTypes := #[35, 35] }) (base n : Nat) (v : Value) (xs : List Value)
    (hs : a.eval s = v) (hown : w.ownsRow base 86 2 v n xs) (ad : Addr) (m c : Nat) (news : List Value) (hx : a.eval x = .slice (some ad) m c) (hl : news.length = m * 2) (hnews : ∀ j u, news[j]? = some u → w.cell? (ad.add j) = some u) (h1 : ∀ u ∈ news, u.oneCell' = true)
    (hn : n ≤ 1000) (hm : m ≤ 1000) (hbase : base ≤ w.heap.size)
    (hK : ∀ v' w', w'.ownsRow base 86 2 v' (n + m) (xs ++ news) → w.grownBy w' v.ownBlock → (v'.ownBlock = v.ownBlock ∨ v'.ownBlock = some w.heap.size) → K (a.put o.dst v') w') : if Region.wanted o (yielded ops a.tmps) = true then Oper.wp Try.prog o a w K Q else E := by
  have hw : Region.wanted o (yielded ops a.tmps) = true := by simp [Region.wanted, hgd]
  rw [if_pos hw]
  obtain ⟨i0, hi, hz0, hz1, hz2⟩ := info_parts infoP
  obtain ⟨v', w', hr, h2, h3, h4, h5⟩ := run_append_own_at (P := Try.prog) w base 35 o.type 86 i0 (.agg #[.int .i64 0, .slice none 0 0]) 2 32 Try.underlying35 hi hz0 hz1 hz2 rfl (by decide) v n xs hown ad m c news hl hnews h1 (by unfold maxLen; omega) (by omega) hbase
  unfold Oper.wp execOp
  simp only [ho, resolve, invoke, builtin, Sem.run_bind, Sem.run_pure, Result.andThen_ok, List.map_toArray, List.map_cons, List.map_nil, hs, hx, hr]
  exact hK v' w' h2 h3 h5
theorem two_newP (w : World) (n : Int) (x : Value) (T : TypeId) : ∀ j u, [Value.int .i64 n, x][j]? = some u → (w.alloc (.cells #[.int .i64 n, x] T)).cell? ((⟨w.heap.size, 0, none⟩ : Addr).add j) = some u := by
  intro j u hj
  match j, hj with
  | 0, hj => simp at hj; subst hj; simp [Addr.add, go_sem]
  | 1, hj => simp at hj; subst hj; simp [Addr.add, go_sem]
  | j + 2, hj => simp at hj
theorem two_oneP (n : Int) (p : Option Addr) (l c : Nat) : ∀ u ∈ [Value.int .i64 n, .slice p l c], u.oneCell' = true := by
  intro u hu
  simp at hu
  rcases hu with rfl | rfl <;> rfl
/-- A tree that is being made in the second new block, the answer's cells in the first; its pages are in a row of their own. -/
structure MkT (w W : World) (v : Value) (num : Int) : Prop where
  bel : Below w.heap.size w W
  lt : w.heap.size + 1 < W.heap.size
  r0 : ∃ u, W.cell? ⟨w.heap.size, 0, none⟩ = some u
  r1 : ∃ u, W.cell? ⟨w.heap.size, 1, none⟩ = some u
  y0 : W.frozen? ⟨w.heap.size, 0, none⟩ = false
  y1 : W.frozen? ⟨w.heap.size, 1, none⟩ = false
  c0 : W.cell? ⟨w.heap.size + 1, 0, none⟩ = some v
  c1 : W.cell? ⟨w.heap.size + 1, 1, none⟩ = some (.int .i64 num)
  z0 : W.frozen? ⟨w.heap.size + 1, 0, none⟩ = false
  z1 : W.frozen? ⟨w.heap.size + 1, 1, none⟩ = false
theorem MkT.start (w : World) (num : Int) (T : TypeId) : MkT w ((w.alloc (.cells #[.slice none 0 0, .int .i64 0] T)).alloc (.cells #[.slice none 0 0, .int .i64 num] T)) (.slice none 0 0) num :=
  ⟨((Below.refl _ _).alloc (Nat.le_refl _) _).alloc (by simp) _, by simp, ⟨.slice none 0 0, by simp [go_sem]⟩, ⟨.int .i64 0, by simp [go_sem]⟩, by simp [go_sem], by simp [go_sem], by simp [go_sem], by simp [go_sem], by simp [go_sem], by simp [go_sem]⟩
theorem MkT.step {w W W' : World} {num : Int} {v : Value} {B : Nat} (h : MkT w W v num) (hb : Below B W W') (hB : w.heap.size + 2 ≤ B) : MkT w W' v num := by
  have hc : ∀ b o, b < B → W'.cell? ⟨b, o, none⟩ = W.cell? ⟨b, o, none⟩ := fun b o hh => hb.cell (p := ⟨b, o, none⟩) hh
  have hf : ∀ b o, b < B → W'.frozen? ⟨b, o, none⟩ = W.frozen? ⟨b, o, none⟩ := fun b o hh => hb.frozen (p := ⟨b, o, none⟩) hh
  refine ⟨h.bel.trans (hb.mono (by omega)), Nat.lt_of_lt_of_le h.lt hb.size, ?_, ?_, ?_, ?_, ?_, ?_, ?_, ?_⟩
  · rw [hc _ _ (by omega)]; exact h.r0
  · rw [hc _ _ (by omega)]; exact h.r1
  · rw [hf _ _ (by omega)]; exact h.y0
  · rw [hf _ _ (by omega)]; exact h.y1
  · rw [hc _ _ (by omega)]; exact h.c0
  · rw [hc _ _ (by omega)]; exact h.c1
  · rw [hf _ _ (by omega)]; exact h.z0
  · rw [hf _ _ (by omega)]; exact h.z1
theorem MkT.next {w W W' : World} {num : Int} {v : Value} (h : MkT w W v num) (hb : Below W.heap.size W W') : MkT w W' v num := h.step hb (by have := h.lt; omega)
theorem MkT.set {w W : World} {num : Int} {v : Value} (h : MkT w W v num) (v' : Value) : MkT w (W.setCell ⟨w.heap.size + 1, 0, none⟩ v') v' num := by
  obtain ⟨u0, h0⟩ := h.r0
  obtain ⟨u1, h1⟩ := h.r1
  have h2 := h.y0; have h3 := h.y1; have h4 := h.c0; have h5 := h.c1; have h6 := h.z0; have h7 := h.z1
  exact ⟨h.bel.setCell (by simp) _, by simpa [World.setCell] using h.lt, ⟨u0, by simp [go_sem, *]⟩, ⟨u1, by simp [go_sem, *]⟩, by simp [go_sem, *], by simp [go_sem, *], by simp [go_sem, *], by simp [go_sem, *], by simp [go_sem, *], by simp [go_sem, *]⟩

theorem PartT.snoc {w w' : World} {base k : Nat} {v v' u : Value} {f : List Pg} {vs : Nat → Value} {xs : List Value} {o : Obj} (h : PartT w base v k f k vs xs) (hk : k < f.length) (hu : OwnE w base u f[k].es)
    (hv : ∀ i, i < f.length → i < k → u.ownBlock = none ∨ u.ownBlock ≠ (vs i).ownBlock) (ha : u.ownBlock = none ∨ u.ownBlock ≠ v.ownBlock)
    (hr : w'.ownsRow base 86 2 v' (k + 1) (xs ++ [.int .i64 f[k].num, u])) (hg : (w.alloc o).grownBy w' v.ownBlock) (hat : v'.ownBlock = v.ownBlock ∨ v'.ownBlock = some (w.alloc o).heap.size) :
    PartT w' base v' (k + 1) f (k + 1) (fun i => if i = k then u else vs i) (xs ++ [.int .i64 f[k].num, u]) := by
  have hl : xs.length = k * 2 := h.row.1
  have hnew : ∀ {x : Value} {m : Nat} {ys : List Value}, w.ownsRow base 40 2 x m ys → (x.ownBlock = none ∨ x.ownBlock ≠ v.ownBlock) → (x.ownBlock = none ∨ x.ownBlock ≠ v'.ownBlock) := by
    intro x m ys hx hh
    rcases hat with e | e
    · rw [e]; exact hh
    · cases hb : x.ownBlock with
      | none => exact .inl rfl
      | some g => exact .inr (fun e2 => by rw [e] at e2; injection e2 with e2; have := (hx.lt g hb).2; simp at e2; omega)
  refine ⟨hr, ?_, ?_, ?_, ?_⟩
  · intro i hi hik
    by_cases e : i = k
    · subst e
      rw [if_pos rfl, List.getElem?_append_right (by omega), List.getElem?_append_right (by omega), hl, Nat.sub_self, show i * 2 + 1 - i * 2 = 1 by omega]
      exact ⟨rfl, rfl⟩
    · rw [if_neg e, List.getElem?_append_left (by omega), List.getElem?_append_left (by omega)]
      exact h.at_ i hi (by omega)
  · intro i hi hik
    by_cases e : i = k
    · subst e; simp only [if_pos]; exact World.ownsRow.kept (World.ownsRow.alloc hu o) hg ha
    · simp only [if_neg e]; exact World.ownsRow.kept (World.ownsRow.alloc (h.ents i hi (by omega)) o) hg (h.aside i hi (by omega))
  · intro i j hi hj hik hjk hne
    by_cases e : i = k
    · subst e
      have e2 : ¬ j = i := fun e => hne e.symm
      simp only [if_pos, if_neg e2]
      exact hv j hj (by omega)
    · by_cases e2 : j = k
      · subst e2
        simp only [if_pos, if_neg e]
        rcases hv i hi (by omega) with hx | hx
        · rw [hx]
          cases hvi : (vs i).ownBlock with
          | none => exact .inl rfl
          | some q => exact .inr (by simp)
        · exact .inr (fun e => hx e.symm)
      · simp only [if_neg e, if_neg e2]
        exact h.apart i j hi hj (by omega) (by omega) hne
  · intro i hi hik
    by_cases e : i = k
    · subst e; simp only [if_pos]; exact hnew hu ha
    · simp only [if_neg e]; exact hnew (h.ents i hi (by omega)) (h.aside i hi (by omega))
theorem PartT.ofSet {w : World} {base b o : Nat} {v x : Value} {n k : Nat} {f : List Pg} {vs : Nat → Value} {xs : List Value} (h : PartT w base v n f k vs xs) (hb : b < base) : PartT (w.setCell ⟨b, o, none⟩ x) base v n f k vs xs := h.grown grown_set hb

end Go.Proofs.Ytnmpfooegnmknaa.Tr
