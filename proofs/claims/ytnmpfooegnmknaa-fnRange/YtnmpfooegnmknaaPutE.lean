/- An entry dropped by the specification: what it answers. -/
import Derived.Test.YtnmpfooegnmknaaPutD
import Derived.Test.YtnmpfooegnmknaaPutN
import Derived.Test.YtnmpfooegnmknaaFulP
import Derived.Laws.StructEq
namespace Go.Proofs.Ytnmpfooegnmknaa.Tr
open Go.RowKit
set_option linter.unusedVariables false

/-- The blocks of the specification's drop: the tree, the entry, the answer. -/
structure MkD (w W : World) (v : Value) (next : Int) (e : Ent) : Prop where
  bel : Below w.heap.size w W
  lt : w.heap.size + 2 < W.heap.size
  c0 : W.cell? ⟨w.heap.size, 0, none⟩ = some v
  c1 : W.cell? ⟨w.heap.size, 1, none⟩ = some (.int .i64 next)
  z0 : W.frozen? ⟨w.heap.size, 0, none⟩ = false
  z1 : W.frozen? ⟨w.heap.size, 1, none⟩ = false
  d0 : W.cell? ⟨w.heap.size + 1, 0, none⟩ = some (.string e.key)
  d1 : W.cell? ⟨w.heap.size + 1, 1, none⟩ = some (.int .i64 e.id)
  r0 : W.cell? ⟨w.heap.size + 2, 0, none⟩ = some (.slice none 0 0)
  r1 : W.cell? ⟨w.heap.size + 2, 1, none⟩ = some (.int .i64 0)
  y0 : W.frozen? ⟨w.heap.size + 2, 0, none⟩ = false
  y1 : W.frozen? ⟨w.heap.size + 2, 1, none⟩ = false
theorem MkD.start (w : World) (v : Value) (next : Int) (e : Ent) (T T2 : TypeId) : MkD w (((w.alloc (.cells #[v, .int .i64 next] T)).alloc (.cells #[.string e.key, .int .i64 e.id] T2)).alloc (.cells #[.slice none 0 0, .int .i64 0] T)) v next e :=
  ⟨(((Below.refl _ _).alloc (Nat.le_refl _) _).alloc (by simp) _).alloc (by simp; omega) _, by simp, by simp [go_sem], by simp [go_sem], by simp [go_sem], by simp [go_sem], by simp [go_sem], by simp [go_sem], by simp [go_sem], by simp [go_sem], by simp [go_sem], by simp [go_sem]⟩
theorem MkD.step {w W W' : World} {v : Value} {next : Int} {e : Ent} {B : Nat} (h : MkD w W v next e) (hb : Below B W W') (hB : w.heap.size + 3 ≤ B) : MkD w W' v next e := by
  have hc : ∀ b o, b < B → W'.cell? ⟨b, o, none⟩ = W.cell? ⟨b, o, none⟩ := fun b o hh => hb.cell (p := ⟨b, o, none⟩) hh
  have hf : ∀ b o, b < B → W'.frozen? ⟨b, o, none⟩ = W.frozen? ⟨b, o, none⟩ := fun b o hh => hb.frozen (p := ⟨b, o, none⟩) hh
  exact ⟨h.bel.trans (hb.mono (by omega)), Nat.lt_of_lt_of_le h.lt hb.size, (hc _ _ (by omega)).trans h.c0, (hc _ _ (by omega)).trans h.c1, (hf _ _ (by omega)).trans h.z0, (hf _ _ (by omega)).trans h.z1, (hc _ _ (by omega)).trans h.d0, (hc _ _ (by omega)).trans h.d1, (hc _ _ (by omega)).trans h.r0, (hc _ _ (by omega)).trans h.r1, (hf _ _ (by omega)).trans h.y0, (hf _ _ (by omega)).trans h.y1⟩
theorem MkD.next {w W W' : World} {v : Value} {next : Int} {e : Ent} (h : MkD w W v next e) (hb : Below W.heap.size W W') : MkD w W' v next e := h.step hb (by have := h.lt; omega)
theorem MkD.set {w W : World} {v v' : Value} {next : Int} {e : Ent} (h : MkD w W v next e) : MkD w ((W.setCell ⟨w.heap.size, 0, none⟩ v').setCell ⟨w.heap.size, 1, none⟩ (.int .i64 next)) v' next e := by
  obtain ⟨b, l, c0, c1, z0, z1, d0, d1, r0, r1, y0, y1⟩ := h
  exact ⟨(b.setCell (by simp) _).setCell (by simp) _, by simpa using l, by simp [go_sem, *], by simp [go_sem, *], by simp [go_sem, *], by simp [go_sem, *], by simp [go_sem, *], by simp [go_sem, *], by simp [go_sem, *], by simp [go_sem, *], by simp [go_sem, *], by simp [go_sem, *]⟩

theorem eqEnt (a c : ByteArray) (b d : Int) (w : World) : (Op.equalIn 10000 40 (.agg #[.string a, .int .i64 b]) (.agg #[.string c, .int .i64 d])).run Try.prog w = .ok (a.toList == c.toList && b == d) w := by
  have u3 := Try.underlying3
  have u4 := Try.underlying9
  have a3 := Try.isAgg3
  have z3 := Try.sizeOf3
  have a4 := Try.isAgg9
  have z4 := Try.sizeOf9
  have hS : Try.prog.underlying 40 = some (.struct (Try.prog.fieldsOf 40)) := by kernel_rfl
  have hp : Try.prog.stoodInHeld 40 = false := by kernel_rfl
  rw [show (10000 : Nat) = 9999 + 1 from rfl, run_equalIn_agg w 9999 40 _ _ hS hp]
  simp only [Program.fieldsOf, Try.underlying40]
  go_simp
  by_cases h1 : a.toList = c.toList <;> by_cases h2 : b = d <;> simp [h1, h2]
theorem neqEnt (x y : Ent) (w : World) : (binOp .neq 40 (.agg #[.string x.key, .int .i64 x.id]) (.agg #[.string y.key, .int .i64 y.id])).run Try.prog w = .ok (.bool (!(x.key.toList == y.key.toList && x.id == y.id))) w := by
  rw [run_neq_struct, eqEnt]; rfl
theorem ent_beq (x y : Ent) : (x.key.toList == y.key.toList && x.id == y.id) = true ↔ x = y := by
  rw [Bool.and_eq_true, eqL, beq_iff_eq]
  exact ⟨fun h => ent_ext h.1 h.2, fun h => by rw [h]; exact ⟨rfl, rfl⟩⟩
theorem owns_slice {w : World} {base n : Nat} {T : TypeId} {size : Nat} {v : Value} {xs : List Value} (h : w.ownsRow base T size v n xs) : ∃ p cap, v = .slice p n cap := by
  obtain ⟨h1, h2⟩ := h
  rcases h2 with ⟨h2, h3⟩ | ⟨g, cap, cur, hv, hg, hh, r⟩
  · subst h3; exact ⟨_, _, h2⟩
  · exact ⟨_, _, hv⟩
/-- A page's entries exchanged for a row of their own that is newer than the tree. -/
theorem OwnT.swap {w5 w : World} {base g cap k : Nat} {f : List Pg} {u : Value} {es : List Ent} (h5 : OwnT w5 base (.slice (some ⟨g, 0, none⟩) f.length cap) f) (hb : Below w5.heap.size w5 w) (hk : k < f.length) (hu : OwnE w w5.heap.size u es) (hbs : base ≤ w5.heap.size) :
    OwnT (w.setCell ⟨g, k * 2 + 1, none⟩ u) base (.slice (some ⟨g, 0, none⟩) f.length cap) (f.set k ⟨f[k].num, es⟩) := by
  obtain ⟨vs, xs, h⟩ := h5
  have hn := h.next hb
  have hg := (h.row.lt g rfl).2
  have hl : xs.length = f.length * 2 := h.row.1
  have hr := (World.ownsRow.stored hn.row (k * 2 + 1) u).1
  have hub : ∀ b, u.ownBlock = some b → w5.heap.size ≤ b := fun b hb => (World.ownsRow.lt hu b hb).1
  have hd : ∀ {x : Value}, (∀ b, x.ownBlock = some b → b < w5.heap.size) → u.ownBlock = none ∨ u.ownBlock ≠ x.ownBlock := by
    intro x hx
    cases hq : u.ownBlock with
    | none => exact .inl rfl
    | some b => exact .inr (fun e => by have h1 := hub b hq; have h2 := hx b e.symm; omega)
  have hdi : ∀ i (hi : i < f.length), ∀ b, (vs i).ownBlock = some b → b < w5.heap.size := fun i hi b hb => (World.ownsRow.lt (h.ents i hi hi) b hb).2
  have hdg : u.ownBlock = none ∨ u.ownBlock ≠ some g := hd (x := .slice (some ⟨g, 0, none⟩) f.length cap) (fun b hb => by cases hb; exact hg)
  refine ⟨fun i => if i = k then u else vs i, xs.set (k * 2 + 1) u, ?_⟩
  rw [List.length_set]
  refine ⟨hr, ?_, ?_, ?_, ?_⟩
  · intro i hi hik
    by_cases e : i = k
    · subst e
      rw [if_pos rfl, List.getElem?_set_ne (by omega), List.getElem?_set_self (by omega), List.getElem_set_self]
      exact ⟨(hn.at_ i hik hik).1, rfl⟩
    · rw [if_neg e, List.getElem?_set_ne (by omega), List.getElem?_set_ne (by omega), List.getElem_set_ne (fun x => e x.symm)]
      exact hn.at_ i hik hik
  · intro i hi hik
    by_cases e : i = k
    · subst e; simp only [if_pos, List.getElem_set_self]; exact owns_mono (World.ownsRow.kept hu grown_set hdg) hbs
    · simp only [if_neg e]; rw [List.getElem_set_ne (fun x => e x.symm)]; exact World.ownsRow.kept (hn.ents i hik hik) grown_set (hn.aside i hik hik)
  · intro i j _ _ hi hj hne
    by_cases e : i = k
    · subst e
      have e2 : ¬ j = i := fun e => hne e.symm
      simp only [if_pos, if_neg e2]
      exact hd (hdi j hj)
    · by_cases e2 : j = k
      · subst e2
        simp only [if_pos, if_neg e]
        rcases hd (hdi i hi) with hx | hx
        · rw [hx]
          cases hvi : (vs i).ownBlock with
          | none => exact .inl rfl
          | some q => exact .inr (by simp)
        · exact .inr (fun e => hx e.symm)
      · simp only [if_neg e, if_neg e2]
        exact hn.apart i j hi hj hi hj hne
  · intro i _ hik
    by_cases e : i = k
    · subst e; simp only [if_pos]; exact hdg
    · simp only [if_neg e]; exact hn.aside i hik hik
theorem own_soft {w : World} {base g cap n : Nat} {T : TypeId} {size : Nat} {xs : List Value} (h : w.ownsRow base T size (.slice (some ⟨g, 0, none⟩) n cap) n xs) (j : Nat) : w.frozen? ⟨g, j, none⟩ = false := by
  rcases h.2 with ⟨h', _⟩ | ⟨g', cap', cur, h', hb, hg, _⟩
  · simp at h'
  · simp only [Value.slice.injEq, Option.some.injEq, Addr.mk.injEq, and_true, true_and] at h'
    obtain ⟨rfl, rfl⟩ := h'
    simp [World.frozen?, hg]
theorem keepD {w W w0 : World} {v : Value} (a0 : W.cell? ⟨w.heap.size, 0, none⟩ = some v) (hb : Below (w.heap.size + 3) W w0) :
    w0.cell? ⟨w.heap.size, 0, none⟩ = some v := (hb.cell (p := ⟨w.heap.size, 0, none⟩) (by simp)).trans a0
theorem cutHeadE (b off n ca q : Nat) (h : q ≤ ca) (W : World) : (Instr.slice 47 (.slice (some ⟨b, off, none⟩) n ca) none (some (.int .i64 q)) none).run Try.prog W = .ok (.slice (some ⟨b, off, none⟩) q ca) W := by
  have he : Try.prog.elem 47 = 40 := by kernel_rfl
  refine (run_slice_h (P := Try.prog) (w := W) 47 (some ⟨b, off, none⟩) n ca (by kernel_rfl) .i64 q (by omega) (by omega)).trans ?_
  rw [he, Try.sizeOf40]
  simp [sliced, Result.andThen, Addr.add]
theorem cutTailE (b off n ca q : Nat) (h : q ≤ n) (W : World) : (Instr.slice 47 (.slice (some ⟨b, off, none⟩) n ca) (some (.int .i64 q)) none none).run Try.prog W = .ok (.slice (some ⟨b, if ca = q then off else off + q * 2, none⟩) (n - q) (ca - q)) W := by
  have he : Try.prog.elem 47 = 40 := by kernel_rfl
  refine (run_slice_l (P := Try.prog) (w := W) 47 (some ⟨b, off, none⟩) n ca (by kernel_rfl) .i64 q (by omega) (by omega)).trans ?_
  rw [he, Try.sizeOf40]
  simp only [sliced, Result.andThen, Int.toNat_natCast]
  split <;> simp [Addr.add]
theorem cutHeadP (b off n ca q : Nat) (h : q ≤ ca) (W : World) : (Instr.slice 35 (.slice (some ⟨b, off, none⟩) n ca) none (some (.int .i64 q)) none).run Try.prog W = .ok (.slice (some ⟨b, off, none⟩) q ca) W := by
  have he : Try.prog.elem 35 = 86 := by kernel_rfl
  refine (run_slice_h (P := Try.prog) (w := W) 35 (some ⟨b, off, none⟩) n ca (by kernel_rfl) .i64 q (by omega) (by omega)).trans ?_
  rw [he, Try.sizeOf86]
  simp [sliced, Result.andThen, Addr.add]
theorem cutTailP (b off n ca q : Nat) (h : q ≤ n) (W : World) : (Instr.slice 35 (.slice (some ⟨b, off, none⟩) n ca) (some (.int .i64 q)) none none).run Try.prog W = .ok (.slice (some ⟨b, if ca = q then off else off + q * 2, none⟩) (n - q) (ca - q)) W := by
  have he : Try.prog.elem 35 = 86 := by kernel_rfl
  refine (run_slice_l (P := Try.prog) (w := W) 35 (some ⟨b, off, none⟩) n ca (by kernel_rfl) .i64 q (by omega) (by omega)).trans ?_
  rw [he, Try.sizeOf86]
  simp only [sliced, Result.andThen, Int.toNat_natCast]
  split <;> simp [Addr.add]
theorem own_set {w : World} {base b o : Nat} {T : TypeId} {s m : Nat} {u x : Value} {ys : List Value} (ho : w.ownsRow base T s u m ys) (hb : b < base) : (w.setCell ⟨b, o, none⟩ x).ownsRow base T s u m ys :=
  ho.kept grown_set (by
    cases hu : u.ownBlock with
    | none => exact .inl rfl
    | some q => exact .inr (fun e => by injection e with e; have := (ho.lt q hu).1; omega))
theorem own_take {w : World} {base g cap n : Nat} {T : TypeId} {size : Nat} {xs : List Value} (h : w.ownsRow base T size (.slice (some ⟨g, 0, none⟩) n cap) n xs) (m : Nat) : ∀ j u, (xs.take m)[j]? = some u → w.cell? ((⟨g, 0, none⟩ : Addr).add j) = some u := by
  intro j u hj
  have hadd : (⟨g, 0, none⟩ : Addr).add j = ⟨g, j, none⟩ := by unfold Addr.add; split <;> simp_all
  rw [hadd]
  rw [List.getElem?_take] at hj
  split at hj
  · exact owns_cell h j u hj
  · cases hj
theorem own_drop {w : World} {base g cap n : Nat} {T : TypeId} {size : Nat} {xs : List Value} (h : w.ownsRow base T size (.slice (some ⟨g, 0, none⟩) n cap) n xs) (m : Nat) : ∀ j u, (xs.drop m)[j]? = some u → w.cell? ((⟨g, m, none⟩ : Addr).add j) = some u := by
  intro j u hj
  have hadd : (⟨g, m, none⟩ : Addr).add j = ⟨g, m + j, none⟩ := by unfold Addr.add; split <;> simp_all
  rw [hadd]
  rw [List.getElem?_drop] at hj
  exact owns_cell h _ u hj
theorem PartT.one {w : World} {base : Nat} {v : Value} {n : Nat} {f : List Pg} {vs : Nat → Value} {xs : List Value} (h : PartT w base v n f n vs xs) (hn : f.length = n) : ∀ u ∈ xs, u.oneCell' = true := by
  intro u hu
  obtain ⟨j, hj, rfl⟩ := List.mem_iff_getElem.1 hu
  have hl : xs.length = n * 2 := h.row.1
  obtain ⟨a0, a1⟩ := h.at_ (j / 2) (by omega) (by omega)
  rcases (show j % 2 = 0 ∨ j % 2 = 1 by omega) with e | e
  · rw [show j / 2 * 2 = j by omega, List.getElem?_eq_getElem hj] at a0
    injection a0 with a0; rw [a0]; rfl
  · rw [show j / 2 * 2 + 1 = j by omega, List.getElem?_eq_getElem hj] at a1
    injection a1 with a1; rw [a1]
    obtain ⟨p, c, e1, _⟩ := (h.ents (j / 2) (by omega) (by omega)).inE
    rw [e1]; rfl
/-- A tree's pages without one, in a row of their own. -/
theorem PartT.cut {w w' : World} {base B m k : Nat} {v : Value} {f : List Pg} {vs : Nat → Value} {xs : List Value} {p : Option Addr} {cap n : Nat} (h : PartT w base v n f n vs xs) (hn : f.length = n) (hb : Below w.heap.size w w') (hk : k < f.length) (hm : m = f.length - 1) (h0 : 0 < m)
    (ho : w'.ownsRow B 86 2 (.slice p m cap) m (xs.take (k * 2) ++ xs.drop ((k + 1) * 2))) : RowF w' p (f.eraseIdx k) := by
  subst hn
  have hl : (f.eraseIdx k).length = f.length - 1 := List.length_eraseIdx_of_lt hk
  have hxl : xs.length = f.length * 2 := h.row.1
  obtain ⟨g, c, hv, _, hg, _, _⟩ := owns_form ho h0
  cases hv
  have hlk : (xs.take (k * 2)).length = k * 2 := by rw [List.length_take]; omega
  refine ⟨g, rfl, hg, fun i hi => ?_⟩
  have key : ∀ j (hj : j < f.length), (f.eraseIdx k)[i] = f[j] → (xs.take (k * 2) ++ xs.drop ((k + 1) * 2))[i * 2]? = xs[j * 2]? → (xs.take (k * 2) ++ xs.drop ((k + 1) * 2))[i * 2 + 1]? = xs[j * 2 + 1]? → ∃ q c, PgC w' g (i * 2) q c (f.eraseIdx k)[i] := by
    intro j hj e1 e2 e3
    obtain ⟨a0, a1⟩ := h.at_ j hj hj
    obtain ⟨pp, cc, q1, q3, q2, q4⟩ := OwnE.room (show OwnE w' base (vs j) f[j].es from owns_below (h.ents j hj hj) hb)
    rw [e1]
    exact ⟨pp, cc, hg, owns_cell ho _ _ (e2.trans a0), owns_cell ho _ _ (e3.trans (a1.trans (by rw [q1]))), q3, q2, q4⟩
  by_cases hik : i < k
  · refine key i (by omega) (List.getElem_eraseIdx_of_lt _ hik) ?_ ?_
    · rw [List.getElem?_append_left (by omega), List.getElem?_take_of_lt (by omega)]
    · rw [List.getElem?_append_left (by omega), List.getElem?_take_of_lt (by omega)]
  · refine key (i + 1) (by omega) (List.getElem_eraseIdx_of_ge _ (by omega)) ?_ ?_
    · rw [List.getElem?_append_right (by omega), hlk, List.getElem?_drop, show (k + 1) * 2 + (i * 2 - k * 2) = (i + 1) * 2 by omega]
    · rw [List.getElem?_append_right (by omega), hlk, List.getElem?_drop, show (k + 1) * 2 + (i * 2 + 1 - k * 2) = (i + 1) * 2 + 1 by omega]
theorem take_cells {w : World} {b off q : Nat} {l : List Ent} (hc : ∀ i (h : i < l.length), w.cell? ⟨b, off + i * 2, none⟩ = some (.string l[i].key) ∧ w.cell? ⟨b, off + i * 2 + 1, none⟩ = some (.int .i64 l[i].id)) : ∀ j u, (flatE (l.take q))[j]? = some u → w.cell? ((⟨b, off, none⟩ : Addr).add j) = some u :=
  InE.cellsOf (fun i hi => by rw [List.getElem_take]; exact hc i (by rw [List.length_take] at hi; omega))
theorem drop_cells {w : World} {b off q : Nat} {l : List Ent} (hc : ∀ i (h : i < l.length), w.cell? ⟨b, off + i * 2, none⟩ = some (.string l[i].key) ∧ w.cell? ⟨b, off + i * 2 + 1, none⟩ = some (.int .i64 l[i].id)) : ∀ j u, (flatE (l.drop q))[j]? = some u → w.cell? ((⟨b, off + q * 2, none⟩ : Addr).add j) = some u :=
  InE.cellsOf (fun i hi => by
    rw [List.length_drop] at hi
    rw [List.getElem_drop]
    have := hc (q + i) (by omega)
    rw [show off + q * 2 + i * 2 = off + (q + i) * 2 by omega]; exact this)
theorem cells_next {w W : World} {b off : Nat} {ys : List Value} (hb : Below w.heap.size w W) (hbl : b < w.heap.size) (h : ∀ j u, ys[j]? = some u → w.cell? ((⟨b, off, none⟩ : Addr).add j) = some u) : ∀ j u, ys[j]? = some u → W.cell? ((⟨b, off, none⟩ : Addr).add j) = some u := by
  intro j u hj
  have := h j u hj
  have hadd : (⟨b, off, none⟩ : Addr).add j = ⟨b, off + j, none⟩ := by unfold Addr.add; split <;> simp_all
  rw [hadd] at this ⊢
  exact (hb.cell hbl).trans this

set_option maxRecDepth 4000 in
set_option maxHeartbeats 1000000 in
theorem specDrop_any (p : Option Addr) (cap : Nat) (f : List Pg) (next : Int) (e : Ent) (k : Nat) (w : World) (hr : RowP w p f) (hT : treeB f next = true) (hkk : place f e = k) (hk : k < f.length) (hca : ∀ g pa ca, p = some ⟨g, 0, none⟩ → w.cell? ⟨g, k * 2 + 1, none⟩ = some (.slice pa f[k].es.length ca) → f[k].es.length ≤ ca) :
    Calls Try.prog 93 #[.agg #[.slice p f.length cap, .int .i64 next], .agg #[.string e.key, .int .i64 e.id]] w fun e' w' => (∃ p' cap' f' code, e' = .returned (.tuple #[.agg #[.slice p' f'.length cap', .int .i64 next], .int .i64 code]) ∧ RowP w' p' f' ∧ (RowF w p f → RowF w' p' f') ∧ ((code = 5 ∧ f' = f ∧ ∀ i (h : i < f[k].es.length), f[k].es[i] ≠ e) ∨ (code = 0 ∧ ∃ i, ∃ h : i < f[k].es.length, f[k].es[i] = e ∧ f' = dropP f k i))) ∧ Below w.heap.size w w' := by
  have HT : Hid (treeB f next = true) := hT
  have M0 := MkD.start w (.slice p f.length cap) next e 37 40
  have HR0 : Hid (RowP w p f) := hr
  have HR : Hid (RowP _ _ _) := hr.next ((((Below.refl w.heap.size w).alloc (Nat.le_refl _) (.cells #[.slice p f.length cap, .int .i64 next] 37)).alloc (by simp) (.cells #[.string e.key, .int .i64 e.id] 40)).alloc (by simp; omega) (.cells #[.slice none 0 0, .int .i64 0] 37))
  have hsm : ∀ l ∈ f, l.es.length ≤ 4 := fun l hl => (((treeB_iff f next).1 hT).2.1 l hl).1
  have h60 : 1 ≤ f.length ∧ f.length ≤ 60 := by have := ((treeB_iff f next).1 hT).1; omega
  have HSM : Hid (∀ l ∈ f, l.es.length ≤ 4) := hsm
  obtain ⟨g, rfl, R0⟩ := hr.resolve_left (fun h0 => by rw [h0] at hk; simp at hk)
  have hgw := R0.lt
  obtain ⟨_, pa, ca, x1, t1⟩ := R0.cells k hk
  have hca2 := hca g pa ca rfl x1
  have HE : Hid (InE w pa f[k].es) := t1
  have hs4 := hsm f[k] (List.getElem_mem _)
  have HX1 : Hid (w.cell? ⟨g, k * 2 + 1, none⟩ = some (.slice pa f[k].es.length ca)) := x1
  clear R0 t1 hca x1
  clear hr hT hsm
  go_enter Try.func93, Try.ntmps93
  go_wp2_with fail
  generalize ((w.alloc (.cells #[.slice (some ⟨g, 0, none⟩) f.length cap, .int .i64 next] 37)).alloc (.cells #[.string e.key, .int .i64 e.id] 40)).alloc (.cells #[.slice none 0 0, .int .i64 0] 37) = W0 at M0 HR ⊢
  have a0 := M0.c0
  have a1 := M0.c1
  have b0 := M0.d0
  have b1 := M0.d1
  have hk2 : (k : Int) < (f.length : Int) := by omega
  go_wp2_with (go_at_call 59; refine (specPlace_any (some ⟨g, 0, none⟩) cap f next e _ (HR.out.next (by (repeat (first | (with_reducible exact Below.refl _ _) | (with_reducible assumption) | (with_reducible apply below_drewN) | (with_reducible apply Below.drew) | ((with_reducible refine Below.setCell ?_ ?_ _); rotate_left; focus (first | (simp; done) | (simp; omega) | omega)) | ((with_reducible refine Below.alloc ?_ ?_ _); rotate_left; focus (first | (simp; done) | (simp; omega) | omega)))))) (by omega) (by omega) (fun l hl => Nat.le_trans (HSM.out l hl) (by omega))).mono ?_; rintro e' w2 ⟨he2, hb2⟩; rw [hkk] at he2; subst he2; have hB2 : Below W0.heap.size W0 w2 := (show Below W0.heap.size W0 _ by (repeat (first | (with_reducible exact Below.refl _ _) | (with_reducible assumption) | (with_reducible apply below_drewN) | (with_reducible apply Below.drew) | ((with_reducible refine Below.setCell ?_ ?_ _); rotate_left; focus (first | (simp; done) | (simp; omega) | omega)) | ((with_reducible refine Below.alloc ?_ ?_ _); rotate_left; focus (first | (simp; done) | (simp; omega) | omega))))).trans (hb2.mono (by simp)); clear hb2; have M2 := M0.next hB2; clear HR M0 a0 a1 b0 b1 hB2; have a0 := M2.c0; have x1 := (M2.bel.cell hgw).trans HX1.out)
  go_loopw [8] (fun i wr => ∃ q : Nat, q ≤ f[k].es.length ∧ i = .int .i64 q ∧ Below w2.heap.size w2 wr ∧ ∀ j (h : j < f[k].es.length), j < q → f[k].es[j] ≠ e) (fun i _ => f[k].es.length - (intOf i).toNat)
  case atStart => exact ⟨0, Nat.zero_le _, rfl, Below.refl _ _, fun j _ h => absurd h (by omega)⟩
  case round =>
    obtain ⟨q, hq, rfl, hbel, hno⟩ := hrel
    have M := M2.next hbel
    have HM : Hid (MkD _ _ _ _ _) := M
    have HNO : Hid (∀ j (h : j < f[k].es.length), j < q → f[k].es[j] ≠ e) := hno
    clear hno
    by_cases hlt : q < f[k].es.length
    · obtain ⟨b, off, rfl, hbl, hc⟩ := HE.out.resolve_left (by omega)
      obtain ⟨y0, y1⟩ := hc q hlt
      have hz := M.lt
      have HC1 : Hid (∀ j u, (flatE (f[k].es.take q))[j]? = some u → w.cell? ((⟨b, off, none⟩ : Addr).add j) = some u) := take_cells hc
      have qs1 := cutHeadE b off f[k].es.length ca q (by omega)
      have qs2 := cutTailE b off f[k].es.length ca (q + 1) (by omega)
      obtain ⟨off2, ho2⟩ : ∃ o, o = if ca = q + 1 then off else off + (q + 1) * 2 := ⟨_, rfl⟩
      rw [← ho2, Int.natCast_add, Int.natCast_one] at qs2
      have HC2 : Hid (∀ j u, (flatE (f[k].es.drop (q + 1)))[j]? = some u → w.cell? ((⟨b, off2, none⟩ : Addr).add j) = some u) := by
        show ∀ j u, (flatE (f[k].es.drop (q + 1)))[j]? = some u → w.cell? ((⟨b, off2, none⟩ : Addr).add j) = some u
        by_cases h : ca = q + 1
        · rw [List.drop_eq_nil_of_le (by omega)]; intro j u hj; simp [flatE] at hj
        · rw [ho2, if_neg h]; exact drop_cells hc
      have qw : IntKind.i64.wrap ((q : Int) + 1) = (q : Int) + 1 := by rw [IntKind.wrap_i64]; omega
      clear ho2
      have u0 : ∀ u : Under wr, u.x.cell? ⟨b, off + q * 2, none⟩ = some (.string f[k].es[q].key) := fun u => (u.h.cell (Nat.lt_of_lt_of_le hbl M.bel.size)).trans ((M.bel.cell hbl).trans y0)
      have u1 : ∀ u : Under wr, u.x.cell? ⟨b, off + q * 2 + 1, none⟩ = some (.int .i64 f[k].es[q].id) := fun u => (u.h.cell (Nat.lt_of_lt_of_le hbl M.bel.size)).trans ((M.bel.cell hbl).trans y1)
      have u2 : ∀ u : Under wr, u.x.cell? ⟨w.heap.size + 1, 0, none⟩ = some (.string e.key) := fun u => (u.h.cell (show w.heap.size + 1 < _ by omega)).trans M.d0
      have u3 : ∀ u : Under wr, u.x.cell? ⟨w.heap.size + 1, 1, none⟩ = some (.int .i64 e.id) := fun u => (u.h.cell (show w.heap.size + 1 < _ by omega)).trans M.d1
      have hnu : Nonempty (Under wr) := ⟨⟨wr, Below.refl _ _⟩⟩
      have hlt2 : (q : Int) < (f[k].es.length : Int) := by omega
      obtain ⟨x, hx⟩ : ∃ x, x = f[k].es[q] := ⟨_, rfl⟩
      rw [← hx] at u0 u1
      have qn := neqEnt x e
      obtain ⟨bq, hbq⟩ : ∃ bq, bq = (x.key.toList == e.key.toList && x.id == e.id) := ⟨_, rfl⟩
      rw [← hbq] at qn
      have HX : Hid (x = f[k].es[q]) := hx
      have HBQ : Hid (bq = (x.key.toList == e.key.toList && x.id == e.id)) := hbq
      clear hc y0 y1 M hx hbq
      go_wp2_with fail
      refine wp_region_under (by kernel_rfl) (by kernel_rfl) ?_
      repeat (go_big_quiet_step (fail))
      refine wpQuiet_nil ?_
      rintro _ ⟨u, rfl⟩
      have hbu := hbel.trans (u.h.mono hbel.size)
      by_cases heq : f[k].es[q] = e
      · obtain rfl : bq = true := by rw [HBQ.out]; exact (ent_beq x e).2 (HX.out.trans heq)
        have M4 := M2.next hbu
        have HM4 : Hid (MkD _ _ _ _ _) := M4
        have c0 := M4.c0
        have c1 := M4.c1
        have z0 := M4.z0
        have z1 := M4.z1
        have hz4 := M4.lt
        have B4 := M4.bel
        clear u0 u1 u2 u3 hnu M4
        obtain ⟨W4, hW4⟩ := u
        dsimp only at *
        go_wp2_with (go_at_call 53; refine (specOwn_any (some ⟨g, 0, none⟩) cap f next _ (HR0.out.next (by (repeat (first | (with_reducible exact Below.refl _ _) | (with_reducible assumption) | (with_reducible apply below_drewN) | (with_reducible apply Below.drew) | ((with_reducible refine Below.setCell ?_ ?_ _); rotate_left; focus (first | (simp; done) | (simp; omega) | omega)) | ((with_reducible refine Below.alloc ?_ ?_ _); rotate_left; focus (first | (simp; done) | (simp; omega) | omega)))))) (by omega) (fun l hl => Nat.le_trans (HSM.out l hl) (by omega))).mono ?_; rintro e' w5 ⟨⟨v5, rfl, hO⟩, hb5⟩; obtain ⟨g5, cap5, rfl, hg5, _⟩ := (OwnT.form hO).resolve_left (fun h => by rw [h.2] at hk; simp at hk); have hB5 : Below W4.heap.size W4 w5 := hb5; have M5 : Hid (MkD _ _ _ _ _) := HM4.out.next hB5; have HO : Hid (OwnT _ _ _ _) := hO; clear hb5 hO c0 c1 z0 z1; have c0 := M5.out.c0; have c1 := M5.out.c1; have z0 := M5.out.z0; have z1 := M5.out.z1)
        have M6 := M5.out.set (v' := .slice (some ⟨g5, 0, none⟩) f.length cap5)
        have O6 := (HO.out.grown (grown_set (g := w.heap.size) (o := 0) (v := .slice (some ⟨g5, 0, none⟩) f.length cap5)) (by omega)).grown (grown_set (g := w.heap.size) (o := 1) (v := .int .i64 next)) (by omega)
        have hs6 : W4.heap.size ≤ ((w5.setCell ⟨w.heap.size, 0, none⟩ (.slice (some ⟨g5, 0, none⟩) f.length cap5)).setCell ⟨w.heap.size, 1, none⟩ (.int .i64 next)).heap.size := by simp; exact hB5.size
        generalize (w5.setCell ⟨w.heap.size, 0, none⟩ (.slice (some ⟨g5, 0, none⟩) f.length cap5)).setCell ⟨w.heap.size, 1, none⟩ (.int .i64 next) = W6 at M6 O6 hs6 ⊢
        obtain ⟨y0, pk, ck, y1, _⟩ := (match O6.rowP with | .inl h0 => absurd h0 (fun h0 => by rw [h0] at hk; simp at hk) | .inr h => (by obtain ⟨g', hg', R⟩ := h; cases hg'; exact R.cells k hk) : W6.cell? ⟨g5, k * 2, none⟩ = some (.int .i64 f[k].num) ∧ ∃ p cap, W6.cell? ⟨g5, k * 2 + 1, none⟩ = some (.slice p f[k].es.length cap) ∧ InE W6 p f[k].es)
        have zk : W6.frozen? ⟨g5, k * 2 + 1, none⟩ = false := by
          obtain ⟨vs, xs, hP⟩ := O6
          exact own_soft hP.row _
        have hg6 : g5 < W6.heap.size := by
          obtain ⟨vs, xs, hP⟩ := O6
          exact (hP.row.lt g5 rfl).2
        have HO6 : Hid (OwnT _ _ _ _) := O6
        have HM6 : Hid (MkD _ _ _ _ _) := M6
        have k0 := M6.c0
        have hz6 := M6.lt
        have B6 := M6.bel
        clear HO M5 HM4 M6 O6 c0 c1 z0 z1 HM a0 x1
        have hqn : f[k].es.length - (q + 1) ≤ 4 := by omega
        go_region_held3 (fun w0 => w0.cell? ⟨w.heap.size, 0, none⟩ = some (.slice (some ⟨g5, 0, none⟩) f.length cap5)) ((refine keepD k0 ?_; (repeat (first | (with_reducible exact Below.refl _ _) | (with_reducible assumption) | (with_reducible apply below_drewN) | (with_reducible apply Below.drew) | ((with_reducible refine Below.setCell ?_ ?_ _); rotate_left; focus (first | (simp; done) | (simp; omega) | omega)) | ((with_reducible refine Below.alloc ?_ ?_ _); rotate_left; focus (first | (simp; done) | (simp; omega) | omega)))))) (first
          | (refine step_appE rfl (.tmp 35) (.tmp 38) rfl W6.heap.size 0 (.slice (some ⟨W6.heap.size, 0, none⟩) 0 0) [] (by simp [Act.eval]) (World.ownsRow_made (size := 2) (base := W6.heap.size) (e := 40) _ #[] 0 (by simp) (by unfold maxLen; omega) rfl) ⟨b, off, none⟩ q ca (flatE (f[k].es.take q)) (by simp [Act.eval]) (by rw [flatE_len, List.length_take]; omega) (cells_next (by (repeat (first | (with_reducible exact Below.refl _ _) | (with_reducible assumption) | (with_reducible apply below_drewN) | (with_reducible apply Below.drew) | ((with_reducible refine Below.setCell ?_ ?_ _); rotate_left; focus (first | (simp; done) | (simp; omega) | omega)) | ((with_reducible refine Below.alloc ?_ ?_ _); rotate_left; focus (first | (simp; done) | (simp; omega) | omega))))) hbl HC1.out) (flatE_one _) (by omega) (by omega) (by simp) ?_; intro v1 w7 o7 g7; rw [Nat.zero_add, List.nil_append] at o7; obtain ⟨pv1, cv1, rfl⟩ := owns_slice o7; have B7 : Below W6.heap.size W6 w7 := Below.grown (show Below W6.heap.size W6 _ by (repeat (first | (with_reducible exact Below.refl _ _) | (with_reducible assumption) | (with_reducible apply below_drewN) | (with_reducible apply Below.drew) | ((with_reducible refine Below.setCell ?_ ?_ _); rotate_left; focus (first | (simp; done) | (simp; omega) | omega)) | ((with_reducible refine Below.alloc ?_ ?_ _); rotate_left; focus (first | (simp; done) | (simp; omega) | omega))))) g7 (by simp) (fun b hb => Nat.le_of_eq (Option.some.inj (show some W6.heap.size = some b from hb))); have hz7 := B7.size; have B7' : Below w.heap.size w w7 := B6.trans (B7.mono (by omega)); have B73 : Below (w.heap.size + 3) W6 w7 := B7.mono (by omega))
          | (refine step_appE rfl (.tmp 39) (.tmp 43) rfl W6.heap.size q (.slice pv1 q cv1) (flatE (f[k].es.take q)) (by simp [Act.eval]) o7 ⟨b, off2, none⟩ (f[k].es.length - (q + 1)) (ca - (q + 1)) (flatE (f[k].es.drop (q + 1))) (by simp [Act.eval]) (by rw [flatE_len, List.length_drop]) (cells_next B7' hbl HC2.out) (flatE_one _) (by omega) (by omega) hz7 ?_; intro v2 w8 o8 g8; obtain ⟨pv2, cv2, rfl⟩ := owns_slice o8; have B8 : Below W6.heap.size W6 w8 := B7.trans (Below.grown (Below.refl _ w7) g8 hz7 (fun b hb => (o7.lt b hb).1)); have hz8 := B8.size; have B83 : Below (w.heap.size + 3) W6 w8 := B8.mono (by omega); have y18 := (B8.cell hg6).trans y1; have z18 := (B8.frozen hg6).trans zk))
        all_goals
          have hle : (f[k].es.eraseIdx q).length = q + (f[k].es.length - (q + 1)) := by rw [List.length_eraseIdx_of_lt hlt]; omega
          have hE8 : OwnE w8 W6.heap.size (.slice pv2 (q + (f[k].es.length - (q + 1))) cv2) (f[k].es.eraseIdx q) := by
            have h := o8
            rw [← flatE_app, ← List.eraseIdx_eq_take_drop_succ, ← hle] at h
            rw [← hle]; exact h
          have O9 := HO6.out.swap B8 hk hE8 hs6
          have M9 : MkD w _ _ next e := HM6.out.step (show Below (w.heap.size + 3) W6 (w8.setCell ⟨g5, k * 2 + 1, none⟩ (.slice pv2 (q + (f[k].es.length - (q + 1))) cv2)) from B83.setCell (show w.heap.size + 3 ≤ g5 by omega) _) (Nat.le_refl _)
          generalize w8.setCell ⟨g5, k * 2 + 1, none⟩ (.slice pv2 (q + (f[k].es.length - (q + 1))) cv2) = W9 at M9 O9 ⊢
          have HO9 : Hid (OwnT _ _ _ _) := O9
          obtain ⟨mb, ml, mc0, mc1, mz0, mz1, md0, md1, mr0, mr1, my0, my1⟩ := M9
          clear O9 hE8 o8 g8 o7 g7 B7 B7' B73 B8 B83 y18 z18 HO6 HM6 k0 B6 y0 y1 zk qs1 qs2 HC1 HC2
          by_cases hA : f[k].es.length = 1 ∧ 1 < f.length
          · have HD : Hid (dropP f k q = f.eraseIdx k) := by
              show dropP f k q = _
              unfold dropP; rw [List.getElem?_eq_getElem hk]; dsimp only; rw [if_pos hA]
            have h1' : (f[k].es.length : Int) = 1 := by omega
            have h2' : (1 : Int) < (f.length : Int) := by omega
            obtain ⟨vs, xs, hP9⟩ := HO9.out
            rw [List.length_set] at hP9
            have hP9' : PartT W9 W4.heap.size (.slice (some ⟨g5, 0, none⟩) f.length cap5) f.length (f.set k ⟨f[k].num, f[k].es.eraseIdx q⟩) f.length vs xs := hP9
            have hg9 := (hP9.row.lt g5 rfl).2
            obtain ⟨_, _, hv9, _, _, hcap9, _⟩ := owns_form hP9.row (by omega)
            cases hv9
            have HP9 : Hid (PartT W9 W4.heap.size (.slice (some ⟨g5, 0, none⟩) f.length cap5) f.length (f.set k ⟨f[k].num, f[k].es.eraseIdx q⟩) f.length vs xs) := hP9
            have hxl : xs.length = f.length * 2 := hP9.row.1
            have HX9 : Hid (∀ u ∈ xs, u.oneCell' = true) := hP9.one (by rw [List.length_set])
            have ps1 := cutHeadP g5 0 f.length cap5 k (by omega)
            have ps2 := cutTailP g5 0 f.length cap5 (k + 1) (by omega)
            obtain ⟨off5, ho5⟩ : ∃ o, o = if cap5 = k + 1 then 0 else 0 + (k + 1) * 2 := ⟨_, rfl⟩
            rw [← ho5, Int.natCast_add, Int.natCast_one] at ps2
            have kw : IntKind.i64.wrap ((k : Int) + 1) = (k : Int) + 1 := by rw [IntKind.wrap_i64]; omega
            have HC3 : Hid (∀ j u, (xs.take (k * 2))[j]? = some u → W9.cell? ((⟨g5, 0, none⟩ : Addr).add j) = some u) := own_take hP9.row _
            have HC4 : Hid (∀ j u, (xs.drop ((k + 1) * 2))[j]? = some u → W9.cell? ((⟨g5, off5, none⟩ : Addr).add j) = some u) := by
              show ∀ j u, (xs.drop ((k + 1) * 2))[j]? = some u → W9.cell? ((⟨g5, off5, none⟩ : Addr).add j) = some u
              by_cases h : cap5 = k + 1
              · rw [List.drop_eq_nil_of_le (by omega)]; intro j u hj; simp at hj
              · rw [ho5, if_neg h, Nat.zero_add]; exact own_drop hP9.row _
            have HA : Hid (f[k].es.length = 1 ∧ 1 < f.length) := hA
            have hm5 : f.length - (k + 1) ≤ 60 := by omega
            have hm9 : w.heap.size < W9.heap.size := by omega
            have HR9 : Hid (PartT _ _ _ _ _ _ _ _) := HP9
            have hkm : k + (f.length - (k + 1)) = f.length - 1 := by omega
            clear ho5 hP9 hA hP9'
            go_wp2_with fail
            go_region_law (first
              | (refine step_appP rfl (.tmp 56) (.tmp 60) rfl W9.heap.size 0 (.slice (some ⟨W9.heap.size, 0, none⟩) 0 0) [] (by first | (simp [Act.eval]; done) | (simp [Act.eval, Act.put]; done) | (simp [Act.eval, go_sem]; done)) (World.ownsRow_made (size := 2) (base := W9.heap.size) (e := 86) _ #[] 0 (by simp) (by unfold maxLen; omega) rfl) ⟨g5, 0, none⟩ k cap5 (xs.take (k * 2)) (by first | (simp [Act.eval]; done) | (simp [Act.eval, Act.put]; done) | (simp [Act.eval, go_sem]; done)) (by rw [List.length_take]; omega) (cells_next (by (repeat (first | (with_reducible exact Below.refl _ _) | (with_reducible assumption) | (with_reducible apply below_drewN) | (with_reducible apply Below.drew) | ((with_reducible refine Below.setCell ?_ ?_ _); rotate_left; focus (first | (simp; done) | (simp; omega) | omega)) | ((with_reducible refine Below.alloc ?_ ?_ _); rotate_left; focus (first | (simp; done) | (simp; omega) | omega))))) hg9 HC3.out) (fun u hu => HX9.out u (List.mem_of_mem_take hu)) (by omega) (by omega) (by simp) ?_; intro v1 w10 o10 g10 _; rw [Nat.zero_add, List.nil_append] at o10; obtain ⟨pv3, cv3, rfl⟩ := owns_slice o10; have B10 : Below W9.heap.size W9 w10 := Below.grown (show Below W9.heap.size W9 _ by (repeat (first | (with_reducible exact Below.refl _ _) | (with_reducible assumption) | (with_reducible apply below_drewN) | (with_reducible apply Below.drew) | ((with_reducible refine Below.setCell ?_ ?_ _); rotate_left; focus (first | (simp; done) | (simp; omega) | omega)) | ((with_reducible refine Below.alloc ?_ ?_ _); rotate_left; focus (first | (simp; done) | (simp; omega) | omega))))) g10 (by simp) (fun b hb => Nat.le_of_eq (Option.some.inj (show some W9.heap.size = some b from hb))); have hz10 := B10.size; have c10 := (B10.cell (show w.heap.size < W9.heap.size by omega)).trans mc0)
              | (refine step_appP rfl (.tmp 61) (.tmp 66) rfl W9.heap.size k (.slice pv3 k cv3) (xs.take (k * 2)) (by first | (simp [Act.eval]; done) | (simp [Act.eval, Act.put]; done) | (simp [Act.eval, go_sem]; done)) o10 ⟨g5, off5, none⟩ (f.length - (k + 1)) (cap5 - (k + 1)) (xs.drop ((k + 1) * 2)) (by first | (simp [Act.eval]; done) | (simp [Act.eval, Act.put]; done) | (simp [Act.eval, go_sem]; done)) (by rw [List.length_drop]; omega) (cells_next B10 hg9 HC4.out) (fun u hu => HX9.out u (List.mem_of_mem_drop hu)) (by omega) (by omega) hz10 ?_; intro v2 w11 o11 g11 _; rw [hkm] at o11; obtain ⟨pv4, cv4, rfl⟩ := owns_slice o11; have B11 : Below W9.heap.size W9 w11 := B10.trans (Below.grown (Below.refl _ w10) g11 hz10 (fun b hb => (o10.lt b hb).1)); have hz11 := B11.size; have c11 := (B11.cell (show w.heap.size < W9.heap.size by omega)).trans mc0; have d11 := (B11.frozen (show w.heap.size < W9.heap.size by omega)).trans mz0))
            all_goals
              have HO11 : Hid (World.ownsRow _ _ _ _ _ _ _) := o11
              have HP11 : Hid (PartT _ _ _ _ _ _ _ _) := HP9.out.next B11
              have e0 := (B11.cell (show w.heap.size < W9.heap.size by omega)).trans mc0
              have e1 := (B11.cell (show w.heap.size < W9.heap.size by omega)).trans mc1
              have e2 := (B11.cell (show w.heap.size + 2 < W9.heap.size by omega)).trans mr0
              have e3 := (B11.cell (show w.heap.size + 2 < W9.heap.size by omega)).trans mr1
              have e4 := (B11.frozen (show w.heap.size + 2 < W9.heap.size by omega)).trans my0
              have e5 := (B11.frozen (show w.heap.size + 2 < W9.heap.size by omega)).trans my1
              have B12 : Below w.heap.size w w11 := mb.trans (B11.mono (by omega))
              clear o11 g11 o10 g10 B11 B10
              go_wp2_with fail
              refine bodyPost_ret (v := .tuple #[.agg #[.slice pv4 (f.length - 1) cv4, .int .i64 next], .int .i64 0]) (by simp [results, Try.results93, go_sem, *]) rfl ⟨⟨pv4, cv4, f.eraseIdx k, 0, by rw [List.length_eraseIdx_of_lt hk], ?_⟩, ?_⟩
              · refine row_both ?_ (.inr (by first | exact ⟨rfl, q, hlt, heq, HD.out.symm⟩ | exact ⟨rfl, q, ⟨hlt, heq⟩, HD.out.symm⟩))
                rw [← List.eraseIdx_set_eq (a := ⟨f[k].num, f[k].es.eraseIdx q⟩)]
                exact PartT.cut (((HP11.out.grown grown_set (by omega)).grown grown_set (by omega)).grown grown_set (by omega)) (by rw [List.length_set]) (Below.refl _ _) (by rw [List.length_set]; exact hk) (by rw [List.length_set]) (by have := HA.out.2; omega) (own_set (own_set (own_set HO11.out (by omega)) (by omega)) (by omega))
              · (repeat (first | (with_reducible exact Below.refl _ _) | (with_reducible assumption) | (with_reducible apply below_drewN) | (with_reducible apply Below.drew) | ((with_reducible refine Below.setCell ?_ ?_ _); rotate_left; focus (first | (simp; done) | (simp; omega) | omega)) | ((with_reducible refine Below.alloc ?_ ?_ _); rotate_left; focus (first | (simp; done) | (simp; omega) | omega))))
          · have HD : Hid (dropP f k q = f.set k ⟨f[k].num, f[k].es.eraseIdx q⟩) := by
              show dropP f k q = _
              unfold dropP; rw [List.getElem?_eq_getElem hk]; dsimp only; rw [if_neg hA]
            rcases (show ¬ f[k].es.length = 1 ∨ (f[k].es.length = 1 ∧ f.length = 1) by omega) with h1 | ⟨h1, h2⟩
            · have h1' : ¬ (f[k].es.length : Int) = 1 := by omega
              go_wp2_with fail
              refine bodyPost_ret (v := .tuple #[.agg #[.slice (some ⟨g5, 0, none⟩) f.length cap5, .int .i64 next], .int .i64 0]) (by simp [results, Try.results93, go_sem, *]) rfl ⟨⟨some ⟨g5, 0, none⟩, cap5, f.set k ⟨f[k].num, f[k].es.eraseIdx q⟩, 0, by rw [List.length_set], ?_⟩, ?_⟩
              · refine row_both ?_ (.inr (by first | exact ⟨rfl, q, hlt, heq, HD.out.symm⟩ | exact ⟨rfl, q, ⟨hlt, heq⟩, HD.out.symm⟩ | (simp; exact ⟨q, ⟨hlt, heq⟩, HD.out.symm⟩)))
                exact ⟨_, rfl, OwnT.full (((HO9.out.grown grown_set (by omega)).grown grown_set (by omega)))⟩
              · (repeat (first | (with_reducible exact Below.refl _ _) | (with_reducible assumption) | (with_reducible apply below_drewN) | (with_reducible apply Below.drew) | ((with_reducible refine Below.setCell ?_ ?_ _); rotate_left; focus (first | (simp; done) | (simp; omega) | omega)) | ((with_reducible refine Below.alloc ?_ ?_ _); rotate_left; focus (first | (simp; done) | (simp; omega) | omega))))
            · have h1' : (f[k].es.length : Int) = 1 := by omega
              have h2' : ¬ (1 : Int) < (f.length : Int) := by omega
              clear h1 h2 hA
              go_wp2_with fail
              refine bodyPost_ret (v := .tuple #[.agg #[.slice (some ⟨g5, 0, none⟩) f.length cap5, .int .i64 next], .int .i64 0]) (by simp [results, Try.results93, go_sem, *]) rfl ⟨⟨some ⟨g5, 0, none⟩, cap5, f.set k ⟨f[k].num, f[k].es.eraseIdx q⟩, 0, by rw [List.length_set], ?_⟩, ?_⟩
              · refine row_both ?_ (.inr (by first | exact ⟨rfl, q, hlt, heq, HD.out.symm⟩ | exact ⟨rfl, q, ⟨hlt, heq⟩, HD.out.symm⟩ | (simp; exact ⟨q, ⟨hlt, heq⟩, HD.out.symm⟩)))
                exact ⟨_, rfl, OwnT.full (((HO9.out.grown grown_set (by omega)).grown grown_set (by omega)))⟩
              · (repeat (first | (with_reducible exact Below.refl _ _) | (with_reducible assumption) | (with_reducible apply below_drewN) | (with_reducible apply Below.drew) | ((with_reducible refine Below.setCell ?_ ?_ _); rotate_left; focus (first | (simp; done) | (simp; omega) | omega)) | ((with_reducible refine Below.alloc ?_ ?_ _); rotate_left; focus (first | (simp; done) | (simp; omega) | omega))))
      · obtain rfl : bq = false := by
          rw [HBQ.out, Bool.eq_false_iff]; exact fun h => heq (by rw [← HX.out]; exact (ent_beq x e).1 h)
        go_wp2_with fail
        go_roundw
        case rel => exact ⟨q + 1, by omega, by go_num, hbu, fun j h hj => by
          by_cases hjq : j = q
          · subst hjq; exact heq
          · exact HNO.out j h (by omega)⟩
        case measure => simp [intOf]; omega
    · obtain rfl : q = f[k].es.length := by omega
      obtain ⟨mb, ml, mc0, mc1, mz0, mz1, md0, md1, mr0, mr1, my0, my1⟩ := M
      clear HM
      go_wp2_with fail
      refine bodyPost_ret (v := .tuple #[.agg #[.slice (some ⟨g, 0, none⟩) f.length cap, .int .i64 next], .int .i64 5]) (by simp [results, Try.results93, go_sem, *]) rfl ⟨⟨_, _, f, 5, rfl, ?_⟩, ?_⟩
      · refine ⟨HR0.out.next (by (repeat (first | (with_reducible exact Below.refl _ _) | (with_reducible assumption) | (with_reducible apply below_drewN) | (with_reducible apply Below.drew) | ((with_reducible refine Below.setCell ?_ ?_ _); rotate_left; focus (first | (simp; done) | (simp; omega) | omega)) | ((with_reducible refine Below.alloc ?_ ?_ _); rotate_left; focus (first | (simp; done) | (simp; omega) | omega))))), fun hf => hf.next (by (repeat (first | (with_reducible exact Below.refl _ _) | (with_reducible assumption) | (with_reducible apply below_drewN) | (with_reducible apply Below.drew) | ((with_reducible refine Below.setCell ?_ ?_ _); rotate_left; focus (first | (simp; done) | (simp; omega) | omega)) | ((with_reducible refine Below.alloc ?_ ?_ _); rotate_left; focus (first | (simp; done) | (simp; omega) | omega))))), .inl ⟨rfl, rfl, fun j h => HNO.out j h h⟩⟩
      · (repeat (first | (with_reducible exact Below.refl _ _) | (with_reducible assumption) | (with_reducible apply below_drewN) | (with_reducible apply Below.drew) | ((with_reducible refine Below.setCell ?_ ?_ _); rotate_left; focus (first | (simp; done) | (simp; omega) | omega)) | ((with_reducible refine Below.alloc ?_ ?_ _); rotate_left; focus (first | (simp; done) | (simp; omega) | omega))))

end Go.Proofs.Ytnmpfooegnmknaa.Tr
