/- The specification's Install: places, and rows of chains that it puts together. -/
import Derived.Test.YtkafanjfjplakaaGreatDoorInsJ
import Derived.Test.YtkafanjfjplakaaGreatDoorColK
import Derived.Test.YtkafanjfjplakaaGreatDoorLasC
import Derived.Test.YtkafanjfjplakaaGreatDoorVacS
namespace Go.Proofs.YtkafanjfjplakaaGreatDoor.Co
open Go.RowKit Tr
set_option linter.unusedVariables false

theorem place_ex : ∀ (l : List Chn) (last : Int), chsB last l = true → ∀ id, ∃ k b, PlaceC l id k b
  | [], _, _, id => ⟨0, false, Nat.le_refl _, fun q h => absurd h (by simp), fun q h => absurd h (by simp), ⟨fun h => (by cases h), fun h => absurd h.1 (by simp)⟩⟩
  | y :: r, last, h, id => by
    have h' := h
    rw [chsB] at h
    simp only [Bool.and_eq_true, decide_eq_true_eq] at h
    obtain ⟨a1, a2, a3, a4⟩ := h
    have hf := chsB_first r y.id a4
    by_cases hy : y.id < id
    · obtain ⟨k, b, hp⟩ := place_ex r y.id a4 id
      refine ⟨k + 1, b, by have := hp.le; simp; omega, ?_, ?_, ?_⟩
      · intro q hq hlt
        cases q with
        | zero => exact hy
        | succ q => exact hp.lo q (by simpa using hq) (by omega)
      · intro q hq hge
        cases q with
        | zero => omega
        | succ q => exact hp.hi q (by simpa using hq) (by omega)
      · rw [hp.at_]
        constructor
        · rintro ⟨h1, h2⟩; exact ⟨by simp; omega, by simpa using h2⟩
        · rintro ⟨h1, h2⟩; exact ⟨by simpa using h1, by simpa using h2⟩
    · refine ⟨0, decide (y.id = id), Nat.zero_le _, fun q _ hlt => by omega, ?_, ?_⟩
      · intro q hq _
        cases q with
        | zero => show id ≤ y.id; omega
        | succ q =>
          have hq' : q < r.length := by simpa using hq
          have := hf r[q] (List.getElem_mem hq')
          show id ≤ r[q].id
          omega
      · rw [decide_eq_true_eq]
        constructor
        · intro e; exact ⟨by simp, e⟩
        · rintro ⟨_, e⟩; exact e
theorem lastS_at {c : Col} {id : Int} {k : Nat} (hB : ∀ x ∈ c.chs, topB x.id = true ∧ 1 ≤ x.vs.length ∧ x.vs.length ≤ 12 ∧ versB x.id 0 x.vs = true) (hp : PlaceC c.chs id k true) : ∃ hk : k < c.chs.length, c.chs[k].id = id ∧ (lastS c.chs id).tm = newT c.chs[k].vs := by
  obtain ⟨hk, e, hf⟩ := hp.some
  refine ⟨hk, e, ?_⟩
  unfold lastS newT
  rw [hf]
  show (atS 10000 zG c.chs[k].vs).tm = _
  rw [atS_trk c.chs[k].id 10000 c.chs[k].vs 0 zG (hB _ (List.getElem_mem _)).2.2.2]; rfl
theorem lastS_none {c : Col} {id : Int} {k : Nat} (hr : RiseC c.chs) (hp : PlaceC c.chs id k false) : (lastS c.chs id).tm = 0 := by
  unfold lastS
  rw [hp.none hr]; rfl
/-- The cells of a row of chains. -/
structure RawC (w : World) (g : Nat) (l : List Chn) (xs : List Value) : Prop where
  lt : g < w.heap.size
  len : xs.length = l.length * 2
  one : ∀ u ∈ xs, u.oneCell' = true
  cells : ∀ j u, xs[j]? = some u → w.cell? ⟨g, j, none⟩ = some u
  at_ : ∀ i (h : i < l.length), xs[i * 2]? = some (.int .i64 l[i].id) ∧ ∃ p cap, xs[i * 2 + 1]? = some (.slice p l[i].vs.length cap) ∧ InVr w p l[i].vs
theorem RawC.next {w w' : World} {g : Nat} {l : List Chn} {xs : List Value} (h : RawC w g l xs) (hb : Below w.heap.size w w') : RawC w' g l xs :=
  ⟨Nat.lt_of_lt_of_le h.lt hb.size, h.len, h.one, fun j u hj => (hb.cell h.lt).trans (h.cells j u hj), fun i hi => by
    obtain ⟨h0, p, cap, h1, h2⟩ := h.at_ i hi
    exact ⟨h0, p, cap, h1, h2.step hb⟩⟩
theorem rawC_of {w : World} {g : Nat} {l : List Chn} (h : ReadCc w g l) : ∃ xs, RawC w g l xs := by
  have hget : ∀ j, j < l.length * 2 → ((List.range (l.length * 2)).map (fun j => (w.cell? ⟨g, j, none⟩).getD (.int .i64 0)))[j]? = some ((w.cell? ⟨g, j, none⟩).getD (.int .i64 0)) := fun j hj => by
    rw [List.getElem?_map, List.getElem?_range hj]; rfl
  have hc : ∀ j, j < l.length * 2 → ∃ u, w.cell? ⟨g, j, none⟩ = some u ∧ u.oneCell' = true := fun j hj => by
    obtain ⟨x0, p, cv, x1, _, _⟩ := h.cells (j / 2) (by omega)
    rcases Nat.mod_two_eq_zero_or_one j with e | e
    · rw [show j / 2 * 2 = j by omega] at x0; exact ⟨_, x0, rfl⟩
    · rw [show j / 2 * 2 + 1 = j by omega] at x1; exact ⟨_, x1, rfl⟩
  refine ⟨(List.range (l.length * 2)).map (fun j => (w.cell? ⟨g, j, none⟩).getD (.int .i64 0)), h.lt, by simp, ?_, ?_, ?_⟩
  · intro u hu
    obtain ⟨j, hj, e⟩ := List.mem_map.1 hu
    obtain ⟨u', e1, e2⟩ := hc j (List.mem_range.1 hj)
    rw [← e, e1]; exact e2
  · intro j u hj
    have hjl : j < l.length * 2 := by have := (List.getElem?_eq_some_iff.1 hj).1; simpa using this
    rw [hget j hjl] at hj
    obtain ⟨u', e1, e2⟩ := hc j hjl
    rw [e1] at hj ⊢
    exact hj
  · intro i hi
    obtain ⟨x0, p, cv, x1, _, hT⟩ := h.cells i hi
    rw [hget _ (by omega), hget _ (by omega), x0, x1]
    exact ⟨rfl, p, cv, rfl, hT⟩
theorem insF_lt (l : List Chn) (y : Chn) (k i : Nat) (hk : k ≤ l.length) (h1 : i < k) (hi : i < (l.take k ++ y :: l.drop k).length) : ∃ h2 : i < l.length, (l.take k ++ y :: l.drop k)[i] = l[i] := by
  have hl : (l.take k).length = k := by rw [List.length_take]; omega
  refine ⟨by omega, ?_⟩
  rw [List.getElem_append_left (by omega)]
  simp
theorem insF_gt (l : List Chn) (y : Chn) (k i : Nat) (hk : k ≤ l.length) (h1 : ¬ i < k) (h2 : ¬ i = k) (hi : i < (l.take k ++ y :: l.drop k).length) : ∃ h2 : i - 1 < l.length, (l.take k ++ y :: l.drop k)[i] = l[i - 1] := by
  have hl : (l.take k).length = k := by rw [List.length_take]; omega
  have hn : (l.take k ++ y :: l.drop k).length = l.length + 1 := by rw [List.length_append, hl, List.length_cons, List.length_drop]; omega
  refine ⟨by omega, ?_⟩
  have e : (l.take k ++ y :: l.drop k)[i]? = l[i - 1]? := by
    rw [List.getElem?_append_right (by omega), hl, show i - k = (i - k - 1) + 1 by omega, List.getElem?_cons_succ, List.getElem?_drop]
    congr 1; omega
  rw [List.getElem?_eq_getElem hi, List.getElem?_eq_getElem (by omega)] at e
  exact Option.some.inj e
theorem insF_eq (l : List Chn) (y : Chn) (k : Nat) (hk : k ≤ l.length) (h : k < (l.take k ++ y :: l.drop k).length) : (l.take k ++ y :: l.drop k)[k] = y := by
  have hl : (l.take k).length = k := by rw [List.length_take]; omega
  rw [List.getElem_append_right (by omega)]
  simp [hl]
/-- A row that was put together: what stood ahead, the new chain, what stood behind. -/
theorem rowCh_ins {w : World} {base g c : Nat} {l : List Chn} {xs : List Value} {k : Nat} {id : Int} {vs1 : List Ver} {p1 : Option Addr} {c1 : Nat} (hk : k ≤ l.length) (hl : xs.length = l.length * 2)
    (hown : w.ownsRow base 94 2 (.slice (some ⟨g, 0, none⟩) (l.length + 1) c) (l.length + 1) (xs.take (k * 2) ++ [.int .i64 id, .slice p1 vs1.length c1] ++ xs.drop (k * 2)))
    (hx : ∀ i (h : i < l.length), xs[i * 2]? = some (.int .i64 l[i].id) ∧ ∃ p cap, xs[i * 2 + 1]? = some (.slice p l[i].vs.length cap) ∧ InVr w p l[i].vs) (hu : InVr w p1 vs1) : RowCh w (some ⟨g, 0, none⟩) (l.take k ++ ⟨id, vs1⟩ :: l.drop k) := by
  have htl : (xs.take (k * 2)).length = k * 2 := by rw [List.length_take]; omega
  have hn : (l.take k ++ (⟨id, vs1⟩ : Chn) :: l.drop k).length = l.length + 1 := by rw [List.length_append, List.length_take, List.length_cons, List.length_drop]; omega
  have hll : (xs.take (k * 2) ++ [Value.int .i64 id, Value.slice p1 vs1.length c1]).length = k * 2 + 2 := by rw [List.length_append, htl]; rfl
  refine .inr ⟨g, rfl, (hown.lt g rfl).2, fun i hi => ?_⟩
  by_cases h1 : i < k
  · obtain ⟨h2, e⟩ := insF_lt l ⟨id, vs1⟩ k i hk h1 hi
    obtain ⟨a0, p, cap, a1, a2⟩ := hx i h2
    rw [e]
    refine ⟨owns_cell hown _ _ ?_, p, cap, owns_cell hown _ _ ?_, a2⟩
    · rw [List.append_assoc, List.getElem?_append_left (by omega), List.getElem?_take, if_pos (by omega)]; exact a0
    · rw [List.append_assoc, List.getElem?_append_left (by omega), List.getElem?_take, if_pos (by omega)]; exact a1
  · by_cases h2 : i = k
    · subst h2
      rw [insF_eq l ⟨id, vs1⟩ i hk hi]
      refine ⟨owns_cell hown _ _ ?_, p1, c1, owns_cell hown _ _ ?_, hu⟩
      · rw [List.append_assoc, List.getElem?_append_right (by omega), htl, Nat.sub_self]; rfl
      · rw [List.append_assoc, List.getElem?_append_right (by omega), htl, show i * 2 + 1 - i * 2 = 1 by omega]; rfl
    · obtain ⟨h3, e⟩ := insF_gt l ⟨id, vs1⟩ k i hk h1 h2 hi
      obtain ⟨a0, p, cap, a1, a2⟩ := hx (i - 1) h3
      rw [e]
      refine ⟨owns_cell hown _ _ ?_, p, cap, owns_cell hown _ _ ?_, a2⟩
      · rw [List.getElem?_append_right (by omega), hll, List.getElem?_drop, show k * 2 + (i * 2 - (k * 2 + 2)) = (i - 1) * 2 by omega]; exact a0
      · rw [List.getElem?_append_right (by omega), hll, List.getElem?_drop, show k * 2 + (i * 2 + 1 - (k * 2 + 2)) = (i - 1) * 2 + 1 by omega]; exact a1
theorem cutHeadC (b off n ca q : Nat) (h : q ≤ ca) (W : World) : (Instr.slice 27 (.slice (some ⟨b, off, none⟩) n ca) none (some (.int .i64 q)) none).run Tryz.prog W = .ok (.slice (some ⟨b, off, none⟩) q ca) W := by
  have he : Tryz.prog.elem 27 = 94 := by kernel_rfl
  refine (run_slice_h (P := Tryz.prog) (w := W) 27 (some ⟨b, off, none⟩) n ca (by kernel_rfl) .i64 q (by omega) (by omega)).trans ?_
  rw [he, Tryz.sizeOf94]
  simp [sliced, Result.andThen, Addr.add]
theorem cutTailC (b off n ca q : Nat) (h : q ≤ n) (W : World) : (Instr.slice 27 (.slice (some ⟨b, off, none⟩) n ca) (some (.int .i64 q)) none none).run Tryz.prog W = .ok (.slice (some ⟨b, if ca = q then off else off + q * 2, none⟩) (n - q) (ca - q)) W := by
  have he : Tryz.prog.elem 27 = 94 := by kernel_rfl
  refine (run_slice_l (P := Tryz.prog) (w := W) 27 (some ⟨b, off, none⟩) n ca (by kernel_rfl) .i64 q (by omega) (by omega)).trans ?_
  rw [he, Tryz.sizeOf94]
  simp only [sliced, Result.andThen, Int.toNat_natCast]
  split <;> simp [Addr.add]
/-- What the specification's inner Install answers. -/
structure InsA (R : Col × Int) (w : World) (e : Ending) (w' : World) : Prop where
  bel : Below w.heap.size w w'
  own : ∃ p q cp cq, e = .returned (.tuple #[.agg #[.string R.1.name, .slice p R.1.chs.length cp, .slice q R.1.dfs.length cq], .int .i64 R.2]) ∧ RowCh w' p R.1.chs ∧ RowDf w' q R.1.dfs

end Go.Proofs.YtkafanjfjplakaaGreatDoor.Co
