/- The program's Vacuum: what it answers. -/
import Derived.Test.YtkafanjfjplakaaGreatDoorVacT
import Derived.Test.YtkafanjfjplakaaGreatDoorColG
namespace Go.Proofs.YtkafanjfjplakaaGreatDoor.Co
open Go.RowKit Tr
set_option linter.unusedVariables false

def vacR (c : Col) (t : Int) : Option Col := if collB c = true then some ⟨c.name, vacB t c.chs, c.dfs⟩ else none
/-- What a collection of one's own, or none, answers. -/
structure VacA (R : Option Col) (w : World) (e : Ending) (w' : World) : Prop where
  bel : Below w.heap.size w w'
  bad : R = none → e = .returned (.tuple #[.agg #[.string em, .slice none 0 0, .slice none 0 0], .int .i64 1])
  ok : ∀ c, R = some c → ∃ v u mid, e = .returned (.tuple #[.agg #[.string c.name, v, u], .int .i64 0]) ∧ w.heap.size ≤ mid ∧ mid ≤ w'.heap.size ∧ OwnChH w' w.heap.size mid v c.chs ∧ OwnDfH w' mid w'.heap.size u c.dfs
theorem vacB_none (t : Int) (f : List Chn) (k : Nat) (h : k < f.length) (hg : (leftV t f[k].vs).length = 0) : vacB t (f.take (k + 1)) = vacB t (f.take k) := by
  unfold vacB; rw [List.take_succ_eq_append_getElem h, List.flatMap_append, List.flatMap_cons, List.flatMap_nil, List.append_nil, if_pos hg, List.append_nil]
theorem vacB_some (t : Int) (f : List Chn) (k : Nat) (h : k < f.length) (hg : ¬ (leftV t f[k].vs).length = 0) : vacB t (f.take (k + 1)) = vacB t (f.take k) ++ [⟨f[k].id, leftV t f[k].vs⟩] := by
  unfold vacB; rw [List.take_succ_eq_append_getElem h, List.flatMap_append, List.flatMap_cons, List.flatMap_nil, List.append_nil, if_neg hg]
theorem vacB_len (t : Int) : ∀ f : List Chn, (vacB t f).length ≤ f.length
  | [] => Nat.le_refl _
  | c :: f => by
    have ih := vacB_len t f
    unfold vacB at ih ⊢
    rw [List.flatMap_cons, List.length_append, List.length_cons]
    by_cases hg : (leftV t c.vs).length = 0
    · rw [if_pos hg, List.length_nil]; omega
    · rw [if_neg hg, List.length_cons, List.length_nil]; omega
theorem vacB_mem {t : Int} {f : List Chn} {x : Chn} (h : x ∈ vacB t f) : ∃ y ∈ f, x.id = y.id ∧ x.vs = leftV t y.vs ∧ 0 < x.vs.length := by
  unfold vacB at h
  obtain ⟨y, hy, hx⟩ := List.mem_flatMap.1 h
  by_cases hg : (leftV t y.vs).length = 0
  · rw [if_pos hg] at hx; simp at hx
  · rw [if_neg hg] at hx
    simp at hx
    subst hx
    exact ⟨y, hy, rfl, rfl, Nat.pos_of_ne_zero hg⟩
theorem leftV_len (t : Int) (l : List Ver) : (leftV t l).length ≤ l.length + 1 := by
  have := trk_len t l zG
  unfold leftV leftT trP
  split
  · omega
  · rw [List.length_cons]; omega
theorem leftV_sz {c : Col} (h : SzCol c) {x : Chn} (hx : x ∈ c.chs) (t : Int) : ∀ e ∈ leftV t x.vs, e.doc.t.size ≤ 1048576 := by
  intro e he
  have h1 := trP_sz h hx t
  unfold leftV leftT at he
  split at he
  · exact szVr_of h hx ((trk_mem t x.vs zG).2 e he)
  · rcases List.mem_cons.1 he with rfl | he
    · exact h1
    · exact szVr_of h hx ((trk_mem t x.vs zG).2 e he)
theorem defsB_all : ∀ (l pre : List Dfn), defsB pre l = true → ∀ d ∈ l, 1 ≤ d.ps.length ∧ d.ps.length ≤ 2
  | [], _, _ => fun d hd => by simp at hd
  | x :: r, pre, h => by
    unfold defsB at h
    simp only [Bool.and_eq_true] at h
    obtain ⟨h1, _, h3⟩ := h
    intro d hd
    rcases List.mem_cons.1 hd with rfl | hd
    · unfold defB at h1
      simp only [Bool.and_eq_true, decide_eq_true_eq] at h1
      exact h1.2.1
    · exact defsB_all r _ h3 d hd
theorem collB_defs {c : Col} (h : collB c = true) : c.dfs.length ≤ 3 ∧ ∀ d ∈ c.dfs, 1 ≤ d.ps.length ∧ d.ps.length ≤ 2 := by
  unfold collB dfsB at h
  simp only [Bool.and_eq_true, decide_eq_true_eq] at h
  exact ⟨h.2.1.1, defsB_all _ _ h.2.1.2⟩
theorem rowInDf {w : World} {p : Option Addr} {l : List Dfn} (h : RowDf w p l) : InDf w p l := by
  rcases h with rfl | ⟨g, rfl, h⟩
  · exact .inl rfl
  · refine .inr ⟨g, 0, rfl, h.lt, fun i hi => ?_⟩
    obtain ⟨h0, q, cap, h1, _, h2⟩ := h.cells i hi
    rw [Nat.zero_add]
    exact ⟨h0, q, cap, h1, rowInD h2⟩
theorem rowInCh {w : World} {p : Option Addr} {l : List Chn} (h : RowCh w p l) : InCh w p l := by
  rcases h with rfl | ⟨g, rfl, h⟩
  · exact .inl rfl
  · exact InVr.rowOf h
theorem OwnChH.slice {w : World} {lo hi : Nat} {v : Value} {f : List Chn} (h : OwnChH w lo hi v f) : ∃ p c, v = .slice p f.length c := by
  rcases h.own.form with ⟨e, e2⟩ | ⟨g, cap, e, _⟩
  · exact ⟨none, 0, by rw [e, e2]; rfl⟩
  · exact ⟨_, cap, e⟩
theorem OwnDfH.slice {w : World} {lo hi : Nat} {v : Value} {f : List Dfn} (h : OwnDfH w lo hi v f) : ∃ p c, v = .slice p f.length c := by
  rcases h.own.form with ⟨e, e2⟩ | ⟨g, cap, e, _⟩
  · exact ⟨none, 0, by rw [e, e2]; rfl⟩
  · exact ⟨_, cap, e⟩
theorem wpList_appCh {w : World} {ops : Array Oper} {rest : List Oper} {o : Oper} {a : Act} {Q : Exit → Act → World → Prop} (hgd : o.guard = none) (s x : Operand)
    (ho : o.op = .call { callee := .builtin .append, args := #[s, x], argTypes := #[27, 27] }) (base n : Nat) (v : Value) (xs : List Value)
    (hs : a.eval s = v) (hown : w.ownsRow base 94 2 v n xs) (ad : Addr) (m c : Nat) (news : List Value) (hx : a.eval x = .slice (some ad) m c) (hl : news.length = m * 2) (hnews : ∀ j u, news[j]? = some u → w.cell? (ad.add j) = some u) (h1 : ∀ u ∈ news, u.oneCell' = true)
    (hn : n ≤ 1000) (hm : m ≤ 1000) (hbase : base ≤ w.heap.size)
    (hK : ∀ v' w', w'.ownsRow base 94 2 v' (n + m) (xs ++ news) → w.grownBy w' v.ownBlock → (v'.ownBlock = v.ownBlock ∨ v'.ownBlock = some w.heap.size) → wpList Tryz.prog ops Q rest (a.put o.dst v') w') : wpList Tryz.prog ops Q (o :: rest) a w := by
  refine wpList_plain hgd fun K hK2 => ?_
  obtain ⟨i0, hi, hz0, hz1, hz2⟩ := info_parts infoCh
  obtain ⟨v', w', hr, h2, h3, h4, h5⟩ := run_append_own_at (P := Tryz.prog) w base 27 o.type 94 i0 (.agg #[.int .i64 0, .slice none 0 0]) 2 32 Tryz.underlying27 hi hz0 hz1 hz2 rfl (by decide) v n xs hown ad m c news hl hnews h1 (by unfold maxLen; omega) (by omega) hbase
  unfold Oper.wp execOp
  simp only [ho, resolve, invoke, builtin, Sem.run_bind, Sem.run_pure, Result.andThen_ok, List.map_toArray, List.map_cons, List.map_nil, hs, hx, hr]
  exact hK2 _ _ (hK v' w' h2 h3 h5)

end Go.Proofs.YtkafanjfjplakaaGreatDoor.Co
