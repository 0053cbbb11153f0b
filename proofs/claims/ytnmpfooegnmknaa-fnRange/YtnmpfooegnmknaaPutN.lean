/- A tree with an entry more, said plainly, and that it stays right. Nothing of the program is used here but the entries' order. -/
import Derived.Test.YtnmpfooegnmknaaPutM
namespace Go.Proofs.Ytnmpfooegnmknaa.Tr
open Go.RowKit
set_option linter.unusedVariables false

theorem placeU_at (f : List Pg) (e : Ent) : ∀ n, 1 ≤ placeU f e n → atN f e (placeU f e n) = true
  | 0, h => by simp [placeU] at h
  | n + 1, h => by
    rw [placeU_succ] at h ⊢
    split at h
    · rename_i hc
      rw [if_pos hc]
      rw [Bool.and_eq_true] at hc; exact hc.2
    · rename_i hc
      rw [if_neg hc]; exact placeU_at f e n h
theorem placeU_max (f : List Pg) (e : Ent) : ∀ n j, placeU f e n < j → j < n → atN f e j = false
  | 0, j, _, h => absurd h (by omega)
  | n + 1, j, h, hj => by
    rw [placeU_succ] at h
    split at h
    · omega
    · rename_i hc
      by_cases hjn : j = n
      · subst hjn
        rw [Bool.and_eq_true, not_and] at hc
        exact Bool.eq_false_iff.2 (hc (decide_eq_true (by omega)))
      · exact placeU_max f e n j h (by omega)
theorem place_at (f : List Pg) (e : Ent) (h : 1 ≤ place f e) : atN f e (place f e) = true := placeU_at f e _ h
theorem place_max (f : List Pg) (e : Ent) (j : Nat) (h : place f e < j) (hj : j < f.length) : atN f e j = false := placeU_max f e _ j h hj
theorem e0_less {e : Ent} (h : entB e = true) : lessE e0 e = true := by
  unfold entB at h
  simp only [Bool.and_eq_true, decide_eq_true_eq] at h
  unfold lessE e0
  by_cases hk : em = e.key
  · rw [← hk]; simp; omega
  · have h1 := less_total em.toList e.key.toList
    have h2 : (e.key.toList == em.toList) = false := eqL_false _ _ (fun x => hk x.symm)
    have h3 : Op.bytesLess e.key.toList em.toList = false := by
      rw [show em.toList = [] by rw [ByteArray.toList_eq]]; cases e.key.toList <;> rfl
    rw [h2, h3] at h1
    simp at h1
    show (Op.bytesLess em.toList e.key.toList || _) = true
    rw [show em.toList = [] by rw [ByteArray.toList_eq], h1]; rfl
theorem allE_append (f g : List Pg) : allE (f ++ g) = allE f ++ allE g := by unfold allE; rw [List.flatMap_append]
theorem allE_cons (p : Pg) (g : List Pg) : allE (p :: g) = p.es ++ allE g := by unfold allE; rw [List.flatMap_cons]
theorem allE_split (f : List Pg) (k : Nat) (hk : k < f.length) : allE f = allE (f.take k) ++ (f[k].es ++ allE (f.drop (k + 1))) := by
  rw [← allE_cons, ← allE_append, ← List.drop_eq_getElem_cons hk, List.take_append_drop]
theorem mem_allE {f : List Pg} {x : Ent} : x ∈ allE f ↔ ∃ p ∈ f, x ∈ p.es := by unfold allE; exact List.mem_flatMap
/-- All entries on the pages ahead of an entry's own are less. -/
theorem ahead_less {f : List Pg} {next : Int} {e : Ent} (h : treeB f next = true) {x : Ent} (hx : x ∈ allE (f.take (place f e))) : lessE x e = true := by
  obtain ⟨⟨h1, _, _, _⟩, h5, h6, h7, h8⟩ := (treeB_iff f next).1 h
  have hk := place_lt f e (by omega)
  have hk1 : 1 ≤ place f e := by
    rcases Nat.eq_zero_or_pos (place f e) with h0 | h0
    · rw [h0] at hx; simp [allE] at hx
    · exact h0
  have hat := place_at f e hk1
  rw [atN_of f e _ hk] at hat
  have hp : 0 < f[place f e].es.length := by
    rcases Nat.eq_zero_or_pos f[place f e].es.length with h0 | h0
    · rw [atB_none (List.length_eq_zero_iff.1 h0)] at hat; cases hat
    · exact h0
  rw [atB_some hp] at hat
  have hc := ((chainB_iff _ _).1 h8).2
  rw [allE_split f _ hk] at hc
  have hlt := (List.pairwise_append.1 hc).2.2 x hx (f[place f e].es[0]) (List.mem_append_left _ (List.getElem_mem hp))
  by_cases he : f[place f e].es[0] = e
  · rw [he] at hlt; exact hlt
  · have := lessE_total _ _ he
    rw [Bool.not_eq_true'] at hat
    rw [hat] at this
    refine lessE_trans hlt ?_
    cases hz : lessE (f[place f e].es[0]) e
    · rw [hz] at this; cases this
    · rfl
theorem behind_more {f : List Pg} {next : Int} {e : Ent} (h : treeB f next = true) {x : Ent} (hx : x ∈ allE (f.drop (place f e + 1))) : lessE e x = true := by
  obtain ⟨p, hp, hxp⟩ := mem_allE.1 hx
  obtain ⟨j, hj, rfl⟩ := List.mem_iff_getElem.1 hp
  rw [List.getElem_drop] at hxp
  rw [List.length_drop] at hj
  have hjl : place f e + 1 + j < f.length := by omega
  have hat := place_max f e (place f e + 1 + j) (by omega) hjl
  rw [atN_of f e _ hjl] at hat
  have hpos : 0 < f[place f e + 1 + j].es.length := List.length_pos_of_mem hxp
  rw [atB_some hpos, Bool.not_eq_false'] at hat
  obtain ⟨q, hq, rfl⟩ := List.mem_iff_getElem.1 hxp
  rcases Nat.eq_zero_or_pos q with h0 | h0
  · subst h0; exact hat
  · exact lessE_trans hat (page_rise h hjl 0 q hpos hq h0)

def insE (l : List Ent) (i : Nat) (e : Ent) : List Ent := l.take i ++ e :: l.drop i
theorem insE_len (l : List Ent) (i : Nat) (e : Ent) (h : i ≤ l.length) : (insE l i e).length = l.length + 1 := by unfold insE; simp; omega
/-- All entries with one more, at its place. -/
theorem chain_put {f : List Pg} {next : Int} {e : Ent} {i : Nat} (h : treeB f next = true) (he : entB e = true) (hk : place f e < f.length) (hP : PlaceE f[place f e].es e i false) : chainB e0 (allE (f.take (place f e)) ++ (insE f[place f e].es i e ++ allE (f.drop (place f e + 1)))) = true := by
  have hR := page_rise h hk
  have h8 := ((treeB_iff f next).1 h).2.2.2.2
  rw [chainB_iff] at h8 ⊢
  rw [allE_split f _ hk] at h8
  obtain ⟨h1, h2⟩ := h8
  have ha : ∀ x ∈ allE (f.take (place f e)), lessE x e = true := fun x hx => ahead_less h hx
  have hb : ∀ x ∈ allE (f.drop (place f e + 1)), lessE e x = true := fun x hx => behind_more h hx
  have hn := hP.none hR
  obtain ⟨hle, hlo, hhi, _⟩ := hP
  generalize f[place f e].es = l at *
  generalize allE (f.take (place f e)) = A at *
  generalize allE (f.drop (place f e + 1)) = B at *
  have hlo' : ∀ x ∈ l.take i, lessE x e = true := by
    intro x hx
    obtain ⟨q, hq, rfl⟩ := List.mem_iff_getElem.1 hx
    rw [List.length_take] at hq
    rw [List.getElem_take]; exact hlo q (by omega) (by omega)
  have hhi' : ∀ x ∈ l.drop i, lessE e x = true := by
    intro x hx
    obtain ⟨q, hq, rfl⟩ := List.mem_iff_getElem.1 hx
    rw [List.length_drop] at hq
    rw [List.getElem_drop]
    have h3 := hhi (i + q) (by omega) (by omega)
    have h4 := lessE_total _ _ (hn (i + q) (by omega))
    rw [h3] at h4; exact h4
  have hl : A ++ (l ++ B) = (A ++ l.take i) ++ (l.drop i ++ B) := by
    rw [List.append_assoc, ← List.append_assoc (l.take i), List.take_append_drop]
  have hr : A ++ (insE l i e ++ B) = (A ++ l.take i) ++ (e :: (l.drop i ++ B)) := by unfold insE; simp
  rw [hl] at h1 h2
  rw [hr]
  have hm1 : ∀ x ∈ A ++ l.take i, lessE x e = true := by
    intro x hx; rcases List.mem_append.1 hx with hx | hx
    · exact ha x hx
    · exact hlo' x hx
  have hm2 : ∀ x ∈ l.drop i ++ B, lessE e x = true := by
    intro x hx; rcases List.mem_append.1 hx with hx | hx
    · exact hhi' x hx
    · exact hb x hx
  obtain ⟨q1, q2, q3⟩ := List.pairwise_append.1 h2
  refine ⟨?_, List.pairwise_append.2 ⟨q1, List.pairwise_cons.2 ⟨hm2, q2⟩, ?_⟩⟩
  · intro x hx
    rcases List.mem_append.1 hx with hx | hx
    · exact h1 x (List.mem_append_left _ hx)
    · rcases List.mem_cons.1 hx with rfl | hx
      · exact ⟨he, e0_less he⟩
      · exact h1 x (List.mem_append_right _ hx)
  · intro x hx y hy
    rcases List.mem_cons.1 hy with rfl | hy
    · exact hm1 x hx
    · exact q3 x hx y hy

/-- A tree with an entry more at i on page k, where there is room. -/
def putP (f : List Pg) (k i : Nat) (e : Ent) : List Pg := match f[k]? with
  | none => f
  | some p => f.set k ⟨p.num, insE p.es i e⟩
/-- The same where the page is full. -/
def splitP (f : List Pg) (next : Int) (k i : Nat) (e : Ent) : List Pg := match f[k]? with
  | none => f
  | some p => f.take k ++ (⟨p.num, (insE p.es i e).take 2⟩ :: ⟨next, (insE p.es i e).drop 2⟩ :: f.drop (k + 1))
theorem set_split (f : List Pg) (k : Nat) (hk : k < f.length) (q : Pg) : f.set k q = f.take k ++ q :: f.drop (k + 1) := by
  rw [List.set_eq_take_append_cons_drop, if_pos hk]
theorem putP_right {f : List Pg} {next : Int} {e : Ent} {i : Nat} (h : treeB f next = true) (he : entB e = true) (hk : place f e < f.length) (hP : PlaceE f[place f e].es e i false) (hr : f[place f e].es.length < 4) : treeB (putP f (place f e) i e) next = true := by
  have hC := chain_put h he hk hP
  obtain ⟨⟨h1, h2, h3, h4⟩, h5, h6, h7, h8⟩ := (treeB_iff f next).1 h
  have hl := insE_len f[place f e].es i e hP.le
  unfold putP
  rw [List.getElem?_eq_getElem hk]
  dsimp only
  have hm : ∀ p ∈ f.set (place f e) ⟨f[place f e].num, insE f[place f e].es i e⟩, p ∈ f ∨ p = ⟨f[place f e].num, insE f[place f e].es i e⟩ := fun p hp => List.mem_or_eq_of_mem_set hp
  refine (treeB_iff _ _).2 ⟨⟨by simpa using h1, by simpa using h2, h3, h4⟩, ?_, ?_, pair_set f _ hk _ rfl h7, ?_⟩
  · intro p hp
    rw [List.length_set]
    rcases hm p hp with hp | rfl
    · exact h5 p hp
    · dsimp only; exact ⟨by omega, fun _ => by omega⟩
  · intro p hp
    rcases hm p hp with hp | rfl
    · exact h6 p hp
    · exact h6 f[place f e] (List.getElem_mem hk)
  · rw [set_split f _ hk, allE_append, allE_cons]; exact hC
theorem splitP_right {f : List Pg} {next : Int} {e : Ent} {i : Nat} (h : treeB f next = true) (he : entB e = true) (hk : place f e < f.length) (hP : PlaceE f[place f e].es e i false) (hr : f[place f e].es.length = 4) (hl60 : f.length < 60) (hn : next < 100000) : treeB (splitP f next (place f e) i e) (next + 1) = true := by
  have hC := chain_put h he hk hP
  obtain ⟨⟨h1, h2, h3, h4⟩, h5, h6, h7, h8⟩ := (treeB_iff f next).1 h
  have hl := insE_len f[place f e].es i e hP.le
  unfold splitP
  rw [List.getElem?_eq_getElem hk]
  dsimp only
  have hm : ∀ p ∈ f.take (place f e) ++ (⟨f[place f e].num, (insE f[place f e].es i e).take 2⟩ :: ⟨next, (insE f[place f e].es i e).drop 2⟩ :: f.drop (place f e + 1)), p ∈ f.take (place f e) ∨ p = ⟨f[place f e].num, (insE f[place f e].es i e).take 2⟩ ∨ p = ⟨next, (insE f[place f e].es i e).drop 2⟩ ∨ p ∈ f.drop (place f e + 1) := by
    intro p hp; simpa [List.mem_append, List.mem_cons] using hp
  have hz : (f.take (place f e) ++ ((⟨f[place f e].num, (insE f[place f e].es i e).take 2⟩ : Pg) :: ⟨next, (insE f[place f e].es i e).drop 2⟩ :: f.drop (place f e + 1))).length = f.length + 1 := by simp; omega
  have hne : ∀ p ∈ f, p.es.length ≤ 4 ∧ 1 ≤ p.es.length := by
    intro p hp
    refine ⟨(h5 p hp).1, ?_⟩
    rcases Nat.lt_or_ge 1 f.length with h | h
    · exact (h5 p hp).2 h
    · obtain ⟨j, hj, rfl⟩ := List.mem_iff_getElem.1 hp
      have hj0 : j = place f e := by omega
      subst hj0; omega
  refine (treeB_iff _ _).2 ⟨⟨by omega, by omega, by omega, by omega⟩, ?_, ?_, ?_, ?_⟩
  · intro p hp
    rcases hm p hp with hp | rfl | rfl | hp
    · have := hne p (List.mem_of_mem_take hp); exact ⟨this.1, fun _ => this.2⟩
    · simp only [List.length_take]; exact ⟨by omega, fun _ => by omega⟩
    · simp only [List.length_drop]; exact ⟨by omega, fun _ => by omega⟩
    · have := hne p (List.mem_of_mem_drop hp); exact ⟨this.1, fun _ => this.2⟩
  · intro p hp
    rcases hm p hp with hp | rfl | rfl | hp
    · have := h6 p (List.mem_of_mem_take hp); exact ⟨this.1, by omega⟩
    · have := h6 _ (List.getElem_mem hk); exact ⟨this.1, by show f[place f e].num < next + 1; omega⟩
    · exact ⟨by show 1 ≤ next; omega, by show next < next + 1; omega⟩
    · have := h6 p (List.mem_of_mem_drop hp); exact ⟨this.1, by omega⟩
  · have hs := pair_set f _ hk ⟨f[place f e].num, (insE f[place f e].es i e).take 2⟩ rfl h7
    rw [set_split f _ hk] at hs
    obtain ⟨s1, s2, s3⟩ := List.pairwise_append.1 hs
    obtain ⟨s4, s5⟩ := List.pairwise_cons.1 s2
    refine List.pairwise_append.2 ⟨s1, List.pairwise_cons.2 ⟨?_, List.pairwise_cons.2 ⟨?_, s5⟩⟩, ?_⟩
    · intro q hq
      rcases List.mem_cons.1 hq with rfl | hq
      · have := h6 _ (List.getElem_mem hk); show f[place f e].num ≠ next; omega
      · exact s4 q hq
    · intro q hq
      have := h6 q (List.mem_of_mem_drop hq); show next ≠ q.num; omega
    · intro p hp q hq
      rcases List.mem_cons.1 hq with rfl | hq
      · exact s3 p hp _ (List.mem_cons_self ..)
      · rcases List.mem_cons.1 hq with rfl | hq
        · have := h6 p (List.mem_of_mem_take hp); show p.num ≠ next; omega
        · exact s3 p hp q (List.mem_cons_of_mem _ hq)
  · rw [allE_append, allE_cons, allE_cons, ← List.append_assoc (List.take 2 _), List.take_append_drop]; exact hC

end Go.Proofs.Ytnmpfooegnmknaa.Tr
