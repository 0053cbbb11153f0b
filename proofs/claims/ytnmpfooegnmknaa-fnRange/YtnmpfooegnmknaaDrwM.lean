/- What becomes of a tree's entries when one is put or dropped, said plainly. -/
import Derived.Test.YtnmpfooegnmknaaPutO
namespace Go.Proofs.Ytnmpfooegnmknaa.Tr
open Go.RowKit
set_option linter.unusedVariables false

theorem allE_putP {f : List Pg} {k i : Nat} {e : Ent} (hk : k < f.length) : allE (putP f k i e) = allE (f.take k) ++ (insE f[k].es i e ++ allE (f.drop (k + 1))) := by
  unfold putP; rw [List.getElem?_eq_getElem hk]; dsimp only
  rw [set_split f k hk, allE_append, allE_cons]
theorem allE_splitP {f : List Pg} {next : Int} {k i : Nat} {e : Ent} (hk : k < f.length) : allE (splitP f next k i e) = allE (f.take k) ++ (insE f[k].es i e ++ allE (f.drop (k + 1))) := by
  unfold splitP; rw [List.getElem?_eq_getElem hk]; dsimp only
  rw [allE_append, allE_cons, allE_cons]
  dsimp only
  rw [← List.append_assoc ((insE f[k].es i e).take 2), List.take_append_drop]
/-- An entry more, somewhere. -/
theorem ins_more {f : List Pg} {k i : Nat} {e : Ent} {l : List Ent} (hk : k < f.length) (h : l = allE (f.take k) ++ (insE f[k].es i e ++ allE (f.drop (k + 1)))) : ∃ P S, allE f = P ++ S ∧ l = P ++ e :: S := by
  refine ⟨allE (f.take k) ++ f[k].es.take i, f[k].es.drop i ++ allE (f.drop (k + 1)), ?_, ?_⟩
  · rw [allE_split f k hk, List.append_assoc, ← List.append_assoc (f[k].es.take i), List.take_append_drop]
  · rw [h]; unfold insE; simp
theorem PutR.ins {f : List Pg} {next : Int} {e : Ent} {f' : List Pg} {n m code : Int} (h : PutR f next e f' n m code) (hT : treeB f next = true ∧ entB e = true) :
    (f' = f ∧ n = next ∧ code ≠ 0) ∨ (code = 0 ∧ f'.length ≤ f.length + 1 ∧ n ≤ next + 1 ∧ ∃ P S, allE f = P ++ S ∧ allE f' = P ++ e :: S) := by
  unfold PutR at h
  rw [if_pos hT] at h
  obtain ⟨p, i, b, hp, hP, h⟩ := h
  obtain ⟨hk, rfl⟩ := List.getElem?_eq_some_iff.1 hp
  rcases h with ⟨_, rfl, rfl, _, rfl⟩ | ⟨_, _, rfl, rfl, _, rfl⟩ | ⟨_, _, _, rfl, rfl, _, rfl⟩ | ⟨_, _, _, _, rfl, rfl, _, rfl⟩
  · exact .inl ⟨rfl, rfl, by decide⟩
  · refine .inr ⟨rfl, ?_, by omega, ins_more hk (allE_putP hk)⟩
    unfold putP; rw [List.getElem?_eq_getElem hk]; dsimp only; rw [List.length_set]; omega
  · exact .inl ⟨rfl, rfl, by decide⟩
  · refine .inr ⟨rfl, ?_, by omega, ins_more hk (allE_splitP hk)⟩
    unfold splitP; rw [List.getElem?_eq_getElem hk]
    simp only [List.length_append, List.length_take, List.length_cons, List.length_drop]; omega
theorem DropR.del {f : List Pg} {next : Int} {e : Ent} {f' : List Pg} {n code : Int} (h : DropR f next e f' n code) (hT : treeB f next = true ∧ entB e = true) :
    n = next ∧ ((f' = f ∧ code = 5 ∧ ∀ p, f[place f e]? = some p → ∀ x ∈ p.es, x ≠ e) ∨ (code = 0 ∧ f'.length ≤ f.length ∧ ∃ P S, allE f = P ++ e :: S ∧ allE f' = P ++ S)) := by
  unfold DropR at h
  rw [if_pos hT] at h
  obtain ⟨rfl, h⟩ := h
  refine ⟨rfl, ?_⟩
  rcases h with ⟨rfl, rfl, hn⟩ | ⟨rfl, i, p, hp, hi, hf'⟩
  · exact .inl ⟨rfl, rfl, hn⟩
  refine .inr ⟨rfl, ?_⟩
  subst hf'
  obtain ⟨hk, rfl⟩ := List.getElem?_eq_some_iff.1 hp
  obtain ⟨hi1, hi2⟩ := List.getElem?_eq_some_iff.1 hi
  obtain ⟨k, hkk⟩ : ∃ k, k = place f e := ⟨_, rfl⟩
  simp only [← hkk] at hk hi1 hi2 ⊢
  have hes : f[k].es = f[k].es.take i ++ e :: f[k].es.drop (i + 1) := by
    conv => lhs; rw [← List.take_append_drop i f[k].es]
    rw [List.drop_eq_getElem_cons hi1, hi2]
  refine ⟨?_, allE (f.take k) ++ f[k].es.take i, f[k].es.drop (i + 1) ++ allE (f.drop (k + 1)), ?_, ?_⟩
  · unfold dropP; rw [List.getElem?_eq_getElem hk]; dsimp only
    split
    · rw [List.length_eraseIdx_of_lt hk]; omega
    · rw [List.length_set]; omega
  · conv => lhs; rw [allE_split f k hk, hes]
    simp
  · unfold dropP; rw [List.getElem?_eq_getElem hk]; dsimp only
    split
    · rename_i h1
      have h0 : i = 0 := by omega
      have e1 : f[k].es.take i = [] := by rw [h0]; rfl
      have e2 : f[k].es.drop (i + 1) = [] := List.drop_eq_nil_of_le (by omega)
      rw [e1, e2, List.eraseIdx_eq_take_drop_succ, allE_append]; simp
    · rw [set_split f k hk, allE_append, allE_cons]
      dsimp only
      rw [List.eraseIdx_eq_take_drop_succ]; simp
theorem sizeP_all (f : List Pg) : sizeP f = (allE f).length := by
  unfold sizeP allE; rw [List.length_flatMap]
theorem in_place {f : List Pg} {next : Int} {e : Ent} (h : treeB f next = true) (hx : e ∈ allE f) : ∃ p, f[place f e]? = some p ∧ e ∈ p.es := by
  have h1 := (treeB_iff f next).1 h
  have hk := place_lt f e (by omega)
  rw [allE_split f (place f e) hk, List.mem_append, List.mem_append] at hx
  rcases hx with hx | hx | hx
  · have := ahead_less h hx; rw [lessE_irrefl] at this; cases this
  · exact ⟨_, List.getElem?_eq_getElem hk, hx⟩
  · have := behind_more h hx; rw [lessE_irrefl] at this; cases this
theorem not_twice {f : List Pg} {next : Int} {e : Ent} {P S : List Ent} (h : treeB f next = true) (ha : allE f = P ++ e :: S) : e ∉ P ++ S := by
  have h1 := ((chainB_iff e0 (allE f)).1 ((treeB_iff f next).1 h).2.2.2.2).2
  rw [ha, List.pairwise_append] at h1
  obtain ⟨_, h2, h3⟩ := h1
  rw [List.pairwise_cons] at h2
  intro hm
  rcases List.mem_append.1 hm with hm | hm
  · have := h3 e hm e (List.mem_cons_self); rw [lessE_irrefl] at this; cases this
  · have := h2.1 e hm; rw [lessE_irrefl] at this; cases this

/-- What putting a new entry, dropping it, and asking for it tells. -/
theorem putOf_new {f : List Pg} {next : Int} {e : Ent} {f1 : List Pg} {n1 m1 c1 : Int} (h : PutR f next e f1 n1 m1 c1) (hT : treeB f next = true) (hE : entB e = true) (hne : e ∉ allE f) (hl : f.length < 60) (hn : next < 100000) :
    c1 = 0 ∧ treeB f1 n1 = true ∧ ∃ P S, allE f = P ++ S ∧ allE f1 = P ++ e :: S := by
  refine ⟨?_, h.right ⟨hT, hE⟩, ?_⟩
  all_goals
    rcases h.ins ⟨hT, hE⟩ with ⟨rfl, rfl, hc⟩ | ⟨hc, _, _, hPS⟩
    · exfalso
      unfold PutR at h
      rw [if_pos ⟨hT, hE⟩] at h
      obtain ⟨p, i, b, hp, hP, h⟩ := h
      rcases h with ⟨rfl, _⟩ | ⟨_, _, _, _, _, rfl⟩ | ⟨_, _, hh, _⟩ | ⟨_, _, _, _, _, _, _, rfl⟩
      · obtain ⟨hi, he⟩ := hP.at_.1 rfl
        obtain ⟨hk, rfl⟩ := List.getElem?_eq_some_iff.1 hp
        exact hne (mem_allE.2 ⟨_, List.getElem_mem hk, List.mem_iff_getElem.2 ⟨i, hi, he⟩⟩)
      · exact hc rfl
      · omega
      · exact hc rfl
    · first | exact hc | exact hPS
theorem putOf_there {f : List Pg} {next : Int} {e : Ent} {f1 : List Pg} {n1 m1 c1 : Int} (h : PutR f next e f1 n1 m1 c1) (hT : treeB f next = true) (hE : entB e = true) (hm : e ∈ allE f) : c1 = 12 := by
  obtain ⟨p, hp, he⟩ := in_place hT hm
  unfold PutR at h
  rw [if_pos ⟨hT, hE⟩] at h
  obtain ⟨p', i, b, hp', hP, h⟩ := h
  rw [hp] at hp'; cases hp'
  obtain ⟨hk, rfl⟩ := List.getElem?_eq_some_iff.1 hp
  obtain ⟨q, hq, hqe⟩ := List.mem_iff_getElem.1 he
  have hb := (hP.only hq hqe (page_rise hT hk)).2
  rcases h with ⟨_, _, _, _, rfl⟩ | ⟨hh, _⟩ | ⟨hh, _⟩ | ⟨hh, _⟩
  · rfl
  all_goals rw [hb] at hh; cases hh
theorem dropOf_there {f : List Pg} {next : Int} {e : Ent} {f1 : List Pg} {n1 c1 : Int} (h : DropR f next e f1 n1 c1) (hT : treeB f next = true) (hE : entB e = true) (hm : e ∈ allE f) : c1 = 0 ∧ n1 = next ∧ treeB f1 n1 = true ∧ ∃ P S, allE f = P ++ e :: S ∧ allE f1 = P ++ S := by
  have hR := h.right ⟨hT, hE⟩
  obtain ⟨rfl, h2⟩ := h.del ⟨hT, hE⟩
  rcases h2 with ⟨_, _, hn⟩ | ⟨hc, _, hPS⟩
  · obtain ⟨p, hp, he⟩ := in_place hT hm
    exact absurd rfl (hn p hp e he)
  · exact ⟨hc, rfl, hR.1, hPS⟩
theorem dropOf_gone {f : List Pg} {next : Int} {e : Ent} {f1 : List Pg} {n1 c1 : Int} (h : DropR f next e f1 n1 c1) (hT : treeB f next = true) (hE : entB e = true) (hm : e ∉ allE f) : c1 = 5 := by
  obtain ⟨rfl, h2⟩ := h.del ⟨hT, hE⟩
  rcases h2 with ⟨_, hc, _⟩ | ⟨_, _, P, S, ha, _⟩
  · exact hc
  · exact absurd (by rw [ha]; simp) hm
end Go.Proofs.Ytnmpfooegnmknaa.Tr
