/- How many versions a collection has: what the program and the specification answer. -/
import Derived.Test.YtkafanjfjplakaaGreatDoorColX
namespace Go.Proofs.YtkafanjfjplakaaGreatDoor.Co
open Go.RowKit Tr
set_option linter.unusedVariables false

def versN (l : List Chn) : Nat := (l.map (fun c => c.vs.length)).sum
theorem versN_take (l : List Chn) (k : Nat) (h : k < l.length) : versN (l.take (k + 1)) = versN (l.take k) + l[k].vs.length := by
  unfold versN; rw [List.take_succ_eq_append_getElem h, List.map_append, List.sum_append]; simp
theorem versN_le : ∀ (l : List Chn), (∀ c ∈ l, c.vs.length ≤ 12) → versN l ≤ 12 * l.length
  | [], _ => by simp [versN]
  | c :: r, h => by
    have h1 := h c (by simp)
    have h2 := versN_le r (fun x hx => h x (by simp [hx]))
    unfold versN at *
    rw [List.map_cons, List.sum_cons, List.length_cons]; omega
theorem chsB_all : ∀ (l : List Chn) (last : Int), chsB last l = true → ∀ c ∈ l, topB c.id = true ∧ chnB c = true
  | [], _, _, c, hc => by simp at hc
  | x :: r, last, h, c, hc => by
    rw [chsB] at h
    simp only [Bool.and_eq_true] at h
    obtain ⟨_, a2, a3, a4⟩ := h
    rcases List.mem_cons.mp hc with rfl | hc
    · exact ⟨a2, a3⟩
    · exact chsB_all r x.id a4 c hc
theorem collB_parts {c : Col} (h : collB c = true) : shortB c.name = true ∧ dfsB c.dfs = true ∧ chsB (-1) c.chs = true ∧ c.chs.length ≤ 20 ∧ c.dfs.length ≤ 3 ∧ ∀ x ∈ c.chs, topB x.id = true ∧ 1 ≤ x.vs.length ∧ x.vs.length ≤ 12 ∧ versB x.id 0 x.vs = true := by
  unfold collB at h
  simp only [Bool.and_eq_true] at h
  obtain ⟨h1, h2, h3⟩ := h
  have hl := chsB_len c.chs (-1) (by omega) (by omega) h3
  have hd : c.dfs.length ≤ 3 := by unfold dfsB at h2; simp only [Bool.and_eq_true, decide_eq_true_eq] at h2; exact h2.1
  refine ⟨h1, h2, h3, by omega, hd, fun x hx => ?_⟩
  obtain ⟨a, b⟩ := chsB_all c.chs (-1) h3 x hx
  unfold chnB at b
  simp only [Bool.and_eq_true, decide_eq_true_eq] at b
  exact ⟨a, b.1.1, b.1.2, b.2⟩
theorem versN_small {c : Col} (h : collB c = true) (k : Nat) : versN (c.chs.take k) ≤ 240 := by
  obtain ⟨_, _, _, hl, _, ha⟩ := collB_parts h
  have := versN_le (c.chs.take k) (fun x hx => (ha x (List.mem_of_mem_take hx)).2.2.1)
  rw [List.length_take] at this
  omega
def versR (c : Col) : Int × Int := if collB c = true then (((versN c.chs : Nat) : Int), 0) else (0, 1)

end Go.Proofs.YtkafanjfjplakaaGreatDoor.Co
