/- What the terms of one value say of each other, said plainly. Nothing of the program is used here. -/
import Derived.Test.YtkeghknceccdmaaGreatDoorTermM
namespace Go.Proofs.YtkeghknceccdmaaGreatDoor
open Go.RowKit
set_option linter.unusedVariables false

theorem any_split (l : List Val) (p q r : Val → Bool) (h : ∀ v ∈ l, p v = (q v || r v)) : l.any p = (l.any q || l.any r) := by
  induction l with
  | nil => rfl
  | cons v l ih =>
    rw [List.any_cons, List.any_cons, List.any_cons, h v (by simp), ih (fun u hu => h u (by simp [hu]))]
    cases q v <;> cases r v <;> cases l.any q <;> cases l.any r <;> rfl
theorem oneT_lte (c v : Val) (hc : okB c = true) (hv : okB v = true) : oneT 4 c v = (oneT 1 c v || oneT 3 c v) := by
  have e1 : oneT 1 c v = decide (v = c) := by simp [oneT]
  rw [oneT_ord 4 c v (by decide), oneT_ord 3 c v (by decide), e1]
  by_cases h : v = c
  · subst h
    rw [decide_eq_true rfl, decide_eq_true rfl, ordV_refl]; rfl
  · rw [decide_eq_false h, Bool.false_or]
    have hne : ordV 5 v c ≠ 0 := fun e => h (ordV_zero 5 v c hv hc e)
    congr 1
    show decide (ordV 5 v c ≤ 0) = decide (ordV 5 v c < 0)
    rw [Bool.eq_iff_iff]; simp; omega
theorem oneT_gte (c v : Val) (hc : okB c = true) (hv : okB v = true) : oneT 6 c v = (oneT 1 c v || oneT 5 c v) := by
  have e1 : oneT 1 c v = decide (v = c) := by simp [oneT]
  rw [oneT_ord 6 c v (by decide), oneT_ord 5 c v (by decide), e1]
  by_cases h : v = c
  · subst h
    rw [decide_eq_true rfl, decide_eq_true rfl, ordV_refl]; rfl
  · rw [decide_eq_false h, Bool.false_or]
    have hne : ordV 5 v c ≠ 0 := fun e => h (ordV_zero 5 v c hv hc e)
    congr 1
    show decide (0 ≤ ordV 5 v c) = decide (0 < ordV 5 v c)
    rw [Bool.eq_iff_iff]; simp; omega
theorem heldT_any (op : Int) (l : List Val) (h : op ≠ 9) : heldT op l = heldT 1 l := by unfold heldT; by_cases hl : l = [] <;> simp [hl, h]
theorem letsT_plain (op : Int) (c : Val) (l : List Val) (h8 : op ≠ 8) (h9 : op ≠ 9) (h2 : op ≠ 2) : letsT op c l = (heldT 1 l).any (oneT op c) := by
  unfold letsT; rw [if_neg h8, heldT_any op l h9, decide_eq_false h2]; simp
theorem lets_ne (c : Val) (l : List Val) : letsT 2 c l = !(letsT 1 c l) := by
  rw [letsT_plain 1 c l (by decide) (by decide) (by decide)]
  unfold letsT
  rw [if_neg (by decide), heldT_any 2 l (by decide), decide_eq_true rfl]
  have e : oneT 2 c = oneT 1 c := by funext v; simp [oneT]
  rw [e]; cases (heldT 1 l).any (oneT 1 c) <;> rfl
theorem lets_lte (c : Val) (l : List Val) (hc : okB c = true) (hl : ∀ v ∈ l, okB v = true) : letsT 4 c l = (letsT 1 c l || letsT 3 c l) := by
  rw [letsT_plain 4 c l (by decide) (by decide) (by decide), letsT_plain 1 c l (by decide) (by decide) (by decide), letsT_plain 3 c l (by decide) (by decide) (by decide)]
  exact any_split _ _ _ _ (fun v hv => oneT_lte c v hc (heldT_ok 1 l hl v hv))
theorem lets_gte (c : Val) (l : List Val) (hc : okB c = true) (hl : ∀ v ∈ l, okB v = true) : letsT 6 c l = (letsT 1 c l || letsT 5 c l) := by
  rw [letsT_plain 6 c l (by decide) (by decide) (by decide), letsT_plain 1 c l (by decide) (by decide) (by decide), letsT_plain 5 c l (by decide) (by decide) (by decide)]
  exact any_split _ _ _ _ (fun v hv => oneT_gte c v hc (heldT_ok 1 l hl v hv))
theorem lets_is (l : List Val) : letsT 8 ⟨1, 0, em⟩ l = !(letsT 8 ⟨1, 1, em⟩ l) := by
  unfold letsT
  rw [if_pos rfl, if_pos rfl]
  cases decide (0 < (l.length : Int)) <;> rfl

end Go.Proofs.YtkeghknceccdmaaGreatDoor
