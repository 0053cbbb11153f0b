/- What the specification's test of a value answers for values that hold no others. -/
import Derived.Test.YtcggkeleaepebaaGreatDoorFields
import Derived.Test.YtcggkeleaepebaaGreatDoorFitsY
namespace Go.Proofs.YtcggkeleaepebaaGreatDoor
open Go.RowKit
set_option linter.unusedVariables false

/-- The specification's test of a value at one depth, as its callers take it. -/
def OKAt (d : Nat) : Prop := ∀ (k n : Int) (t : ByteArray) (w : World), t.size ≤ 1048576 →
    Calls Tryz.prog 147 #[.agg #[.int .i64 k, .int .i64 n, .string t], .int .i64 d] w fun e w' => e = .returned (.bool (fits d ⟨k, n, t⟩)) ∧ Below w.heap.size w w'

set_option maxHeartbeats 4000000 in
theorem l01OK_plain (d : Nat) (k n : Int) (t : ByteArray) (w : World) (hs : t.size ≤ 1048576) (h4 : k ≠ 4) (h5 : k ≠ 5) :
    Calls Tryz.prog 147 #[.agg #[.int .i64 k, .int .i64 n, .string t], .int .i64 d] w fun e w' => e = .returned (.bool (fits d ⟨k, n, t⟩)) ∧ Below w.heap.size w w' := by
  rw [fits_base d _ h4 h5]
  have hem : em.size = 0 := rfl
  have hcase : (t = em ∧ t.size = 0) ∨ (0 < t.size ∧ t.toList.isEmpty = false) := by
    by_cases h : t.size = 0
    · exact .inl ⟨empty_of t h, h⟩
    · exact .inr ⟨by omega, ne_of t (by omega)⟩
  by_cases k0 : k = 0
  · subst k0
    rw [base_null]
    rcases hcase with ⟨rfl, hz⟩ | ⟨hz, hne⟩
    · rcases Decidable.em (n = 0) with rfl | hn
      all_goals (try have hn' : (n == 0) = false := beq_eq_false_iff_ne.mpr hn)
      all_goals (try have Hn : Hid _ := hn)
      all_goals (try clear hn)
      all_goals
        go_enter Tryz.func147, Tryz.ntmps147
        go_wp2_with (go_at_call 41; refine (l01In_any _ _ _ _).mono ?_; rintro e w' ⟨rfl, rfl⟩)
        go_ret
        refine ⟨ret_bool ?_, ?_⟩
        · first | (rw [decide_eq_decide]; omega) | (rw [Bool.eq_iff_iff]; simp; omega) | (symm; apply decide_eq_true; omega) | (symm; apply decide_eq_false; omega) | (symm; apply decide_eq_true; constructor; trivial; rfl) | (symm; apply decide_eq_false; intro h; apply Hn.out; exact h.1)
        · (repeat (first | (with_reducible exact Below.refl _ _) | (with_reducible assumption) | (with_reducible apply below_drewN) | (with_reducible apply Below.drew) | ((with_reducible refine Below.setCell ?_ ?_ _); rotate_left; focus (first | (simp; done) | (simp; omega) | omega)) | ((with_reducible refine Below.alloc ?_ ?_ _); rotate_left; focus (first | (simp; done) | (simp; omega) | omega))))
    · rcases Decidable.em (n = 0) with rfl | hn
      all_goals (try have hn' : (n == 0) = false := beq_eq_false_iff_ne.mpr hn)
      all_goals (try have Hn : Hid _ := hn)
      all_goals (try clear hn)
      all_goals
        go_enter Tryz.func147, Tryz.ntmps147
        go_wp2_with (go_at_call 41; refine (l01In_any _ _ _ _).mono ?_; rintro e w' ⟨rfl, rfl⟩)
        go_ret
        refine ⟨ret_bool ?_, ?_⟩
        · first | (rw [decide_eq_decide]; omega) | (rw [Bool.eq_iff_iff]; simp; omega) | (symm; apply decide_eq_true; omega) | (symm; apply decide_eq_false; omega) | (symm; apply decide_eq_true; constructor; trivial; rfl) | (symm; apply decide_eq_false; intro h; apply Hn.out; exact h.1)
        · (repeat (first | (with_reducible exact Below.refl _ _) | (with_reducible assumption) | (with_reducible apply below_drewN) | (with_reducible apply Below.drew) | ((with_reducible refine Below.setCell ?_ ?_ _); rotate_left; focus (first | (simp; done) | (simp; omega) | omega)) | ((with_reducible refine Below.alloc ?_ ?_ _); rotate_left; focus (first | (simp; done) | (simp; omega) | omega))))
  by_cases k1 : k = 1
  · subst k1
    rw [base_bool]
    rcases hcase with ⟨rfl, hz⟩ | ⟨hz, hne⟩
    · rcases (show decide (0 ≤ n ∧ n ≤ 1) = false ∨ decide (0 ≤ n ∧ n ≤ 1) = true by cases decide (0 ≤ n ∧ n ≤ 1) <;> simp) with hn | hn
      all_goals have hn2 := hn
      all_goals simp at hn2
      all_goals
        go_enter Tryz.func147, Tryz.ntmps147
        go_wp2_with (go_at_call 41; refine (l01In_any _ _ _ _).mono ?_; rintro e w' ⟨rfl, rfl⟩)
        go_ret
        refine ⟨ret_bool ?_, ?_⟩
        · first | (rw [decide_eq_decide]; omega) | (rw [Bool.eq_iff_iff]; simp; omega) | (symm; apply decide_eq_true; omega) | (symm; apply decide_eq_false; omega) | (symm; apply decide_eq_true; constructor; trivial; rfl) | (symm; apply decide_eq_false; intro h; apply Hn.out; exact h.1)
        · (repeat (first | (with_reducible exact Below.refl _ _) | (with_reducible assumption) | (with_reducible apply below_drewN) | (with_reducible apply Below.drew) | ((with_reducible refine Below.setCell ?_ ?_ _); rotate_left; focus (first | (simp; done) | (simp; omega) | omega)) | ((with_reducible refine Below.alloc ?_ ?_ _); rotate_left; focus (first | (simp; done) | (simp; omega) | omega))))
    · rcases (show decide (0 ≤ n ∧ n ≤ 1) = false ∨ decide (0 ≤ n ∧ n ≤ 1) = true by cases decide (0 ≤ n ∧ n ≤ 1) <;> simp) with hn | hn
      all_goals have hn2 := hn
      all_goals simp at hn2
      all_goals
        go_enter Tryz.func147, Tryz.ntmps147
        go_wp2_with (go_at_call 41; refine (l01In_any _ _ _ _).mono ?_; rintro e w' ⟨rfl, rfl⟩)
        go_ret
        refine ⟨ret_bool ?_, ?_⟩
        · first | (rw [decide_eq_decide]; omega) | (rw [Bool.eq_iff_iff]; simp; omega) | (symm; apply decide_eq_true; omega) | (symm; apply decide_eq_false; omega) | (symm; apply decide_eq_true; constructor; trivial; rfl) | (symm; apply decide_eq_false; intro h; apply Hn.out; exact h.1)
        · (repeat (first | (with_reducible exact Below.refl _ _) | (with_reducible assumption) | (with_reducible apply below_drewN) | (with_reducible apply Below.drew) | ((with_reducible refine Below.setCell ?_ ?_ _); rotate_left; focus (first | (simp; done) | (simp; omega) | omega)) | ((with_reducible refine Below.alloc ?_ ?_ _); rotate_left; focus (first | (simp; done) | (simp; omega) | omega))))
  by_cases k2 : k = 2
  · subst k2
    rw [base_int]
    rcases hcase with ⟨rfl, hz⟩ | ⟨hz, hne⟩
    · rcases (show decide (-1000000000000 ≤ n ∧ n ≤ 1000000000000) = false ∨ decide (-1000000000000 ≤ n ∧ n ≤ 1000000000000) = true by cases decide (-1000000000000 ≤ n ∧ n ≤ 1000000000000) <;> simp) with hn | hn
      all_goals have hn2 := hn
      all_goals simp at hn2
      all_goals
        go_enter Tryz.func147, Tryz.ntmps147
        go_wp2_with (go_at_call 41; refine (l01In_any _ _ _ _).mono ?_; rintro e w' ⟨rfl, rfl⟩)
        go_ret
        refine ⟨ret_bool ?_, ?_⟩
        · first | (rw [decide_eq_decide]; omega) | (rw [Bool.eq_iff_iff]; simp; omega) | (symm; apply decide_eq_true; omega) | (symm; apply decide_eq_false; omega) | (symm; apply decide_eq_true; constructor; trivial; rfl) | (symm; apply decide_eq_false; intro h; apply Hn.out; exact h.1)
        · (repeat (first | (with_reducible exact Below.refl _ _) | (with_reducible assumption) | (with_reducible apply below_drewN) | (with_reducible apply Below.drew) | ((with_reducible refine Below.setCell ?_ ?_ _); rotate_left; focus (first | (simp; done) | (simp; omega) | omega)) | ((with_reducible refine Below.alloc ?_ ?_ _); rotate_left; focus (first | (simp; done) | (simp; omega) | omega))))
    · rcases (show decide (-1000000000000 ≤ n ∧ n ≤ 1000000000000) = false ∨ decide (-1000000000000 ≤ n ∧ n ≤ 1000000000000) = true by cases decide (-1000000000000 ≤ n ∧ n ≤ 1000000000000) <;> simp) with hn | hn
      all_goals have hn2 := hn
      all_goals simp at hn2
      all_goals
        go_enter Tryz.func147, Tryz.ntmps147
        go_wp2_with (go_at_call 41; refine (l01In_any _ _ _ _).mono ?_; rintro e w' ⟨rfl, rfl⟩)
        go_ret
        refine ⟨ret_bool ?_, ?_⟩
        · first | (rw [decide_eq_decide]; omega) | (rw [Bool.eq_iff_iff]; simp; omega) | (symm; apply decide_eq_true; omega) | (symm; apply decide_eq_false; omega) | (symm; apply decide_eq_true; constructor; trivial; rfl) | (symm; apply decide_eq_false; intro h; apply Hn.out; exact h.1)
        · (repeat (first | (with_reducible exact Below.refl _ _) | (with_reducible assumption) | (with_reducible apply below_drewN) | (with_reducible apply Below.drew) | ((with_reducible refine Below.setCell ?_ ?_ _); rotate_left; focus (first | (simp; done) | (simp; omega) | omega)) | ((with_reducible refine Below.alloc ?_ ?_ _); rotate_left; focus (first | (simp; done) | (simp; omega) | omega))))
  by_cases k3 : k = 3
  · subst k3
    rw [base_text]
    rcases Decidable.em (n = 0) with rfl | hn
    all_goals (try have hn' : (n == 0) = false := beq_eq_false_iff_ne.mpr hn)
    all_goals (try have Hn : Hid _ := hn)
    all_goals (try clear hn)
    all_goals
      go_enter Tryz.func147, Tryz.ntmps147
      go_wp2_with (go_at_call 41; refine (l01In_any _ _ _ _).mono ?_; rintro e w' ⟨rfl, rfl⟩)
      go_ret
      refine ⟨ret_bool ?_, ?_⟩
      · first | (rw [decide_eq_decide]; omega) | (rw [Bool.eq_iff_iff]; simp; omega) | (symm; apply decide_eq_true; omega) | (symm; apply decide_eq_false; omega) | (symm; apply decide_eq_true; constructor; trivial; rfl) | (symm; apply decide_eq_false; intro h; apply Hn.out; exact h.1)
      · (repeat (first | (with_reducible exact Below.refl _ _) | (with_reducible assumption) | (with_reducible apply below_drewN) | (with_reducible apply Below.drew) | ((with_reducible refine Below.setCell ?_ ?_ _); rotate_left; focus (first | (simp; done) | (simp; omega) | omega)) | ((with_reducible refine Below.alloc ?_ ?_ _); rotate_left; focus (first | (simp; done) | (simp; omega) | omega))))
  · have e : base ⟨k, n, t⟩ = false := by
      unfold base; simp only [k0, k1, k2, k3, if_false]
    rw [e]; clear e
    go_enter Tryz.func147, Tryz.ntmps147
    go_wp2_with fail
    go_ret
    exact ⟨rfl, by (repeat (first | (with_reducible exact Below.refl _ _) | (with_reducible assumption) | (with_reducible apply below_drewN) | (with_reducible apply Below.drew) | ((with_reducible refine Below.setCell ?_ ?_ _); rotate_left; focus (first | (simp; done) | (simp; omega) | omega)) | ((with_reducible refine Below.alloc ?_ ?_ _); rotate_left; focus (first | (simp; done) | (simp; omega) | omega))))⟩

end Go.Proofs.YtcggkeleaepebaaGreatDoor
