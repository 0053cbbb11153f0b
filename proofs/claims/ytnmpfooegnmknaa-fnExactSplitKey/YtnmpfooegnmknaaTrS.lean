/- What the specification's test of entries and of trees answers. -/
import Derived.Test.YtnmpfooegnmknaaTrQ
namespace Go.Proofs.Ytnmpfooegnmknaa.Tr
open Go.RowKit
set_option linter.unusedVariables false

theorem lessE_def (k k' : ByteArray) (i i' : Int) : lessE ⟨k, i⟩ ⟨k', i'⟩ = (Op.bytesLess k.toList k'.toList || (k.toList == k'.toList && decide (i < i'))) := rfl
set_option maxHeartbeats 1000000 in
theorem in_any (x a b : Int) (w : World) : Calls Try.prog 64 #[.int .i64 x, .int .i64 a, .int .i64 b] w fun e w' => e = .returned (.bool (decide (a ≤ x) && decide (x ≤ b))) ∧ w' = w := by
  by_cases h1 : a ≤ x <;> by_cases h2 : x ≤ b
  all_goals
    simp only [h1, h2, decide_true, decide_false, Bool.true_and, Bool.false_and]
    go_enter Try.func64, Try.ntmps64
    go_wp2_with fail
    go_ret
    exact ⟨rfl, rfl⟩

set_option maxRecDepth 4000 in
set_option maxHeartbeats 1000000 in
theorem specLess_any (k k' : ByteArray) (i i' : Int) (w : World) :
    Calls Try.prog 99 #[.agg #[.string k, .int .i64 i], .agg #[.string k', .int .i64 i']] w fun e w' => e = .returned (.bool (lessE ⟨k, i⟩ ⟨k', i'⟩)) ∧ Below w.heap.size w w' := by
  rw [lessE_def]
  cases hL : Op.bytesLess k.toList k'.toList <;> cases hE : (k.toList == k'.toList) <;> by_cases hi : i < i'
  all_goals
    simp only [hi, decide_true, decide_false]
    go_enter Try.func99, Try.ntmps99
    go_wp2_with fail
    go_ret
    exact ⟨rfl, by (repeat (first | (with_reducible exact Below.refl _ _) | (with_reducible assumption) | (with_reducible apply below_drewN) | (with_reducible apply Below.drew) | ((with_reducible refine Below.setCell ?_ ?_ _); rotate_left; focus (first | (simp; done) | (simp; omega) | omega)) | ((with_reducible refine Below.alloc ?_ ?_ _); rotate_left; focus (first | (simp; done) | (simp; omega) | omega))))⟩

set_option maxRecDepth 4000 in
set_option maxHeartbeats 1000000 in
theorem specEntry_any (k : ByteArray) (i : Int) (w : World) (hs : k.size ≤ 1048576) :
    Calls Try.prog 51 #[.agg #[.string k, .int .i64 i]] w fun e w' => e = .returned (.bool (entB ⟨k, i⟩)) ∧ Below w.heap.size w w' := by
  unfold entB
  simp only
  have HC : Hid (∀ W : World, Calls _ _ _ W _) := fun W => in_any i 0 9999 W
  by_cases h1 : k.size ≤ 2000
  · have h1' : (k.size : Int) ≤ 2000 := by omega
    obtain ⟨R, hR⟩ : ∃ R, R = (decide (0 ≤ i) && decide (i ≤ 9999)) := ⟨_, rfl⟩
    rw [decide_eq_true h1, Bool.true_and, ← hR]
    have HR : Hid _ := hR
    clear hR
    go_enter Try.func51, Try.ntmps51
    go_wp2_with (go_at_call 64; refine (HC.out _).mono ?_; rintro e w1 ⟨rfl, rfl⟩; rw [← HR.out])
    go_ret
    exact ⟨rfl, by (repeat (first | (with_reducible exact Below.refl _ _) | (with_reducible assumption) | (with_reducible apply below_drewN) | (with_reducible apply Below.drew) | ((with_reducible refine Below.setCell ?_ ?_ _); rotate_left; focus (first | (simp; done) | (simp; omega) | omega)) | ((with_reducible refine Below.alloc ?_ ?_ _); rotate_left; focus (first | (simp; done) | (simp; omega) | omega))))⟩
  · have h1' : ¬ (k.size : Int) ≤ 2000 := by omega
    rw [decide_eq_false h1, Bool.false_and]
    go_enter Try.func51, Try.ntmps51
    go_wp2_with fail
    go_ret
    exact ⟨rfl, by (repeat (first | (with_reducible exact Below.refl _ _) | (with_reducible assumption) | (with_reducible apply below_drewN) | (with_reducible apply Below.drew) | ((with_reducible refine Below.setCell ?_ ?_ _); rotate_left; focus (first | (simp; done) | (simp; omega) | omega)) | ((with_reducible refine Below.alloc ?_ ?_ _); rotate_left; focus (first | (simp; done) | (simp; omega) | omega))))⟩

end Go.Proofs.Ytnmpfooegnmknaa.Tr
