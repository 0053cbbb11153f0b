/- What the program's test of a value answers, for every value. -/
import Derived.Test.YtcggkeleaepebaaGreatDoorFitsX
namespace Go.Proofs.YtcggkeleaepebaaGreatDoor
open Go.RowKit
set_option linter.unusedVariables false

theorem base_null (n : Int) (t : ByteArray) : base ⟨0, n, t⟩ = decide (n = 0 ∧ t.size = 0) := rfl
theorem base_bool (n : Int) (t : ByteArray) : base ⟨1, n, t⟩ = decide (0 ≤ n ∧ n ≤ 1 ∧ t.size = 0) := rfl
theorem base_int (n : Int) (t : ByteArray) : base ⟨2, n, t⟩ = decide (-1000000000000 ≤ n ∧ n ≤ 1000000000000 ∧ t.size = 0) := rfl
theorem base_text (n : Int) (t : ByteArray) : base ⟨3, n, t⟩ = decide (n = 0 ∧ t.size ≤ 300) := rfl
set_option maxHeartbeats 4000000 in
theorem fitsWithin_plain (d : Nat) (k n : Int) (t : ByteArray) (w : World) (hs : t.size ≤ maxLen) (h4 : k ≠ 4) (h5 : k ≠ 5) :
    Calls Tryz.prog 183 #[.agg #[.int .i64 k, .int .i64 n, .string t], .int .i64 d] w fun e w' => e = .returned (.bool (fits d ⟨k, n, t⟩)) ∧ Below w.heap.size w w' := by
  have hs' := hs
  unfold maxLen at hs'
  rw [fits_base d _ h4 h5]
  by_cases hbig : 300 < t.size
  · have e : base ⟨k, n, t⟩ = false := fits_big 0 _ hbig
    rw [e]; clear e
    go_enter Tryz.func183, Tryz.ntmps183
    go_wp2_with fail
    go_ret
    exact ⟨rfl, by (repeat (first | (with_reducible exact Below.refl _ _) | (with_reducible assumption) | (with_reducible apply below_drewN) | (with_reducible apply Below.drew) | ((with_reducible refine Below.setCell ?_ ?_ _); rotate_left; focus (first | (simp; done) | (simp; omega) | omega)) | ((with_reducible refine Below.alloc ?_ ?_ _); rotate_left; focus (first | (simp; done) | (simp; omega) | omega))))⟩
  have hbig' : decide ((300 : Int) < (t.size : Int)) = false := by simp; omega
  have hem : em.size = 0 := rfl
  have hcase : (t = em ∧ t.size = 0) ∨ (0 < t.size ∧ t.toList.isEmpty = false) := by
    by_cases h : t.size = 0
    · exact .inl ⟨empty_of t h, h⟩
    · exact .inr ⟨by omega, ne_of t (by omega)⟩
  by_cases k0 : k = 0
  · subst k0
    rw [base_null]
    rcases hcase with ⟨rfl, hz⟩ | ⟨hz, hne⟩
    · by_cases hn : n = 0
      all_goals
        go_enter Tryz.func183, Tryz.ntmps183
        go_wp2_with fail
        go_ret
        exact ⟨ret_bool (by first | (rw [decide_eq_decide]; omega) | (rw [Bool.eq_iff_iff]; simp; omega) | exact (decide_eq_true (by omega)).symm | exact (decide_eq_false (by omega)).symm), by (repeat (first | (with_reducible exact Below.refl _ _) | (with_reducible assumption) | (with_reducible apply below_drewN) | (with_reducible apply Below.drew) | ((with_reducible refine Below.setCell ?_ ?_ _); rotate_left; focus (first | (simp; done) | (simp; omega) | omega)) | ((with_reducible refine Below.alloc ?_ ?_ _); rotate_left; focus (first | (simp; done) | (simp; omega) | omega))))⟩
    · by_cases hn : n = 0
      all_goals
        go_enter Tryz.func183, Tryz.ntmps183
        go_wp2_with fail
        go_ret
        exact ⟨ret_bool (by first | (rw [decide_eq_decide]; omega) | (rw [Bool.eq_iff_iff]; simp; omega) | exact (decide_eq_true (by omega)).symm | exact (decide_eq_false (by omega)).symm), by (repeat (first | (with_reducible exact Below.refl _ _) | (with_reducible assumption) | (with_reducible apply below_drewN) | (with_reducible apply Below.drew) | ((with_reducible refine Below.setCell ?_ ?_ _); rotate_left; focus (first | (simp; done) | (simp; omega) | omega)) | ((with_reducible refine Below.alloc ?_ ?_ _); rotate_left; focus (first | (simp; done) | (simp; omega) | omega))))⟩
  by_cases k1 : k = 1
  · subst k1
    rw [base_bool]
    rcases hcase with ⟨rfl, hz⟩ | ⟨hz, hne⟩
    · rcases (show n < 0 ∨ (0 ≤ n ∧ n ≤ 1) ∨ 1 < n by omega) with hn | hn | hn
      all_goals
        go_enter Tryz.func183, Tryz.ntmps183
        go_wp2_with fail
        go_ret
        exact ⟨ret_bool (by first | (rw [decide_eq_decide]; omega) | (rw [Bool.eq_iff_iff]; simp; omega) | exact (decide_eq_true (by omega)).symm | exact (decide_eq_false (by omega)).symm), by (repeat (first | (with_reducible exact Below.refl _ _) | (with_reducible assumption) | (with_reducible apply below_drewN) | (with_reducible apply Below.drew) | ((with_reducible refine Below.setCell ?_ ?_ _); rotate_left; focus (first | (simp; done) | (simp; omega) | omega)) | ((with_reducible refine Below.alloc ?_ ?_ _); rotate_left; focus (first | (simp; done) | (simp; omega) | omega))))⟩
    · rcases (show n < 0 ∨ (0 ≤ n ∧ n ≤ 1) ∨ 1 < n by omega) with hn | hn | hn
      all_goals
        go_enter Tryz.func183, Tryz.ntmps183
        go_wp2_with fail
        go_ret
        exact ⟨ret_bool (by first | (rw [decide_eq_decide]; omega) | (rw [Bool.eq_iff_iff]; simp; omega) | exact (decide_eq_true (by omega)).symm | exact (decide_eq_false (by omega)).symm), by (repeat (first | (with_reducible exact Below.refl _ _) | (with_reducible assumption) | (with_reducible apply below_drewN) | (with_reducible apply Below.drew) | ((with_reducible refine Below.setCell ?_ ?_ _); rotate_left; focus (first | (simp; done) | (simp; omega) | omega)) | ((with_reducible refine Below.alloc ?_ ?_ _); rotate_left; focus (first | (simp; done) | (simp; omega) | omega))))⟩
  by_cases k2 : k = 2
  · subst k2
    rw [base_int]
    rcases hcase with ⟨rfl, hz⟩ | ⟨hz, hne⟩
    · rcases (show n < -1000000000000 ∨ (-1000000000000 ≤ n ∧ n ≤ 1000000000000) ∨ 1000000000000 < n by omega) with hn | hn | hn
      all_goals
        go_enter Tryz.func183, Tryz.ntmps183
        go_wp2_with fail
        go_ret
        exact ⟨ret_bool (by first | (rw [decide_eq_decide]; omega) | (rw [Bool.eq_iff_iff]; simp; omega) | exact (decide_eq_true (by omega)).symm | exact (decide_eq_false (by omega)).symm), by (repeat (first | (with_reducible exact Below.refl _ _) | (with_reducible assumption) | (with_reducible apply below_drewN) | (with_reducible apply Below.drew) | ((with_reducible refine Below.setCell ?_ ?_ _); rotate_left; focus (first | (simp; done) | (simp; omega) | omega)) | ((with_reducible refine Below.alloc ?_ ?_ _); rotate_left; focus (first | (simp; done) | (simp; omega) | omega))))⟩
    · rcases (show n < -1000000000000 ∨ (-1000000000000 ≤ n ∧ n ≤ 1000000000000) ∨ 1000000000000 < n by omega) with hn | hn | hn
      all_goals
        go_enter Tryz.func183, Tryz.ntmps183
        go_wp2_with fail
        go_ret
        exact ⟨ret_bool (by first | (rw [decide_eq_decide]; omega) | (rw [Bool.eq_iff_iff]; simp; omega) | exact (decide_eq_true (by omega)).symm | exact (decide_eq_false (by omega)).symm), by (repeat (first | (with_reducible exact Below.refl _ _) | (with_reducible assumption) | (with_reducible apply below_drewN) | (with_reducible apply Below.drew) | ((with_reducible refine Below.setCell ?_ ?_ _); rotate_left; focus (first | (simp; done) | (simp; omega) | omega)) | ((with_reducible refine Below.alloc ?_ ?_ _); rotate_left; focus (first | (simp; done) | (simp; omega) | omega))))⟩
  by_cases k3 : k = 3
  · subst k3
    rw [base_text]
    by_cases hn : n = 0
    all_goals
      go_enter Tryz.func183, Tryz.ntmps183
      go_wp2_with fail
      go_ret
      exact ⟨ret_bool (by first | (rw [decide_eq_decide]; omega) | (rw [Bool.eq_iff_iff]; simp; omega) | exact (decide_eq_true (by omega)).symm | exact (decide_eq_false (by omega)).symm), by (repeat (first | (with_reducible exact Below.refl _ _) | (with_reducible assumption) | (with_reducible apply below_drewN) | (with_reducible apply Below.drew) | ((with_reducible refine Below.setCell ?_ ?_ _); rotate_left; focus (first | (simp; done) | (simp; omega) | omega)) | ((with_reducible refine Below.alloc ?_ ?_ _); rotate_left; focus (first | (simp; done) | (simp; omega) | omega))))⟩
  · have e : base ⟨k, n, t⟩ = false := by
      unfold base; simp only [k0, k1, k2, k3, if_false]
    rw [e]; clear e
    go_enter Tryz.func183, Tryz.ntmps183
    go_wp2_with fail
    go_ret
    exact ⟨rfl, by (repeat (first | (with_reducible exact Below.refl _ _) | (with_reducible assumption) | (with_reducible apply below_drewN) | (with_reducible apply Below.drew) | ((with_reducible refine Below.setCell ?_ ?_ _); rotate_left; focus (first | (simp; done) | (simp; omega) | omega)) | ((with_reducible refine Below.alloc ?_ ?_ _); rotate_left; focus (first | (simp; done) | (simp; omega) | omega))))⟩

set_option maxHeartbeats 1000000 in
theorem fitsWithin_at : ∀ d : Nat, d ≤ 5 → FitsAt d
  | 0, _ => by
    intro k n t w hs
    by_cases h4 : k = 4 ∨ k = 5
    · have e : fits 0 ⟨k, n, t⟩ = false := base_holder _ h4
      rw [e]; clear e
      by_cases hbig : 300 < t.size
      · go_enter Tryz.func183, Tryz.ntmps183
        go_wp2_with fail
        go_ret
        exact ⟨rfl, by (repeat (first | (with_reducible exact Below.refl _ _) | (with_reducible assumption) | (with_reducible apply below_drewN) | (with_reducible apply Below.drew) | ((with_reducible refine Below.setCell ?_ ?_ _); rotate_left; focus (first | (simp; done) | (simp; omega) | omega)) | ((with_reducible refine Below.alloc ?_ ?_ _); rotate_left; focus (first | (simp; done) | (simp; omega) | omega))))⟩
      · by_cases hn : n = 0
        · subst hn
          rcases h4 with rfl | rfl
          all_goals
            go_enter Tryz.func183, Tryz.ntmps183
            go_wp2_with fail
            go_ret
            exact ⟨rfl, by (repeat (first | (with_reducible exact Below.refl _ _) | (with_reducible assumption) | (with_reducible apply below_drewN) | (with_reducible apply Below.drew) | ((with_reducible refine Below.setCell ?_ ?_ _); rotate_left; focus (first | (simp; done) | (simp; omega) | omega)) | ((with_reducible refine Below.alloc ?_ ?_ _); rotate_left; focus (first | (simp; done) | (simp; omega) | omega))))⟩
        · have hn' : (n == 0) = false := beq_eq_false_iff_ne.mpr hn
          rcases h4 with rfl | rfl
          all_goals
            go_enter Tryz.func183, Tryz.ntmps183
            go_wp2_with fail
            go_ret
            exact ⟨rfl, by (repeat (first | (with_reducible exact Below.refl _ _) | (with_reducible assumption) | (with_reducible apply below_drewN) | (with_reducible apply Below.drew) | ((with_reducible refine Below.setCell ?_ ?_ _); rotate_left; focus (first | (simp; done) | (simp; omega) | omega)) | ((with_reducible refine Below.alloc ?_ ?_ _); rotate_left; focus (first | (simp; done) | (simp; omega) | omega))))⟩
    · exact fitsWithin_plain 0 k n t w hs (by omega) (by omega)
  | d + 1, hd => by
    have ih := fitsWithin_at d (by omega)
    intro k n t w hs
    by_cases h4 : k = 4 ∨ k = 5
    · by_cases hbig : 300 < t.size
      · have e : fits (d + 1) ⟨k, n, t⟩ = false := fits_big _ _ hbig
        rw [e]; clear e
        go_enter Tryz.func183, Tryz.ntmps183
        go_wp2_with fail
        go_ret
        exact ⟨rfl, by (repeat (first | (with_reducible exact Below.refl _ _) | (with_reducible assumption) | (with_reducible apply below_drewN) | (with_reducible apply Below.drew) | ((with_reducible refine Below.setCell ?_ ?_ _); rotate_left; focus (first | (simp; done) | (simp; omega) | omega)) | ((with_reducible refine Below.alloc ?_ ?_ _); rotate_left; focus (first | (simp; done) | (simp; omega) | omega))))⟩
      · by_cases hn : n = 0
        · subst hn
          have ed : decide ((0 : Int) = 0 ∧ t.size ≤ 300) = true := decide_eq_true ⟨rfl, by omega⟩
          rcases h4 with rfl | rfl
          · rw [fits_list d _ rfl]
            show Calls _ _ _ _ fun e w' => e = .returned (.bool (decide ((0 : Int) = 0 ∧ t.size ≤ 300) && itemsAll (fits d) (items t))) ∧ _
            rw [ed]; clear ed
            go_enter Tryz.func183, Tryz.ntmps183
            go_wp2_with (go_at_call 201; refine (listFits_of d (by omega) ih t _ hs).mono ?_; rintro e w1 ⟨rfl, hb1⟩)
            go_ret
            exact ⟨ret_bool (by simp), ((Below.refl _ _).alloc (Nat.le_refl _) _).trans (hb1.mono (by simp))⟩
          · rw [fits_doc d _ rfl]
            show Calls _ _ _ _ fun e w' => e = .returned (.bool (decide ((0 : Int) = 0 ∧ t.size ≤ 300) && fieldsAll (fits d) em (fields t))) ∧ _
            rw [ed]; clear ed
            go_enter Tryz.func183, Tryz.ntmps183
            go_wp2_with (go_at_call 202; refine (docFits_of d (by omega) ih t _ hs).mono ?_; rintro e w1 ⟨rfl, hb1⟩)
            go_ret
            exact ⟨ret_bool (by simp), ((Below.refl _ _).alloc (Nat.le_refl _) _).trans (hb1.mono (by simp))⟩
        · have hn' : (n == 0) = false := beq_eq_false_iff_ne.mpr hn
          have ed : decide (n = 0 ∧ t.size ≤ 300) = false := decide_eq_false (by omega)
          have e : fits (d + 1) ⟨k, n, t⟩ = false := by
            rcases h4 with rfl | rfl
            · rw [fits_list d _ rfl]; show (decide (n = 0 ∧ t.size ≤ 300) && _) = _; rw [ed]; rfl
            · rw [fits_doc d _ rfl]; show (decide (n = 0 ∧ t.size ≤ 300) && _) = _; rw [ed]; rfl
          rw [e]; clear e ed
          rcases h4 with rfl | rfl
          all_goals
            go_enter Tryz.func183, Tryz.ntmps183
            go_wp2_with fail
            go_ret
            exact ⟨rfl, by (repeat (first | (with_reducible exact Below.refl _ _) | (with_reducible assumption) | (with_reducible apply below_drewN) | (with_reducible apply Below.drew) | ((with_reducible refine Below.setCell ?_ ?_ _); rotate_left; focus (first | (simp; done) | (simp; omega) | omega)) | ((with_reducible refine Below.alloc ?_ ?_ _); rotate_left; focus (first | (simp; done) | (simp; omega) | omega))))⟩
    · exact fitsWithin_plain (d + 1) k n t w hs (by omega) (by omega)

/-- The value is right. -/
def okB (v : Val) : Bool := fits 5 v

set_option maxHeartbeats 400000 in
theorem valueOK_any (k n : Int) (t : ByteArray) (w : World) (hs : t.size ≤ maxLen) :
    Calls Tryz.prog 169 #[.agg #[.int .i64 k, .int .i64 n, .string t]] w fun e w' => e = .returned (.bool (okB ⟨k, n, t⟩)) ∧ Below w.heap.size w w' := by
  go_enter Tryz.func169, Tryz.ntmps169
  go_wp2_with (go_at_call 183; refine (fitsWithin_at 5 (by omega) k n t _ hs).mono ?_; rintro e w1 ⟨rfl, hb1⟩)
  go_ret
  exact ⟨rfl, ((Below.refl _ _).alloc (Nat.le_refl _) _).trans (hb1.mono (by simp))⟩

end Go.Proofs.YtcggkeleaepebaaGreatDoor
