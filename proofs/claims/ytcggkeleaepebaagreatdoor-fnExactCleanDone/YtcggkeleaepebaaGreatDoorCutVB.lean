/- What the program's cutting of one value answers where there is none. -/
import Derived.Test.YtcggkeleaepebaaGreatDoorCut
namespace Go.Proofs.YtcggkeleaepebaaGreatDoor
open Go.RowKit
set_option linter.unusedVariables false

set_option maxHeartbeats 4000000 in
theorem cutValue_none (s : ByteArray) (w : World) (hs : s.size ≤ maxLen) (h : cutV s = none) :
    Calls Tryz.prog 185 #[.string s] w fun e w' => (∃ (k n : Int) (t r : ByteArray), e = .returned (.tuple #[.agg #[.int .i64 k, .int .i64 n, .string t], .string r, .bool false])) ∧ Below w.heap.size w w' := by
  have hsd := @setCell_drewN
  have hs' := hs
  unfold maxLen at hs'
  unfold cutV at h
  by_cases hz : s.size = 0
  · obtain rfl := empty_of s hz
    go_enter Tryz.func185, Tryz.ntmps185
    go_wp2
    exact bodyPost_ret (v := .tuple #[.agg #[.int .i64 0, .int .i64 0, .string em], .string em, .bool false]) (by simp [results, Tryz.results185, go_sem]) rfl ⟨⟨_, _, _, _, rfl⟩, by (repeat (first | (with_reducible exact Below.refl _ _) | (with_reducible assumption) | (with_reducible apply below_drewN) | (with_reducible apply Below.drew) | ((with_reducible refine Below.setCell ?_ ?_ _); rotate_left; focus (first | (simp; done) | (simp; omega) | omega)) | ((with_reducible refine Below.alloc ?_ ?_ _); rotate_left; focus (first | (simp; done) | (simp; omega) | omega))))⟩
  rw [if_neg hz] at h
  have hp : 0 < s.size := by omega
  have hne := ne_of s hp
  have hg := head_get s hp
  rw [hg] at h
  have hlt := s[0].toNat_lt
  unfold cutR at h
  have hx : (s.extract 1 s.size).size = s.size - 1 := by simp
  by_cases c0 : s[0].toNat = 0
  · rw [if_pos c0] at h; cases h
  rw [if_neg c0] at h
  by_cases c1 : s[0].toNat = 1
  · rw [if_pos c1] at h
    by_cases h8 : (s.extract 1 s.size).size < 1
    · clear h
      go_enter Tryz.func185, Tryz.ntmps185
      go_wp2
      go_region
      all_goals go_wp2_with (go_at_call 203; refine (cutNumber_short _ 1 _ (by rw [hx]; omega) (by omega) (by omega)).mono ?_; rintro e w' ⟨rfl, rfl⟩)
      exact bodyPost_ret (v := .tuple #[.agg #[.int .i64 1, .int .i64 0, .string em], .string em, .bool false]) (by simp [results, Tryz.results185, go_sem]) rfl ⟨⟨_, _, _, _, rfl⟩, by (repeat (first | (with_reducible exact Below.refl _ _) | (with_reducible assumption) | (with_reducible apply below_drewN) | (with_reducible apply Below.drew) | ((with_reducible refine Below.setCell ?_ ?_ _); rotate_left; focus (first | (simp; done) | (simp; omega) | omega)) | ((with_reducible refine Below.alloc ?_ ?_ _); rotate_left; focus (first | (simp; done) | (simp; omega) | omega))))⟩
    · rw [if_neg h8] at h; cases h
  rw [if_neg c1] at h
  by_cases c2 : s[0].toNat = 2
  · rw [if_pos c2] at h
    by_cases h8 : (s.extract 1 s.size).size < 8
    · clear h
      go_enter Tryz.func185, Tryz.ntmps185
      go_wp2
      go_region
      all_goals go_wp2_with (go_at_call 203; refine (cutNumber_short _ 8 _ (by rw [hx]; omega) (by omega) (by omega)).mono ?_; rintro e w' ⟨rfl, rfl⟩)
      exact bodyPost_ret (v := .tuple #[.agg #[.int .i64 2, .int .i64 (-4611686018427387904), .string em], .string em, .bool false]) (by simp [results, Tryz.results185, go_sem]) rfl ⟨⟨_, _, _, _, rfl⟩, by (repeat (first | (with_reducible exact Below.refl _ _) | (with_reducible assumption) | (with_reducible apply below_drewN) | (with_reducible apply Below.drew) | ((with_reducible refine Below.setCell ?_ ?_ _); rotate_left; focus (first | (simp; done) | (simp; omega) | omega)) | ((with_reducible refine Below.alloc ?_ ?_ _); rotate_left; focus (first | (simp; done) | (simp; omega) | omega))))⟩
    rw [if_neg h8] at h
    by_cases h9 : 127 < hd (s.extract 1 s.size)
    · clear h
      have H10 : Hid _ := h9
      clear h9
      go_enter Tryz.func185, Tryz.ntmps185
      go_wp2
      go_region
      all_goals go_wp2_with (go_at_call 203; refine (cutNumber_neg _ _ (by rw [hx]; omega) (by omega) H10.out).mono ?_; rintro e w' ⟨rfl, rfl⟩)
      exact bodyPost_ret (v := .tuple #[.agg #[.int .i64 2, .int .i64 (-4611686018427387904), .string em], .string em, .bool false]) (by simp [results, Tryz.results185, go_sem]) rfl ⟨⟨_, _, _, _, rfl⟩, by (repeat (first | (with_reducible exact Below.refl _ _) | (with_reducible assumption) | (with_reducible apply below_drewN) | (with_reducible apply Below.drew) | ((with_reducible refine Below.setCell ?_ ?_ _); rotate_left; focus (first | (simp; done) | (simp; omega) | omega)) | ((with_reducible refine Below.alloc ?_ ?_ _); rotate_left; focus (first | (simp; done) | (simp; omega) | omega))))⟩
    · rw [if_neg h9] at h; cases h
  rw [if_neg c2] at h
  by_cases c3 : s[0].toNat = 3 ∨ s[0].toNat = 4 ∨ s[0].toNat = 5
  · rw [if_pos c3] at h
    cases hc : cutT (s.extract 1 s.size) 2 with
    | some p => rw [hc] at h; cases h
    | none =>
      have HC : Hid _ := hc
      clear hc hg h
      rcases c3 with c3 | c3 | c3
      all_goals
        go_enter Tryz.func185, Tryz.ntmps185
        go_wp2
        go_region
        all_goals go_wp2_with (go_at_call 184; refine (cutText_none _ 2 _ (by rw [hx]; omega) (by omega) (by omega) HC.out).mono ?_; rintro e w' ⟨rfl, q, rfl⟩)
      · exact bodyPost_ret (v := .tuple #[.agg #[.int .i64 3, .int .i64 0, .string em], .string em, .bool false]) (by simp [results, Tryz.results185, go_sem]) rfl ⟨⟨_, _, _, _, rfl⟩, by (repeat (first | (with_reducible exact Below.refl _ _) | (with_reducible assumption) | (with_reducible apply below_drewN) | (with_reducible apply Below.drew) | ((with_reducible refine Below.setCell ?_ ?_ _); rotate_left; focus (first | (simp; done) | (simp; omega) | omega)) | ((with_reducible refine Below.alloc ?_ ?_ _); rotate_left; focus (first | (simp; done) | (simp; omega) | omega))))⟩
      · exact bodyPost_ret (v := .tuple #[.agg #[.int .i64 4, .int .i64 0, .string em], .string em, .bool false]) (by simp [results, Tryz.results185, go_sem]) rfl ⟨⟨_, _, _, _, rfl⟩, by (repeat (first | (with_reducible exact Below.refl _ _) | (with_reducible assumption) | (with_reducible apply below_drewN) | (with_reducible apply Below.drew) | ((with_reducible refine Below.setCell ?_ ?_ _); rotate_left; focus (first | (simp; done) | (simp; omega) | omega)) | ((with_reducible refine Below.alloc ?_ ?_ _); rotate_left; focus (first | (simp; done) | (simp; omega) | omega))))⟩
      · exact bodyPost_ret (v := .tuple #[.agg #[.int .i64 5, .int .i64 0, .string em], .string em, .bool false]) (by simp [results, Tryz.results185, go_sem]) rfl ⟨⟨_, _, _, _, rfl⟩, by (repeat (first | (with_reducible exact Below.refl _ _) | (with_reducible assumption) | (with_reducible apply below_drewN) | (with_reducible apply Below.drew) | ((with_reducible refine Below.setCell ?_ ?_ _); rotate_left; focus (first | (simp; done) | (simp; omega) | omega)) | ((with_reducible refine Below.alloc ?_ ?_ _); rotate_left; focus (first | (simp; done) | (simp; omega) | omega))))⟩
  · have e0 : ((s[0].toNat : Int) == 0) = false := beq_eq_false_iff_ne.mpr (by omega)
    have e1 : ((s[0].toNat : Int) == 1) = false := beq_eq_false_iff_ne.mpr (by omega)
    have e2 : ((s[0].toNat : Int) == 2) = false := beq_eq_false_iff_ne.mpr (by omega)
    have e3 : ((s[0].toNat : Int) == 3) = false := beq_eq_false_iff_ne.mpr (by omega)
    have e4 : ((s[0].toNat : Int) == 4) = false := beq_eq_false_iff_ne.mpr (by omega)
    have e5 : ((s[0].toNat : Int) == 5) = false := beq_eq_false_iff_ne.mpr (by omega)
    have ew : wrap64 (s[0].toNat : Int) = s[0].toNat := IntWalk.wrap64_in _ ⟨by omega, by omega⟩
    clear h hg
    go_enter Tryz.func185, Tryz.ntmps185
    go_wp2
    go_region
    all_goals go_wp2
    exact bodyPost_ret (v := .tuple #[.agg #[.int .i64 s[0].toNat, .int .i64 0, .string em], .string (s.extract 1 s.size), .bool false]) (by simp [results, Tryz.results185, go_sem]) rfl ⟨⟨_, _, _, _, rfl⟩, by (repeat (first | (with_reducible exact Below.refl _ _) | (with_reducible assumption) | (with_reducible apply below_drewN) | (with_reducible apply Below.drew) | ((with_reducible refine Below.setCell ?_ ?_ _); rotate_left; focus (first | (simp; done) | (simp; omega) | omega)) | ((with_reducible refine Below.alloc ?_ ?_ _); rotate_left; focus (first | (simp; done) | (simp; omega) | omega))))⟩

end Go.Proofs.YtcggkeleaepebaaGreatDoor
