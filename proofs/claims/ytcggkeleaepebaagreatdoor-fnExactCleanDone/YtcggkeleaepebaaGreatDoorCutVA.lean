/- What the program's cutting of one value answers where there is one. -/
import Derived.Test.YtcggkeleaepebaaGreatDoorCut
namespace Go.Proofs.YtcggkeleaepebaaGreatDoor
open Go.RowKit
set_option linter.unusedVariables false

set_option maxHeartbeats 4000000 in
theorem cutValue_some (s r : ByteArray) (v : Val) (w : World) (hs : s.size ≤ maxLen) (h : cutV s = some (v, r)) :
    Calls Tryz.prog 185 #[.string s] w fun e w' => e = .returned (.tuple #[.agg #[.int .i64 v.k, .int .i64 v.n, .string v.t], .string r, .bool true]) ∧ Below w.heap.size w w' := by
  have hsd := @setCell_drewN
  have hs' := hs
  unfold maxLen at hs'
  unfold cutV at h
  by_cases hz : s.size = 0
  · rw [if_pos hz] at h; cases h
  rw [if_neg hz] at h
  have hp : 0 < s.size := by omega
  have hne := ne_of s hp
  have hg := head_get s hp
  rw [hg] at h
  have hlt := s[0].toNat_lt
  unfold cutR at h
  have hx : (s.extract 1 s.size).size = s.size - 1 := by simp
  by_cases c0 : s[0].toNat = 0
  · rw [if_pos c0] at h; injection h with h; injection h with h1 h2; subst h1; subst h2
    clear hg hlt
    go_enter Tryz.func185, Tryz.ntmps185
    go_wp2
    go_region
    all_goals go_wp2
    exact bodyPost_ret (v := .tuple #[.agg #[.int .i64 0, .int .i64 0, .string em], .string (s.extract 1 s.size), .bool true]) (by simp [results, Tryz.results185, go_sem]) rfl ⟨rfl, by (repeat (first | (with_reducible exact Below.refl _ _) | (with_reducible assumption) | (with_reducible apply below_drewN) | (with_reducible apply Below.drew) | ((with_reducible refine Below.setCell ?_ ?_ _); rotate_left; focus (first | (simp; done) | (simp; omega) | omega)) | ((with_reducible refine Below.alloc ?_ ?_ _); rotate_left; focus (first | (simp; done) | (simp; omega) | omega))))⟩
  rw [if_neg c0] at h
  by_cases c1 : s[0].toNat = 1
  · rw [if_pos c1] at h
    by_cases h8 : (s.extract 1 s.size).size < 1
    · rw [if_pos h8] at h; cases h
    rw [if_neg h8] at h
    injection h with h; injection h with h1 h2; subst h1; subst h2
    go_enter Tryz.func185, Tryz.ntmps185
    go_wp2
    go_region
    all_goals go_wp2_with (go_at_call 203; refine (cutNumber_ok _ 1 _ (by rw [hx]; omega) (by omega) (by omega) (by omega)).mono ?_; rintro e w' ⟨rfl, q, rfl⟩)
    exact bodyPost_ret (v := .tuple #[.agg #[.int .i64 1, .int .i64 (beT (s.extract 1 s.size) 1), .string em], .string ((s.extract 1 s.size).extract 1 (s.extract 1 s.size).size), .bool true]) (by simp [results, Tryz.results185, go_sem]) rfl ⟨rfl, by (repeat (first | (with_reducible exact Below.refl _ _) | (with_reducible assumption) | (with_reducible apply below_drewN) | (with_reducible apply Below.drew) | ((with_reducible refine Below.setCell ?_ ?_ _); rotate_left; focus (first | (simp; done) | (simp; omega) | omega)) | ((with_reducible refine Below.alloc ?_ ?_ _); rotate_left; focus (first | (simp; done) | (simp; omega) | omega))))⟩
  rw [if_neg c1] at h
  by_cases c2 : s[0].toNat = 2
  · rw [if_pos c2] at h
    by_cases h8 : (s.extract 1 s.size).size < 8
    · rw [if_pos h8] at h; cases h
    rw [if_neg h8] at h
    by_cases h9 : 127 < hd (s.extract 1 s.size)
    · rw [if_pos h9] at h; cases h
    rw [if_neg h9] at h
    injection h with h; injection h with h1 h2; subst h1; subst h2
    have hb0 : 0 < (s.extract 1 s.size).size := by omega
    have h10 : (s.extract 1 s.size)[0].toNat ≤ 127 := by have := head_get _ hb0; omega
    have hb := beT_half (s.extract 1 s.size) 8 (by omega) hb0 (by omega) h10
    have hb2 : beT (s.extract 1 s.size) 8 < 9223372036854775808 := by omega
    have H10 : Hid (hd (s.extract 1 s.size) ≤ 127) := Nat.le_of_not_lt h9
    clear hb h9 h10 hb0
    go_enter Tryz.func185, Tryz.ntmps185
    go_wp2
    go_region
    all_goals go_wp2_with (go_at_call 203; refine (cutNumber_ok8 _ _ (by rw [hx]; omega) (by omega) H10.out).mono ?_; rintro e w' ⟨rfl, q, rfl⟩)
    exact bodyPost_ret (v := .tuple #[.agg #[.int .i64 2, .int .i64 ((beT (s.extract 1 s.size) 8 : Int) - 4611686018427387904), .string em], .string ((s.extract 1 s.size).extract 8 (s.extract 1 s.size).size), .bool true]) (by simp [results, Tryz.results185, go_sem]) rfl ⟨rfl, by (repeat (first | (with_reducible exact Below.refl _ _) | (with_reducible assumption) | (with_reducible apply below_drewN) | (with_reducible apply Below.drew) | ((with_reducible refine Below.setCell ?_ ?_ _); rotate_left; focus (first | (simp; done) | (simp; omega) | omega)) | ((with_reducible refine Below.alloc ?_ ?_ _); rotate_left; focus (first | (simp; done) | (simp; omega) | omega))))⟩
  rw [if_neg c2] at h
  by_cases c3 : s[0].toNat = 3 ∨ s[0].toNat = 4 ∨ s[0].toNat = 5
  · rw [if_pos c3] at h
    cases hc : cutT (s.extract 1 s.size) 2 with
    | none => rw [hc] at h; cases h
    | some p =>
      obtain ⟨a, b⟩ := p
      rw [hc] at h; injection h with h; injection h with h1 h2; subst h1; subst h2
      have HC : Hid _ := hc
      clear hc hg
      rcases c3 with c3 | c3 | c3
      all_goals
        rw [c3]
        go_enter Tryz.func185, Tryz.ntmps185
        go_wp2
        go_region
        all_goals go_wp2_with (go_at_call 184; refine (cutText_some _ a b 2 _ (by rw [hx]; omega) (by omega) (by omega) HC.out).mono ?_; rintro e w' ⟨rfl, q, rfl⟩)
      · exact bodyPost_ret (v := .tuple #[.agg #[.int .i64 3, .int .i64 0, .string a], .string b, .bool true]) (by simp [results, Tryz.results185, go_sem]) rfl ⟨rfl, by (repeat (first | (with_reducible exact Below.refl _ _) | (with_reducible assumption) | (with_reducible apply below_drewN) | (with_reducible apply Below.drew) | ((with_reducible refine Below.setCell ?_ ?_ _); rotate_left; focus (first | (simp; done) | (simp; omega) | omega)) | ((with_reducible refine Below.alloc ?_ ?_ _); rotate_left; focus (first | (simp; done) | (simp; omega) | omega))))⟩
      · exact bodyPost_ret (v := .tuple #[.agg #[.int .i64 4, .int .i64 0, .string a], .string b, .bool true]) (by simp [results, Tryz.results185, go_sem]) rfl ⟨rfl, by (repeat (first | (with_reducible exact Below.refl _ _) | (with_reducible assumption) | (with_reducible apply below_drewN) | (with_reducible apply Below.drew) | ((with_reducible refine Below.setCell ?_ ?_ _); rotate_left; focus (first | (simp; done) | (simp; omega) | omega)) | ((with_reducible refine Below.alloc ?_ ?_ _); rotate_left; focus (first | (simp; done) | (simp; omega) | omega))))⟩
      · exact bodyPost_ret (v := .tuple #[.agg #[.int .i64 5, .int .i64 0, .string a], .string b, .bool true]) (by simp [results, Tryz.results185, go_sem]) rfl ⟨rfl, by (repeat (first | (with_reducible exact Below.refl _ _) | (with_reducible assumption) | (with_reducible apply below_drewN) | (with_reducible apply Below.drew) | ((with_reducible refine Below.setCell ?_ ?_ _); rotate_left; focus (first | (simp; done) | (simp; omega) | omega)) | ((with_reducible refine Below.alloc ?_ ?_ _); rotate_left; focus (first | (simp; done) | (simp; omega) | omega))))⟩
  rw [if_neg c3] at h; cases h

end Go.Proofs.YtcggkeleaepebaaGreatDoor
