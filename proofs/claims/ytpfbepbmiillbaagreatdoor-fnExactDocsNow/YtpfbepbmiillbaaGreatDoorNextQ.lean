/- What the specification's cutting of one value answers, for every text. -/
import Derived.Test.YtpfbepbmiillbaaGreatDoorNext0Q
import Derived.Test.YtpfbepbmiillbaaGreatDoorNameOKQ
namespace Go.Proofs.YtpfbepbmiillbaaGreatDoor
open Go.RowKit
set_option linter.unusedVariables false

theorem l01Next_some (s r : ByteArray) (v : Val) (w : World) (hs : s.size ≤ maxLen) (h : cutV s = some (v, r)) :
    Calls Tryz.prog 219 #[.string s] w fun e w' => e = .returned (.tuple #[.agg #[.int .i64 v.k, .int .i64 v.n, .string v.t], .string r, .bool true]) ∧ Below w.heap.size w w' := by
  unfold cutV at h
  by_cases hz : s.size = 0
  · rw [if_pos hz] at h; cases h
  rw [if_neg hz] at h
  have hp : 0 < s.size := by omega
  rw [head_get s hp] at h
  unfold cutR at h
  have hx : (s.extract 1 s.size).size = s.size - 1 := by simp
  by_cases c0 : s[0].toNat = 0
  · rw [if_pos c0] at h; injection h with h; injection h with h1 h2; subst h1; subst h2
    exact l01Next_c0 s w hs hp c0
  rw [if_neg c0] at h
  by_cases c1 : s[0].toNat = 1
  · rw [if_pos c1] at h
    by_cases h8 : (s.extract 1 s.size).size < 1
    · rw [if_pos h8] at h; cases h
    rw [if_neg h8] at h
    injection h with h; injection h with h1 h2; subst h1; subst h2
    rw [minus_ext s 1 _ (by omega), hx]
    have := l01Next_c1 s w hs hp c1 (by omega)
    rw [show 1 + (s.size - 1) = s.size by omega]
    show Calls _ _ _ _ fun e w' => e = .returned (.tuple #[.agg #[.int .i64 1, .int .i64 (beT (s.extract 1 s.size) 1), .string em], _, _]) ∧ _
    rw [beT_one s (by omega)]
    exact this
  rw [if_neg c1] at h
  by_cases c2 : s[0].toNat = 2
  · rw [if_pos c2] at h
    by_cases h8 : (s.extract 1 s.size).size < 8
    · rw [if_pos h8] at h; cases h
    rw [if_neg h8] at h
    by_cases h9 : 127 < hd (s.extract 1 s.size)
    · rw [if_pos h9] at h; cases h
    rw [if_neg h9] at h
    injection h with h; injection h with h1 h2; subst h1; subst h2
    rw [minus_ext s 8 _ (by omega), hx, show 1 + (s.size - 1) = s.size by omega]
    exact l01Next_c2 s w hs hp c2 (by omega) (by omega)
  rw [if_neg c2] at h
  by_cases c3 : s[0].toNat = 3 ∨ s[0].toNat = 4 ∨ s[0].toNat = 5
  · rw [if_pos c3] at h
    unfold cutT at h
    by_cases h8 : (s.extract 1 s.size).size < 2
    · rw [if_pos h8] at h; cases h
    rw [if_neg h8] at h
    by_cases h9 : (s.extract 1 s.size).size < 2 + beT (s.extract 1 s.size) 2
    · rw [if_pos h9] at h; cases h
    rw [if_neg h9] at h
    injection h with h; injection h with h1 h2; subst h1; subst h2
    rw [minus_ext s _ (s.extract 1 s.size).size (by omega), hx, show 1 + (s.size - 1) = s.size by omega, show 1 + (2 + beT (s.extract 1 s.size) 2) = 3 + beT (s.extract 1 s.size) 2 by omega]
    show Calls _ _ _ _ fun e w' => e = .returned (.tuple #[.agg #[.int .i64 (s[0].toNat : Int), .int .i64 0, .string ((s.extract 1 s.size).extract 2 (2 + beT (s.extract 1 s.size) 2))], _, _]) ∧ _
    rw [minus_ext s 2 (2 + beT (s.extract 1 s.size) 2) (by omega), show 1 + (2 + beT (s.extract 1 s.size) 2) = 3 + beT (s.extract 1 s.size) 2 by omega]
    rcases c3 with c3 | c3 | c3 <;> rw [c3]
    · exact l01Next_c3 s w hs hp c3 (by omega) (by omega)
    · exact l01Next_c4 s w hs hp c3 (by omega) (by omega)
    · exact l01Next_c5 s w hs hp c3 (by omega) (by omega)
  rw [if_neg c3] at h; cases h

theorem l01Next_none (s : ByteArray) (w : World) (hs : s.size ≤ maxLen) (h : cutV s = none) :
    Calls Tryz.prog 219 #[.string s] w fun e w' => e = .returned (.tuple #[.agg #[.int .i64 0, .int .i64 0, .string em], .string em, .bool false]) ∧ Below w.heap.size w w' := by
  unfold cutV at h
  by_cases hz : s.size = 0
  · exact l01Next_e s w hs hz
  rw [if_neg hz] at h
  have hp : 0 < s.size := by omega
  rw [head_get s hp] at h
  unfold cutR at h
  have hx : (s.extract 1 s.size).size = s.size - 1 := by simp
  by_cases c0 : s[0].toNat = 0
  · rw [if_pos c0] at h; cases h
  rw [if_neg c0] at h
  by_cases c1 : s[0].toNat = 1
  · rw [if_pos c1] at h
    by_cases h8 : (s.extract 1 s.size).size < 1
    · exact l01Next_n1 s w hs hp c1 (by omega)
    rw [if_neg h8] at h; cases h
  rw [if_neg c1] at h
  by_cases c2 : s[0].toNat = 2
  · rw [if_pos c2] at h
    by_cases h8 : (s.extract 1 s.size).size < 8
    · exact l01Next_n2a s w hs hp c2 (by omega)
    rw [if_neg h8] at h
    by_cases h9 : 127 < hd (s.extract 1 s.size)
    · exact l01Next_n2b s w hs hp c2 (by omega) h9
    rw [if_neg h9] at h; cases h
  rw [if_neg c2] at h
  by_cases c3 : s[0].toNat = 3 ∨ s[0].toNat = 4 ∨ s[0].toNat = 5
  · rw [if_pos c3] at h
    unfold cutT at h
    by_cases h8 : (s.extract 1 s.size).size < 2
    · rcases c3 with c3 | c3 | c3
      · exact l01Next_n3a s w hs hp c3 (by omega)
      · exact l01Next_n4a s w hs hp c3 (by omega)
      · exact l01Next_n5a s w hs hp c3 (by omega)
    rw [if_neg h8] at h
    by_cases h9 : (s.extract 1 s.size).size < 2 + beT (s.extract 1 s.size) 2
    · rcases c3 with c3 | c3 | c3
      · exact l01Next_n3b s w hs hp c3 (by omega) (by omega)
      · exact l01Next_n4b s w hs hp c3 (by omega) (by omega)
      · exact l01Next_n5b s w hs hp c3 (by omega) (by omega)
    rw [if_neg h9] at h; cases h
  exact l01Next_o s w hs hp (by omega)

end Go.Proofs.YtpfbepbmiillbaaGreatDoor

/- What the program's cutting of one value answers where there is one. -/
namespace Go.Proofs.YtpfbepbmiillbaaGreatDoor
open Go.RowKit
set_option linter.unusedVariables false

set_option maxHeartbeats 4000000 in
theorem cutValue_some (s r : ByteArray) (v : Val) (w : World) (hs : s.size ≤ maxLen) (h : cutV s = some (v, r)) :
    Calls Tryz.prog 249 #[.string s] w fun e w' => e = .returned (.tuple #[.agg #[.int .i64 v.k, .int .i64 v.n, .string v.t], .string r, .bool true]) ∧ Below w.heap.size w w' := by
  have hsd := @setCell_drewN
  have hs' := hs
  unfold maxLen at hs'
  unfold cutV at h
  by_cases hz : s.size = 0
  · rw [if_pos hz] at h; cases h
  rw [if_neg hz] at h
  have hp : 0 < s.size := by omega
  have hne := ne_of s hp
  have hg := head_get s hp
  rw [hg] at h
  have hlt := s[0].toNat_lt
  unfold cutR at h
  have hx : (s.extract 1 s.size).size = s.size - 1 := by simp
  by_cases c0 : s[0].toNat = 0
  · rw [if_pos c0] at h; injection h with h; injection h with h1 h2; subst h1; subst h2
    clear hg hlt
    go_enter Tryz.func249, Tryz.ntmps249
    go_wp2
    go_region
    all_goals go_wp2
    exact bodyPost_ret (v := .tuple #[.agg #[.int .i64 0, .int .i64 0, .string em], .string (s.extract 1 s.size), .bool true]) (by simp [results, Tryz.results249, go_sem]) rfl ⟨rfl, by (repeat (first | (with_reducible exact Below.refl _ _) | (with_reducible assumption) | (with_reducible apply below_drewN) | (with_reducible apply Below.drew) | ((with_reducible refine Below.setCell ?_ ?_ _); rotate_left; focus (first | (simp; done) | (simp; omega) | omega)) | ((with_reducible refine Below.alloc ?_ ?_ _); rotate_left; focus (first | (simp; done) | (simp; omega) | omega))))⟩
  rw [if_neg c0] at h
  by_cases c1 : s[0].toNat = 1
  · rw [if_pos c1] at h
    by_cases h8 : (s.extract 1 s.size).size < 1
    · rw [if_pos h8] at h; cases h
    rw [if_neg h8] at h
    injection h with h; injection h with h1 h2; subst h1; subst h2
    go_enter Tryz.func249, Tryz.ntmps249
    go_wp2
    go_region
    all_goals go_wp2_with (go_at_call 257; refine (cutNumber_ok _ 1 _ (by rw [hx]; omega) (by omega) (by omega) (by omega)).mono ?_; rintro e w' ⟨rfl, q, rfl⟩)
    exact bodyPost_ret (v := .tuple #[.agg #[.int .i64 1, .int .i64 (beT (s.extract 1 s.size) 1), .string em], .string ((s.extract 1 s.size).extract 1 (s.extract 1 s.size).size), .bool true]) (by simp [results, Tryz.results249, go_sem]) rfl ⟨rfl, by (repeat (first | (with_reducible exact Below.refl _ _) | (with_reducible assumption) | (with_reducible apply below_drewN) | (with_reducible apply Below.drew) | ((with_reducible refine Below.setCell ?_ ?_ _); rotate_left; focus (first | (simp; done) | (simp; omega) | omega)) | ((with_reducible refine Below.alloc ?_ ?_ _); rotate_left; focus (first | (simp; done) | (simp; omega) | omega))))⟩
  rw [if_neg c1] at h
  by_cases c2 : s[0].toNat = 2
  · rw [if_pos c2] at h
    by_cases h8 : (s.extract 1 s.size).size < 8
    · rw [if_pos h8] at h; cases h
    rw [if_neg h8] at h
    by_cases h9 : 127 < hd (s.extract 1 s.size)
    · rw [if_pos h9] at h; cases h
    rw [if_neg h9] at h
    injection h with h; injection h with h1 h2; subst h1; subst h2
    have hb0 : 0 < (s.extract 1 s.size).size := by omega
    have h10 : (s.extract 1 s.size)[0].toNat ≤ 127 := by have := head_get _ hb0; omega
    have hb := beT_half (s.extract 1 s.size) 8 (by omega) hb0 (by omega) h10
    have hb2 : beT (s.extract 1 s.size) 8 < 9223372036854775808 := by omega
    have H10 : Hid (hd (s.extract 1 s.size) ≤ 127) := Nat.le_of_not_lt h9
    clear hb h9 h10 hb0
    go_enter Tryz.func249, Tryz.ntmps249
    go_wp2
    go_region
    all_goals go_wp2_with (go_at_call 257; refine (cutNumber_ok8 _ _ (by rw [hx]; omega) (by omega) H10.out).mono ?_; rintro e w' ⟨rfl, q, rfl⟩)
    exact bodyPost_ret (v := .tuple #[.agg #[.int .i64 2, .int .i64 ((beT (s.extract 1 s.size) 8 : Int) - 4611686018427387904), .string em], .string ((s.extract 1 s.size).extract 8 (s.extract 1 s.size).size), .bool true]) (by simp [results, Tryz.results249, go_sem]) rfl ⟨rfl, by (repeat (first | (with_reducible exact Below.refl _ _) | (with_reducible assumption) | (with_reducible apply below_drewN) | (with_reducible apply Below.drew) | ((with_reducible refine Below.setCell ?_ ?_ _); rotate_left; focus (first | (simp; done) | (simp; omega) | omega)) | ((with_reducible refine Below.alloc ?_ ?_ _); rotate_left; focus (first | (simp; done) | (simp; omega) | omega))))⟩
  rw [if_neg c2] at h
  by_cases c3 : s[0].toNat = 3 ∨ s[0].toNat = 4 ∨ s[0].toNat = 5
  · rw [if_pos c3] at h
    cases hc : cutT (s.extract 1 s.size) 2 with
    | none => rw [hc] at h; cases h
    | some p =>
      obtain ⟨a, b⟩ := p
      rw [hc] at h; injection h with h; injection h with h1 h2; subst h1; subst h2
      have HC : Hid _ := hc
      clear hc hg
      rcases c3 with c3 | c3 | c3
      all_goals
        rw [c3]
        go_enter Tryz.func249, Tryz.ntmps249
        go_wp2
        go_region
        all_goals go_wp2_with (go_at_call 248; refine (cutText_some _ a b 2 _ (by rw [hx]; omega) (by omega) (by omega) HC.out).mono ?_; rintro e w' ⟨rfl, q, rfl⟩)
      · exact bodyPost_ret (v := .tuple #[.agg #[.int .i64 3, .int .i64 0, .string a], .string b, .bool true]) (by simp [results, Tryz.results249, go_sem]) rfl ⟨rfl, by (repeat (first | (with_reducible exact Below.refl _ _) | (with_reducible assumption) | (with_reducible apply below_drewN) | (with_reducible apply Below.drew) | ((with_reducible refine Below.setCell ?_ ?_ _); rotate_left; focus (first | (simp; done) | (simp; omega) | omega)) | ((with_reducible refine Below.alloc ?_ ?_ _); rotate_left; focus (first | (simp; done) | (simp; omega) | omega))))⟩
      · exact bodyPost_ret (v := .tuple #[.agg #[.int .i64 4, .int .i64 0, .string a], .string b, .bool true]) (by simp [results, Tryz.results249, go_sem]) rfl ⟨rfl, by (repeat (first | (with_reducible exact Below.refl _ _) | (with_reducible assumption) | (with_reducible apply below_drewN) | (with_reducible apply Below.drew) | ((with_reducible refine Below.setCell ?_ ?_ _); rotate_left; focus (first | (simp; done) | (simp; omega) | omega)) | ((with_reducible refine Below.alloc ?_ ?_ _); rotate_left; focus (first | (simp; done) | (simp; omega) | omega))))⟩
      · exact bodyPost_ret (v := .tuple #[.agg #[.int .i64 5, .int .i64 0, .string a], .string b, .bool true]) (by simp [results, Tryz.results249, go_sem]) rfl ⟨rfl, by (repeat (first | (with_reducible exact Below.refl _ _) | (with_reducible assumption) | (with_reducible apply below_drewN) | (with_reducible apply Below.drew) | ((with_reducible refine Below.setCell ?_ ?_ _); rotate_left; focus (first | (simp; done) | (simp; omega) | omega)) | ((with_reducible refine Below.alloc ?_ ?_ _); rotate_left; focus (first | (simp; done) | (simp; omega) | omega))))⟩
  rw [if_neg c3] at h; cases h

end Go.Proofs.YtpfbepbmiillbaaGreatDoor

/- What the program's cutting of one value answers where there is none. -/
namespace Go.Proofs.YtpfbepbmiillbaaGreatDoor
open Go.RowKit
set_option linter.unusedVariables false

set_option maxHeartbeats 4000000 in
theorem cutValue_none (s : ByteArray) (w : World) (hs : s.size ≤ maxLen) (h : cutV s = none) :
    Calls Tryz.prog 249 #[.string s] w fun e w' => (∃ (k n : Int) (t r : ByteArray), e = .returned (.tuple #[.agg #[.int .i64 k, .int .i64 n, .string t], .string r, .bool false])) ∧ Below w.heap.size w w' := by
  have hsd := @setCell_drewN
  have hs' := hs
  unfold maxLen at hs'
  unfold cutV at h
  by_cases hz : s.size = 0
  · obtain rfl := empty_of s hz
    go_enter Tryz.func249, Tryz.ntmps249
    go_wp2
    exact bodyPost_ret (v := .tuple #[.agg #[.int .i64 0, .int .i64 0, .string em], .string em, .bool false]) (by simp [results, Tryz.results249, go_sem]) rfl ⟨⟨_, _, _, _, rfl⟩, by (repeat (first | (with_reducible exact Below.refl _ _) | (with_reducible assumption) | (with_reducible apply below_drewN) | (with_reducible apply Below.drew) | ((with_reducible refine Below.setCell ?_ ?_ _); rotate_left; focus (first | (simp; done) | (simp; omega) | omega)) | ((with_reducible refine Below.alloc ?_ ?_ _); rotate_left; focus (first | (simp; done) | (simp; omega) | omega))))⟩
  rw [if_neg hz] at h
  have hp : 0 < s.size := by omega
  have hne := ne_of s hp
  have hg := head_get s hp
  rw [hg] at h
  have hlt := s[0].toNat_lt
  unfold cutR at h
  have hx : (s.extract 1 s.size).size = s.size - 1 := by simp
  by_cases c0 : s[0].toNat = 0
  · rw [if_pos c0] at h; cases h
  rw [if_neg c0] at h
  by_cases c1 : s[0].toNat = 1
  · rw [if_pos c1] at h
    by_cases h8 : (s.extract 1 s.size).size < 1
    · clear h
      go_enter Tryz.func249, Tryz.ntmps249
      go_wp2
      go_region
      all_goals go_wp2_with (go_at_call 257; refine (cutNumber_short _ 1 _ (by rw [hx]; omega) (by omega) (by omega)).mono ?_; rintro e w' ⟨rfl, rfl⟩)
      exact bodyPost_ret (v := .tuple #[.agg #[.int .i64 1, .int .i64 0, .string em], .string em, .bool false]) (by simp [results, Tryz.results249, go_sem]) rfl ⟨⟨_, _, _, _, rfl⟩, by (repeat (first | (with_reducible exact Below.refl _ _) | (with_reducible assumption) | (with_reducible apply below_drewN) | (with_reducible apply Below.drew) | ((with_reducible refine Below.setCell ?_ ?_ _); rotate_left; focus (first | (simp; done) | (simp; omega) | omega)) | ((with_reducible refine Below.alloc ?_ ?_ _); rotate_left; focus (first | (simp; done) | (simp; omega) | omega))))⟩
    · rw [if_neg h8] at h; cases h
  rw [if_neg c1] at h
  by_cases c2 : s[0].toNat = 2
  · rw [if_pos c2] at h
    by_cases h8 : (s.extract 1 s.size).size < 8
    · clear h
      go_enter Tryz.func249, Tryz.ntmps249
      go_wp2
      go_region
      all_goals go_wp2_with (go_at_call 257; refine (cutNumber_short _ 8 _ (by rw [hx]; omega) (by omega) (by omega)).mono ?_; rintro e w' ⟨rfl, rfl⟩)
      exact bodyPost_ret (v := .tuple #[.agg #[.int .i64 2, .int .i64 (-4611686018427387904), .string em], .string em, .bool false]) (by simp [results, Tryz.results249, go_sem]) rfl ⟨⟨_, _, _, _, rfl⟩, by (repeat (first | (with_reducible exact Below.refl _ _) | (with_reducible assumption) | (with_reducible apply below_drewN) | (with_reducible apply Below.drew) | ((with_reducible refine Below.setCell ?_ ?_ _); rotate_left; focus (first | (simp; done) | (simp; omega) | omega)) | ((with_reducible refine Below.alloc ?_ ?_ _); rotate_left; focus (first | (simp; done) | (simp; omega) | omega))))⟩
    rw [if_neg h8] at h
    by_cases h9 : 127 < hd (s.extract 1 s.size)
    · clear h
      have H10 : Hid _ := h9
      clear h9
      go_enter Tryz.func249, Tryz.ntmps249
      go_wp2
      go_region
      all_goals go_wp2_with (go_at_call 257; refine (cutNumber_neg _ _ (by rw [hx]; omega) (by omega) H10.out).mono ?_; rintro e w' ⟨rfl, rfl⟩)
      exact bodyPost_ret (v := .tuple #[.agg #[.int .i64 2, .int .i64 (-4611686018427387904), .string em], .string em, .bool false]) (by simp [results, Tryz.results249, go_sem]) rfl ⟨⟨_, _, _, _, rfl⟩, by (repeat (first | (with_reducible exact Below.refl _ _) | (with_reducible assumption) | (with_reducible apply below_drewN) | (with_reducible apply Below.drew) | ((with_reducible refine Below.setCell ?_ ?_ _); rotate_left; focus (first | (simp; done) | (simp; omega) | omega)) | ((with_reducible refine Below.alloc ?_ ?_ _); rotate_left; focus (first | (simp; done) | (simp; omega) | omega))))⟩
    · rw [if_neg h9] at h; cases h
  rw [if_neg c2] at h
  by_cases c3 : s[0].toNat = 3 ∨ s[0].toNat = 4 ∨ s[0].toNat = 5
  · rw [if_pos c3] at h
    cases hc : cutT (s.extract 1 s.size) 2 with
    | some p => rw [hc] at h; cases h
    | none =>
      have HC : Hid _ := hc
      clear hc hg h
      rcases c3 with c3 | c3 | c3
      all_goals
        go_enter Tryz.func249, Tryz.ntmps249
        go_wp2
        go_region
        all_goals go_wp2_with (go_at_call 248; refine (cutText_none _ 2 _ (by rw [hx]; omega) (by omega) (by omega) HC.out).mono ?_; rintro e w' ⟨rfl, q, rfl⟩)
      · exact bodyPost_ret (v := .tuple #[.agg #[.int .i64 3, .int .i64 0, .string em], .string em, .bool false]) (by simp [results, Tryz.results249, go_sem]) rfl ⟨⟨_, _, _, _, rfl⟩, by (repeat (first | (with_reducible exact Below.refl _ _) | (with_reducible assumption) | (with_reducible apply below_drewN) | (with_reducible apply Below.drew) | ((with_reducible refine Below.setCell ?_ ?_ _); rotate_left; focus (first | (simp; done) | (simp; omega) | omega)) | ((with_reducible refine Below.alloc ?_ ?_ _); rotate_left; focus (first | (simp; done) | (simp; omega) | omega))))⟩
      · exact bodyPost_ret (v := .tuple #[.agg #[.int .i64 4, .int .i64 0, .string em], .string em, .bool false]) (by simp [results, Tryz.results249, go_sem]) rfl ⟨⟨_, _, _, _, rfl⟩, by (repeat (first | (with_reducible exact Below.refl _ _) | (with_reducible assumption) | (with_reducible apply below_drewN) | (with_reducible apply Below.drew) | ((with_reducible refine Below.setCell ?_ ?_ _); rotate_left; focus (first | (simp; done) | (simp; omega) | omega)) | ((with_reducible refine Below.alloc ?_ ?_ _); rotate_left; focus (first | (simp; done) | (simp; omega) | omega))))⟩
      · exact bodyPost_ret (v := .tuple #[.agg #[.int .i64 5, .int .i64 0, .string em], .string em, .bool false]) (by simp [results, Tryz.results249, go_sem]) rfl ⟨⟨_, _, _, _, rfl⟩, by (repeat (first | (with_reducible exact Below.refl _ _) | (with_reducible assumption) | (with_reducible apply below_drewN) | (with_reducible apply Below.drew) | ((with_reducible refine Below.setCell ?_ ?_ _); rotate_left; focus (first | (simp; done) | (simp; omega) | omega)) | ((with_reducible refine Below.alloc ?_ ?_ _); rotate_left; focus (first | (simp; done) | (simp; omega) | omega))))⟩
  · have e0 : ((s[0].toNat : Int) == 0) = false := beq_eq_false_iff_ne.mpr (by omega)
    have e1 : ((s[0].toNat : Int) == 1) = false := beq_eq_false_iff_ne.mpr (by omega)
    have e2 : ((s[0].toNat : Int) == 2) = false := beq_eq_false_iff_ne.mpr (by omega)
    have e3 : ((s[0].toNat : Int) == 3) = false := beq_eq_false_iff_ne.mpr (by omega)
    have e4 : ((s[0].toNat : Int) == 4) = false := beq_eq_false_iff_ne.mpr (by omega)
    have e5 : ((s[0].toNat : Int) == 5) = false := beq_eq_false_iff_ne.mpr (by omega)
    have ew : wrap64 (s[0].toNat : Int) = s[0].toNat := IntWalk.wrap64_in _ ⟨by omega, by omega⟩
    clear h hg
    go_enter Tryz.func249, Tryz.ntmps249
    go_wp2
    go_region
    all_goals go_wp2
    exact bodyPost_ret (v := .tuple #[.agg #[.int .i64 s[0].toNat, .int .i64 0, .string em], .string (s.extract 1 s.size), .bool false]) (by simp [results, Tryz.results249, go_sem]) rfl ⟨⟨_, _, _, _, rfl⟩, by (repeat (first | (with_reducible exact Below.refl _ _) | (with_reducible assumption) | (with_reducible apply below_drewN) | (with_reducible apply Below.drew) | ((with_reducible refine Below.setCell ?_ ?_ _); rotate_left; focus (first | (simp; done) | (simp; omega) | omega)) | ((with_reducible refine Below.alloc ?_ ?_ _); rotate_left; focus (first | (simp; done) | (simp; omega) | omega))))⟩

end Go.Proofs.YtpfbepbmiillbaaGreatDoor
