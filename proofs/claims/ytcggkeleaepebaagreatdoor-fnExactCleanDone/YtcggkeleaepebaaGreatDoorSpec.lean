/- What the specification's cutting functions answer, for every text. -/
import Derived.Test.YtcggkeleaepebaaGreatDoorCut
import Derived.Test.YtcggkeleaepebaaGreatDoorFits
namespace Go.Proofs.YtcggkeleaepebaaGreatDoor
open Go.RowKit
set_option linter.unusedVariables false

set_option maxHeartbeats 400000 in
theorem l01Of_any (s : ByteArray) (w : World) (hs : s.size ≤ maxLen) (hb : ∀ k, k < s.size → beT s k < 36028797018963968) :
    Calls Tryz.prog 179 #[.string s] w fun e w' => e = .returned (.int .i64 (beT s s.size)) ∧ w' = w := by
  unfold maxLen at hs
  have HB : Hid _ := hb
  clear hb
  go_enter Tryz.func179, Tryz.ntmps179
  go_wp2
  go_loop [3, 4] (fun n i => ∃ k : Nat, k ≤ s.size ∧ i = .int .i64 k ∧ n = .int .i64 (beT s k)) (fun _ i => s.size - (intOf i).toNat)
  case atStart => exact ⟨0, Nat.zero_le _, rfl, rfl⟩
  case round =>
    obtain ⟨k, hk, rfl, rfl⟩ := hrel
    by_cases hlt : k < s.size
    · have hb := HB.out k hlt
      have HS : Hid (beT s (k + 1) = beT s k * 256 + s[k].toNat) := beT_step s k hlt
      have hc := s[k].toNat_lt
      go_wp2
      go_round
      case rel => exact ⟨k + 1, by omega, by go_num, by rw [HS.out]; go_num⟩
      case measure => simp [intOf]; omega
    · obtain rfl : k = s.size := by omega
      go_wp2
      go_ret
      exact ⟨rfl, rfl⟩

set_option maxHeartbeats 400000 in
theorem l01In_any (n a b : Int) (w : World) :
    Calls Tryz.prog 41 #[.int .i64 n, .int .i64 a, .int .i64 b] w fun e w' => e = .returned (.bool (decide (a ≤ n ∧ n ≤ b))) ∧ w' = w := by
  by_cases h1 : a ≤ n
  all_goals
    go_enter Tryz.func41, Tryz.ntmps41
    go_wp2
    go_ret
    exact ⟨ret_bool (by first | (rw [decide_eq_decide]; omega) | (rw [Bool.eq_iff_iff]; simp; omega)), rfl⟩

set_option maxHeartbeats 400000 in
theorem l01Name_any (s : ByteArray) (w : World) (hs : s.size ≤ maxLen) :
    Calls Tryz.prog 94 #[.string s] w fun e w' => e = .returned (.bool (shortB s)) ∧ w' = w := by
  unfold shortB
  cases hn : nameB s
  · go_enter Tryz.func94, Tryz.ntmps94
    go_wp2_with (go_at_call 112; refine (specNameOK_any _ _ hs).mono ?_; rintro e w' ⟨rfl, rfl⟩)
    go_ret
    exact ⟨ret_bool (by simp), rfl⟩
  · go_enter Tryz.func94, Tryz.ntmps94
    go_wp2_with (go_at_call 112; refine (specNameOK_any _ _ hs).mono ?_; rintro e w' ⟨rfl, rfl⟩)
    go_ret
    exact ⟨ret_bool (by rw [Bool.eq_iff_iff]; simp; omega), rfl⟩

theorem be_ext (s : ByteArray) (a n : Nat) (h : a + n ≤ s.size) : beT (s.extract a (a + n)) (s.extract a (a + n)).size = beT (s.extract a s.size) n := by
  unfold beT
  have h1 : (s.extract a (a + n)).size = n := by simp; omega
  rw [h1, extract_list, extract_list]
  congr 1
  rw [List.take_take, List.take_take]; congr 1; omega
theorem be_ext_le (s : ByteArray) (a n k : Nat) (h : a + n ≤ s.size) (hk : k ≤ n) : beT (s.extract a (a + n)) k = beT (s.extract a s.size) k := by
  unfold beT
  rw [extract_list, extract_list, List.take_take, List.take_take]; congr 2; omega

theorem l01Of_cut (s : ByteArray) (n : Nat) (w : World) (hs : s.size ≤ maxLen) (h : 1 + n ≤ s.size) (hb : ∀ k, k < n → beT (s.extract 1 s.size) k < 36028797018963968) :
    Calls Tryz.prog 179 #[.string (s.extract 1 (1 + n))] w fun e w' => e = .returned (.int .i64 (beT (s.extract 1 s.size) n)) ∧ w' = w := by
  have h1 : (s.extract 1 (1 + n)).size = n := by simp; omega
  have := l01Of_any (s.extract 1 (1 + n)) w (by omega) (by
    intro k hk
    rw [be_ext_le s 1 n k h (by omega)]; exact hb k (by omega))
  rw [be_ext s 1 n h] at this
  exact this
theorem l01Of_3 (s : ByteArray) (w : World) (hs : s.size ≤ maxLen) (h : 3 ≤ s.size) :
    Calls Tryz.prog 179 #[.string (s.extract 1 3)] w fun e w' => e = .returned (.int .i64 (beT (s.extract 1 s.size) 2)) ∧ w' = w :=
  l01Of_cut s 2 w hs (by omega) (by
    intro k hk
    have := beT_bound (s.extract 1 s.size) k (by simp; omega)
    have h2 : 256 ^ k ≤ 256 ^ 1 := Nat.pow_le_pow_right (by omega) (by omega)
    omega)
theorem l01Of_9 (s : ByteArray) (w : World) (hs : s.size ≤ maxLen) (h : 9 ≤ s.size) (hh : hd (s.extract 1 s.size) ≤ 127) :
    Calls Tryz.prog 179 #[.string (s.extract 1 9)] w fun e w' => e = .returned (.int .i64 (beT (s.extract 1 s.size) 8)) ∧ w' = w :=
  l01Of_cut s 8 w hs (by omega) (by
    intro k hk
    have hz : (s.extract 1 s.size).size = s.size - 1 := by simp
    by_cases hk0 : k = 0
    · subst hk0; rw [beT_zero]; omega
    · have h1 : 0 < (s.extract 1 s.size).size := by omega
      have := beT_half (s.extract 1 s.size) k (by omega) h1 (by omega) (by have := head_get _ h1; omega)
      have h2 : 256 ^ k ≤ 256 ^ 7 := Nat.pow_le_pow_right (by omega) (by omega)
      omega)
theorem beT_one (s : ByteArray) (h : 2 ≤ s.size) : beT (s.extract 1 s.size) 1 = s[1].toNat := by
  have h1 : 0 < (s.extract 1 s.size).size := by simp; omega
  have := beT_step (s.extract 1 s.size) 0 h1
  rw [this, beT_zero]; simp [ByteArray.getElem_extract]
theorem hd_one (s : ByteArray) (h : 2 ≤ s.size) : hd (s.extract 1 s.size) = s[1].toNat := by
  have h1 : 0 < (s.extract 1 s.size).size := by simp; omega
  rw [head_get _ h1]; simp [ByteArray.getElem_extract]

end Go.Proofs.YtcggkeleaepebaaGreatDoor
