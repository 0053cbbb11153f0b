/- What the specification's cutting functions answer, for every text. -/
import Derived.Test.YtbplmgmajmomcaaCut
import Derived.Test.YtbplmgmajmomcaaFits
namespace Go.Proofs.Ytbplmgmajmomcaa
open Go.RowKit
set_option linter.unusedVariables false

set_option maxHeartbeats 400000 in
theorem l01In_any (n a b : Int) (w : World) :
    Calls Try.prog 13 #[.int .i64 n, .int .i64 a, .int .i64 b] w fun e w' => e = .returned (.bool (decide (a ≤ n ∧ n ≤ b))) ∧ w' = w := by
  by_cases h1 : a ≤ n
  all_goals
    go_enter Try.func13, Try.ntmps13
    go_wp2
    go_ret
    exact ⟨ret_bool (by first | (rw [decide_eq_decide]; omega) | (rw [Bool.eq_iff_iff]; simp; omega)), rfl⟩

set_option maxHeartbeats 400000 in
theorem l01Name_any (s : ByteArray) (w : World) (hs : s.size ≤ maxLen) :
    Calls Try.prog 14 #[.string s] w fun e w' => e = .returned (.bool (shortB s)) ∧ w' = w := by
  unfold shortB
  cases hn : nameB s
  · go_enter Try.func14, Try.ntmps14
    go_wp2_with (go_at_call 28; refine (specNameOK_any _ _ hs).mono ?_; rintro e w' ⟨rfl, rfl⟩)
    go_ret
    exact ⟨ret_bool (by simp), rfl⟩
  · go_enter Try.func14, Try.ntmps14
    go_wp2_with (go_at_call 28; refine (specNameOK_any _ _ hs).mono ?_; rintro e w' ⟨rfl, rfl⟩)
    go_ret
    exact ⟨ret_bool (by rw [Bool.eq_iff_iff]; simp; omega), rfl⟩

theorem be_ext (s : ByteArray) (a n : Nat) (h : a + n ≤ s.size) : beT (s.extract a (a + n)) (s.extract a (a + n)).size = beT (s.extract a s.size) n := by
  unfold beT
  have h1 : (s.extract a (a + n)).size = n := by simp; omega
  rw [h1, extract_list, extract_list]
  congr 1
  rw [List.take_take, List.take_take]; congr 1; omega
theorem be_ext_le (s : ByteArray) (a n k : Nat) (h : a + n ≤ s.size) (hk : k ≤ n) : beT (s.extract a (a + n)) k = beT (s.extract a s.size) k := by
  unfold beT
  rw [extract_list, extract_list, List.take_take, List.take_take]; congr 2; omega

theorem beT_one (s : ByteArray) (h : 2 ≤ s.size) : beT (s.extract 1 s.size) 1 = s[1].toNat := by
  have h1 : 0 < (s.extract 1 s.size).size := by simp; omega
  have := beT_step (s.extract 1 s.size) 0 h1
  rw [this, beT_zero]; simp [ByteArray.getElem_extract]
theorem hd_one (s : ByteArray) (h : 2 ≤ s.size) : hd (s.extract 1 s.size) = s[1].toNat := by
  have h1 : 0 < (s.extract 1 s.size).size := by simp; omega
  rw [head_get _ h1]; simp [ByteArray.getElem_extract]

end Go.Proofs.Ytbplmgmajmomcaa
