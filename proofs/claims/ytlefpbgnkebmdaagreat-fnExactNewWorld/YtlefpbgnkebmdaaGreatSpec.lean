/- What the specification's cutting functions answer, for every text. -/
import Derived.Test.YtlefpbgnkebmdaaGreatCut
import Derived.Test.YtlefpbgnkebmdaaGreatFits
namespace Go.Proofs.YtlefpbgnkebmdaaGreat
open Go.RowKit
set_option linter.unusedVariables false

theorem be_ext (s : ByteArray) (a n : Nat) (h : a + n ≤ s.size) : beT (s.extract a (a + n)) (s.extract a (a + n)).size = beT (s.extract a s.size) n := by
  unfold beT
  have h1 : (s.extract a (a + n)).size = n := by simp; omega
  rw [h1, extract_list, extract_list]
  congr 1
  rw [List.take_take, List.take_take]; congr 1; omega
theorem be_ext_le (s : ByteArray) (a n k : Nat) (h : a + n ≤ s.size) (hk : k ≤ n) : beT (s.extract a (a + n)) k = beT (s.extract a s.size) k := by
  unfold beT
  rw [extract_list, extract_list, List.take_take, List.take_take]; congr 2; omega

theorem beT_one (s : ByteArray) (h : 2 ≤ s.size) : beT (s.extract 1 s.size) 1 = s[1].toNat := by
  have h1 : 0 < (s.extract 1 s.size).size := by simp; omega
  have := beT_step (s.extract 1 s.size) 0 h1
  rw [this, beT_zero]; simp [ByteArray.getElem_extract]
theorem hd_one (s : ByteArray) (h : 2 ≤ s.size) : hd (s.extract 1 s.size) = s[1].toNat := by
  have h1 : 0 < (s.extract 1 s.size).size := by simp; omega
  rw [head_get _ h1]; simp [ByteArray.getElem_extract]

end Go.Proofs.YtlefpbgnkebmdaaGreat
