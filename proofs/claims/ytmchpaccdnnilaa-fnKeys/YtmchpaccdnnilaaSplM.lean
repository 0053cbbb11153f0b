/- Pure: where the keys at the beginning of a text end. -/
import Derived.Test.YtmchpaccdnnilaaTrB
namespace Go.Proofs.Ytmchpaccdnnilaa.Tr
open Go.RowKit
set_option linter.unusedVariables false

/-- How long a text's key is from a place on, with its end; 0 without one. -/
def txtF (s : ByteArray) (i : Nat) : Nat := if h : i + 1 < s.size then (if s[i] = 0 ∧ s[i + 1] = 0 then i + 2 else txtF s (i + 1)) else 0
  termination_by s.size - i
theorem txtF_end (s : ByteArray) (i : Nat) (h : ¬ i + 1 < s.size) : txtF s i = 0 := by rw [txtF, dif_neg h]
theorem txtF_hit (s : ByteArray) (i : Nat) (h : i + 1 < s.size) (h0 : s[i] = 0) (h1 : s[i + 1] = 0) : txtF s i = i + 2 := by rw [txtF, dif_pos h, if_pos ⟨h0, h1⟩]
theorem txtF_miss (s : ByteArray) (i : Nat) (h : i + 1 < s.size) (h0 : ¬ (s[i] = 0 ∧ s[i + 1] = 0)) : txtF s i = txtF s (i + 1) := by rw [txtF, dif_pos h, if_neg h0]
theorem txtF_one (s : ByteArray) (i : Nat) (h : i < s.size) (h0 : s[i] ≠ 0) : txtF s i = txtF s (i + 1) := by
  by_cases h1 : i + 1 < s.size
  · exact txtF_miss s i h1 (fun e => h0 e.1)
  · rw [txtF_end s i h1, txtF_end s (i + 1) (by omega)]
theorem txtF_two (s : ByteArray) (i : Nat) (h : i + 1 < s.size) (h1 : s[i + 1] ≠ 0) : txtF s i = txtF s (i + 2) := by
  rw [txtF_miss s i h (fun e => h1 e.2)]
  exact txtF_one s (i + 1) h h1
theorem txtF_le (s : ByteArray) : ∀ (n i : Nat), s.size - i ≤ n → txtF s i ≤ s.size
  | 0, i, hn => by rw [txtF_end s i (by omega)]; omega
  | n + 1, i, hn => by
    by_cases h : i + 1 < s.size
    · by_cases h0 : s[i] = 0 ∧ s[i + 1] = 0
      · rw [txtF_hit s i h h0.1 h0.2]; omega
      · rw [txtF_miss s i h h0]; exact txtF_le s n (i + 1) (by omega)
    · rw [txtF_end s i h]; omega
/-- How long the escaped text at the beginning is. -/
def txt0 (s : ByteArray) : Nat := txtF s 0
theorem txt0_le (s : ByteArray) : txt0 s ≤ s.size := txtF_le s s.size 0 (by omega)

/-- What stands from a place on. -/
def from_ (s : ByteArray) (i : Nat) : ByteArray := s.extract i s.size
theorem from_size (s : ByteArray) (i : Nat) : (from_ s i).size = s.size - i := by unfold from_; simp

/-- How long one field or item is, its name ahead of it; 0 if there is none. -/
def stepK (L : ByteArray → Nat) (named : Bool) (s : ByteArray) (i : Nat) (h : i < s.size) : Nat :=
  if named then (if s[i] = 1 then (if txt0 (from_ s (i + 1)) = 0 then 0 else if L (from_ s (i + 1 + txt0 (from_ s (i + 1)))) = 0 then 0 else 1 + txt0 (from_ s (i + 1)) + L (from_ s (i + 1 + txt0 (from_ s (i + 1))))) else 0)
  else L (from_ s i)
def manyK (L : ByteArray → Nat) (named : Bool) (s : ByteArray) (i : Nat) : Nat :=
  if h : i < s.size then (if s[i] = 0 then i + 1 else if hk : stepK L named s i h = 0 then 0 else manyK L named s (i + stepK L named s i h)) else 0
  termination_by s.size - i
def lenK : Nat → ByteArray → Nat
  | 0, _ => 0
  | f + 1, s => if h : 0 < s.size then
      (if s[0] = 1 then 1 else if s[0] = 2 then (if 2 ≤ s.size then 2 else 0) else if s[0] = 3 then (if 9 ≤ s.size then 9 else 0)
      else if s[0] = 4 then (if txt0 (from_ s 1) = 0 then 0 else 1 + txt0 (from_ s 1))
      else if s[0] = 5 then manyK (lenK f) false s 1 else if s[0] = 6 then manyK (lenK f) true s 1 else 0) else 0
theorem lenK_pos (f : Nat) (s : ByteArray) (h : 0 < s.size) : lenK (f + 1) s = (if s[0] = 1 then 1 else if s[0] = 2 then (if 2 ≤ s.size then 2 else 0) else if s[0] = 3 then (if 9 ≤ s.size then 9 else 0)
      else if s[0] = 4 then (if txt0 (from_ s 1) = 0 then 0 else 1 + txt0 (from_ s 1))
      else if s[0] = 5 then manyK (lenK f) false s 1 else if s[0] = 6 then manyK (lenK f) true s 1 else 0) := by rw [lenK, dif_pos h]

theorem manyK_end (L : ByteArray → Nat) (named : Bool) (s : ByteArray) (i : Nat) (h : ¬ i < s.size) : manyK L named s i = 0 := by rw [manyK, dif_neg h]
theorem manyK_zero (L : ByteArray → Nat) (named : Bool) (s : ByteArray) (i : Nat) (h : i < s.size) (h0 : s[i] = 0) : manyK L named s i = i + 1 := by rw [manyK, dif_pos h, if_pos h0]
theorem manyK_bad (L : ByteArray → Nat) (named : Bool) (s : ByteArray) (i : Nat) (h : i < s.size) (h0 : s[i] ≠ 0) (hk : stepK L named s i h = 0) : manyK L named s i = 0 := by rw [manyK, dif_pos h, if_neg h0, dif_pos hk]
theorem manyK_step (L : ByteArray → Nat) (named : Bool) (s : ByteArray) (i : Nat) (h : i < s.size) (h0 : s[i] ≠ 0) (hk : stepK L named s i h ≠ 0) : manyK L named s i = manyK L named s (i + stepK L named s i h) := by rw [manyK, dif_pos h, if_neg h0, dif_neg hk]

theorem stepK_le (L : ByteArray → Nat) (hL : ∀ s, L s ≤ s.size) (named : Bool) (s : ByteArray) (i : Nat) (h : i < s.size) : i + stepK L named s i h ≤ s.size := by
  unfold stepK
  have h1 := txt0_le (from_ s (i + 1))
  have h2 := hL (from_ s (i + 1 + txt0 (from_ s (i + 1))))
  have h3 := hL (from_ s i)
  rw [from_size] at h1 h2 h3
  split
  · split
    · split
      · omega
      · split <;> omega
    · omega
  · omega
theorem manyK_le (L : ByteArray → Nat) (hL : ∀ s, L s ≤ s.size) (named : Bool) (s : ByteArray) : ∀ (n i : Nat), s.size - i ≤ n → manyK L named s i ≤ s.size
  | 0, i, hn => by rw [manyK_end L named s i (by omega)]; omega
  | n + 1, i, hn => by
    by_cases h : i < s.size
    · by_cases h0 : s[i] = 0
      · rw [manyK_zero L named s i h h0]; omega
      · by_cases hk : stepK L named s i h = 0
        · rw [manyK_bad L named s i h h0 hk]; omega
        · rw [manyK_step L named s i h h0 hk]; exact manyK_le L hL named s n _ (by omega)
    · rw [manyK_end L named s i h]; omega
theorem lenK_le : ∀ (f : Nat) (s : ByteArray), lenK f s ≤ s.size
  | 0, s => by unfold lenK; omega
  | f + 1, s => by
    unfold lenK
    have ht := txt0_le (from_ s 1)
    rw [from_size] at ht
    have h5 := manyK_le (lenK f) (lenK_le f) false s s.size 1 (by omega)
    have h6 := manyK_le (lenK f) (lenK_le f) true s s.size 1 (by omega)
    by_cases h : 0 < s.size
    · rw [dif_pos h]; repeat' split
      all_goals omega
    · rw [dif_neg h]; omega

/-- The first keys of a text, and what stands behind them. -/
def splitK (f : Nat) : Nat → ByteArray → Option (List ByteArray × ByteArray)
  | 0, s => some ([], s)
  | n + 1, s => if lenK f s = 0 then none else (splitK f n (from_ s (lenK f s))).map fun r => (s.extract 0 (lenK f s) :: r.1, r.2)
def splB (s : ByteArray) (n : Nat) : Option (List ByteArray) :=
  (splitK s.size n s).bind fun r => if r.2.size = 0 then some r.1 else none

end Go.Proofs.Ytmchpaccdnnilaa.Tr
