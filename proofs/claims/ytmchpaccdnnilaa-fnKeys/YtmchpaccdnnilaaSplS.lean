/- What the specification's looking for the ends of keys answers, for every text. -/
import Derived.Test.YtmchpaccdnnilaaSplM
namespace Go.Proofs.Ytmchpaccdnnilaa.Tr
open Go.RowKit
set_option linter.unusedVariables false

theorem byte_is {b : UInt8} (c : UInt8) (h : b = c) : ((b.toNat : Int) == (c.toNat : Int)) = true := by rw [h]; simp
theorem byte_not {b : UInt8} (c : UInt8) (h : b ≠ c) : ((b.toNat : Int) == (c.toNat : Int)) = false := beq_eq_false_iff_ne.mpr (fun e => h (UInt8.toNat_inj.mp (by omega)))
theorem byte_is2 {b : UInt8} (c : UInt8) (h : b = c) : ((b.toNat : Int) != (c.toNat : Int)) = false := by rw [bne, byte_is c h]; rfl
theorem byte_not2 {b : UInt8} (c : UInt8) (h : b ≠ c) : ((b.toNat : Int) != (c.toNat : Int)) = true := by rw [bne, byte_not c h]; rfl

theorem stepK_plain (L : ByteArray → Nat) (s : ByteArray) (i : Nat) (h : i < s.size) : stepK L false s i h = L (from_ s i) := rfl
theorem stepK_mark (L : ByteArray → Nat) (s : ByteArray) (i : Nat) (h : i < s.size) (h1 : s[i] ≠ 1) : stepK L true s i h = 0 := by
  unfold stepK; rw [if_pos rfl, if_neg h1]
theorem stepK_name (L : ByteArray → Nat) (s : ByteArray) (i : Nat) (h : i < s.size) (h1 : txt0 (from_ s (i + 1)) = 0) : stepK L true s i h = 0 := by
  unfold stepK; rw [if_pos rfl]; simp only [h1, if_true]; split
  · rfl
  · rfl
theorem stepK_value (L : ByteArray → Nat) (s : ByteArray) (i k : Nat) (h : i < s.size) (hk : k = txt0 (from_ s (i + 1))) (h1 : L (from_ s (i + 1 + k)) = 0) : stepK L true s i h = 0 := by
  subst hk
  unfold stepK; rw [if_pos rfl]; simp only [h1, if_true]; split
  · split
    · rfl
    · rfl
  · rfl
theorem stepK_all (L : ByteArray → Nat) (s : ByteArray) (i k q : Nat) (h : i < s.size) (h1 : s[i] = 1) (hk : k = txt0 (from_ s (i + 1))) (hk0 : k ≠ 0) (hq : q = L (from_ s (i + 1 + k))) (hq0 : q ≠ 0) : stepK L true s i h = 1 + k + q := by
  subst hq; subst hk
  unfold stepK; rw [if_pos rfl, if_pos h1, if_neg hk0, if_neg hq0]

theorem lenK_zero (n : Nat) (s : ByteArray) (h : s.size = 0) : lenK n s = 0 := by have := lenK_le n s; omega

end Go.Proofs.Ytmchpaccdnnilaa.Tr
