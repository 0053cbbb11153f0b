/- What the specification's cutting of one value answers, for every text. -/
import Derived.Test.YtcggkeleaepebaaGreatDoorNext0
namespace Go.Proofs.YtcggkeleaepebaaGreatDoor
open Go.RowKit
set_option linter.unusedVariables false

theorem l01Next_some (s r : ByteArray) (v : Val) (w : World) (hs : s.size ≤ maxLen) (h : cutV s = some (v, r)) :
    Calls Tryz.prog 164 #[.string s] w fun e w' => e = .returned (.tuple #[.agg #[.int .i64 v.k, .int .i64 v.n, .string v.t], .string r, .bool true]) ∧ Below w.heap.size w w' := by
  unfold cutV at h
  by_cases hz : s.size = 0
  · rw [if_pos hz] at h; cases h
  rw [if_neg hz] at h
  have hp : 0 < s.size := by omega
  rw [head_get s hp] at h
  unfold cutR at h
  have hx : (s.extract 1 s.size).size = s.size - 1 := by simp
  by_cases c0 : s[0].toNat = 0
  · rw [if_pos c0] at h; injection h with h; injection h with h1 h2; subst h1; subst h2
    exact l01Next_c0 s w hs hp c0
  rw [if_neg c0] at h
  by_cases c1 : s[0].toNat = 1
  · rw [if_pos c1] at h
    by_cases h8 : (s.extract 1 s.size).size < 1
    · rw [if_pos h8] at h; cases h
    rw [if_neg h8] at h
    injection h with h; injection h with h1 h2; subst h1; subst h2
    rw [minus_ext s 1 _ (by omega), hx]
    have := l01Next_c1 s w hs hp c1 (by omega)
    rw [show 1 + (s.size - 1) = s.size by omega]
    show Calls _ _ _ _ fun e w' => e = .returned (.tuple #[.agg #[.int .i64 1, .int .i64 (beT (s.extract 1 s.size) 1), .string em], _, _]) ∧ _
    rw [beT_one s (by omega)]
    exact this
  rw [if_neg c1] at h
  by_cases c2 : s[0].toNat = 2
  · rw [if_pos c2] at h
    by_cases h8 : (s.extract 1 s.size).size < 8
    · rw [if_pos h8] at h; cases h
    rw [if_neg h8] at h
    by_cases h9 : 127 < hd (s.extract 1 s.size)
    · rw [if_pos h9] at h; cases h
    rw [if_neg h9] at h
    injection h with h; injection h with h1 h2; subst h1; subst h2
    rw [minus_ext s 8 _ (by omega), hx, show 1 + (s.size - 1) = s.size by omega]
    exact l01Next_c2 s w hs hp c2 (by omega) (by omega)
  rw [if_neg c2] at h
  by_cases c3 : s[0].toNat = 3 ∨ s[0].toNat = 4 ∨ s[0].toNat = 5
  · rw [if_pos c3] at h
    unfold cutT at h
    by_cases h8 : (s.extract 1 s.size).size < 2
    · rw [if_pos h8] at h; cases h
    rw [if_neg h8] at h
    by_cases h9 : (s.extract 1 s.size).size < 2 + beT (s.extract 1 s.size) 2
    · rw [if_pos h9] at h; cases h
    rw [if_neg h9] at h
    injection h with h; injection h with h1 h2; subst h1; subst h2
    rw [minus_ext s _ (s.extract 1 s.size).size (by omega), hx, show 1 + (s.size - 1) = s.size by omega, show 1 + (2 + beT (s.extract 1 s.size) 2) = 3 + beT (s.extract 1 s.size) 2 by omega]
    show Calls _ _ _ _ fun e w' => e = .returned (.tuple #[.agg #[.int .i64 (s[0].toNat : Int), .int .i64 0, .string ((s.extract 1 s.size).extract 2 (2 + beT (s.extract 1 s.size) 2))], _, _]) ∧ _
    rw [minus_ext s 2 (2 + beT (s.extract 1 s.size) 2) (by omega), show 1 + (2 + beT (s.extract 1 s.size) 2) = 3 + beT (s.extract 1 s.size) 2 by omega]
    rcases c3 with c3 | c3 | c3 <;> rw [c3]
    · exact l01Next_c3 s w hs hp c3 (by omega) (by omega)
    · exact l01Next_c4 s w hs hp c3 (by omega) (by omega)
    · exact l01Next_c5 s w hs hp c3 (by omega) (by omega)
  rw [if_neg c3] at h; cases h

theorem l01Next_none (s : ByteArray) (w : World) (hs : s.size ≤ maxLen) (h : cutV s = none) :
    Calls Tryz.prog 164 #[.string s] w fun e w' => e = .returned (.tuple #[.agg #[.int .i64 0, .int .i64 0, .string em], .string em, .bool false]) ∧ Below w.heap.size w w' := by
  unfold cutV at h
  by_cases hz : s.size = 0
  · exact l01Next_e s w hs hz
  rw [if_neg hz] at h
  have hp : 0 < s.size := by omega
  rw [head_get s hp] at h
  unfold cutR at h
  have hx : (s.extract 1 s.size).size = s.size - 1 := by simp
  by_cases c0 : s[0].toNat = 0
  · rw [if_pos c0] at h; cases h
  rw [if_neg c0] at h
  by_cases c1 : s[0].toNat = 1
  · rw [if_pos c1] at h
    by_cases h8 : (s.extract 1 s.size).size < 1
    · exact l01Next_n1 s w hs hp c1 (by omega)
    rw [if_neg h8] at h; cases h
  rw [if_neg c1] at h
  by_cases c2 : s[0].toNat = 2
  · rw [if_pos c2] at h
    by_cases h8 : (s.extract 1 s.size).size < 8
    · exact l01Next_n2a s w hs hp c2 (by omega)
    rw [if_neg h8] at h
    by_cases h9 : 127 < hd (s.extract 1 s.size)
    · exact l01Next_n2b s w hs hp c2 (by omega) h9
    rw [if_neg h9] at h; cases h
  rw [if_neg c2] at h
  by_cases c3 : s[0].toNat = 3 ∨ s[0].toNat = 4 ∨ s[0].toNat = 5
  · rw [if_pos c3] at h
    unfold cutT at h
    by_cases h8 : (s.extract 1 s.size).size < 2
    · rcases c3 with c3 | c3 | c3
      · exact l01Next_n3a s w hs hp c3 (by omega)
      · exact l01Next_n4a s w hs hp c3 (by omega)
      · exact l01Next_n5a s w hs hp c3 (by omega)
    rw [if_neg h8] at h
    by_cases h9 : (s.extract 1 s.size).size < 2 + beT (s.extract 1 s.size) 2
    · rcases c3 with c3 | c3 | c3
      · exact l01Next_n3b s w hs hp c3 (by omega) (by omega)
      · exact l01Next_n4b s w hs hp c3 (by omega) (by omega)
      · exact l01Next_n5b s w hs hp c3 (by omega) (by omega)
    rw [if_neg h9] at h; cases h
  exact l01Next_o s w hs hp (by omega)

end Go.Proofs.YtcggkeleaepebaaGreatDoor
