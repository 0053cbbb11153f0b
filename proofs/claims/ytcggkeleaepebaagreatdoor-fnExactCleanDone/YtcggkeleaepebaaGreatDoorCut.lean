/- What the program's cutting functions answer, for every text. -/
import Derived.Test.YtcggkeleaepebaaGreatDoorNameOK
import Derived.Test.YtcggkeleaepebaaGreatDoorMath
import Derived.Deep.QuietTactic
import Derived.BigQuiet
namespace Go.Proofs.YtcggkeleaepebaaGreatDoor
open Go.RowKit
set_option linter.unusedVariables false

set_option maxHeartbeats 400000 in
theorem cutNumber_short (s : ByteArray) (wd : Nat) (w : World) (hs : s.size ≤ maxLen) (hw : wd ≤ 8) (h : s.size < wd) :
    Calls Tryz.prog 203 #[.string s, .int .i64 wd] w fun e w' => e = .returned (.tuple #[.int .i64 0, .string em, .bool false]) ∧ w' = w := by
  unfold maxLen at hs
  go_enter Tryz.func203, Tryz.ntmps203
  go_wp2
  go_ret3
  exact ⟨rfl, rfl⟩

set_option maxHeartbeats 400000 in
theorem cutNumber_ok (s : ByteArray) (wd : Nat) (w : World) (hs : s.size ≤ maxLen) (hw : 1 ≤ wd) (hw8 : wd < 8) (h : wd ≤ s.size) :
    Calls Tryz.prog 203 #[.string s, .int .i64 wd] w fun e w' => e = .returned (.tuple #[.int .i64 (beT s wd), .string (s.extract wd s.size), .bool true]) ∧ ∃ q, w' = w.drewN q := by
  unfold maxLen at hs
  have e8 : ((wd : Int) == 8) = false := beq_eq_false_iff_ne.mpr (by omega)
  have e9 : decide ((s.size : Int) < (wd : Int)) = false := by simp; omega
  go_enter Tryz.func203, Tryz.ntmps203
  go_wp2
  go_loop [4, 22] (fun n i => ∃ k : Nat, k ≤ wd ∧ i = .int .i64 k ∧ n = .int .i64 (beT s k)) (fun _ i => wd - (intOf i).toNat)
  case atStart => exact ⟨0, Nat.zero_le _, rfl, rfl⟩
  case round =>
    obtain ⟨k, hk, rfl, rfl⟩ := hrel
    by_cases hlt : k < wd
    · have hlt2 : k < s.size := by omega
      have hb := beT_bound s k (by omega)
      have hb2 : 256 ^ k ≤ 256 ^ 6 := Nat.pow_le_pow_right (by omega) (by omega)
      have hb3 : beT s k < 281474976710656 := by omega
      clear hb hb2
      have HS : Hid (beT s (k + 1) = beT s k * 256 + s[k].toNat) := beT_step s k hlt2
      go_wp2
      go_round
      case rel => exact ⟨k + 1, by omega, by go_num, by rw [or_byte _ _ (by omega) (UInt8.toNat_lt _), HS.out]⟩
      case measure => simp [intOf]; omega
    · obtain rfl : k = wd := by omega
      have hw1 : (k : Int) ≤ (s.size : Int) := by omega
      go_wp2
      go_quiet (fail)
      go_wp2
      go_ret3
      exact ⟨rfl, _, rfl⟩

set_option maxHeartbeats 400000 in
theorem cutNumber_neg (s : ByteArray) (w : World) (hs : s.size ≤ maxLen) (h : 8 ≤ s.size) (hh : 127 < hd s) :
    Calls Tryz.prog 203 #[.string s, .int .i64 8] w fun e w' => e = .returned (.tuple #[.int .i64 0, .string em, .bool false]) ∧ w' = w := by
  unfold maxLen at hs
  have e9 : decide ((s.size : Int) < 8) = false := by simp; omega
  have hp : 0 < s.size := by omega
  have h0 : 127 < s[0].toNat := by have := head_get s hp; omega
  clear hh
  have e10 : (127 : Int) < (s[0].toNat : Int) := by omega
  go_enter Tryz.func203, Tryz.ntmps203
  go_wp2
  go_ret3
  exact ⟨rfl, rfl⟩

set_option maxHeartbeats 400000 in
theorem cutNumber_ok8 (s : ByteArray) (w : World) (hs : s.size ≤ maxLen) (h : 8 ≤ s.size) (hh : hd s ≤ 127) :
    Calls Tryz.prog 203 #[.string s, .int .i64 8] w fun e w' => e = .returned (.tuple #[.int .i64 (beT s 8), .string (s.extract 8 s.size), .bool true]) ∧ ∃ q, w' = w.drewN q := by
  unfold maxLen at hs
  have hp : 0 < s.size := by omega
  have h0 : s[0].toNat ≤ 127 := by have := head_get s hp; omega
  clear hh
  have e9 : decide ((s.size : Int) < 8) = false := by simp; omega
  have e10 : decide ((127 : Int) < (s[0].toNat : Int)) = false := by simp; omega
  go_enter Tryz.func203, Tryz.ntmps203
  go_wp2
  go_loop [4, 22] (fun n i => ∃ k : Nat, k ≤ 8 ∧ i = .int .i64 k ∧ n = .int .i64 (beT s k)) (fun _ i => 8 - (intOf i).toNat)
  case atStart => exact ⟨0, Nat.zero_le _, rfl, rfl⟩
  case round =>
    obtain ⟨k, hk, rfl, rfl⟩ := hrel
    by_cases hlt : k < 8
    · have hlt2 : k < s.size := by omega
      have hb3 : beT s k < 36028797018963968 := by
        by_cases hk0 : k = 0
        · subst hk0; rw [beT_zero]; omega
        · have hb := beT_half s k (by omega) hp (by omega) h0
          have hb2 : 256 ^ k ≤ 256 ^ 7 := Nat.pow_le_pow_right (by omega) (by omega)
          omega
      have HS : Hid (beT s (k + 1) = beT s k * 256 + s[k].toNat) := beT_step s k hlt2
      go_wp2
      go_round
      case rel => exact ⟨k + 1, by omega, by go_num, by rw [or_byte _ _ (by omega) (UInt8.toNat_lt _), HS.out]⟩
      case measure => simp [intOf]; omega
    · obtain rfl : k = 8 := by omega
      go_wp2
      go_quiet (fail)
      go_wp2
      go_ret3
      exact ⟨rfl, _, rfl⟩

set_option maxHeartbeats 400000 in
theorem cutText_none (s : ByteArray) (wd : Nat) (w : World) (hs : s.size ≤ maxLen) (hw : 1 ≤ wd) (hw8 : wd ≤ 2) (h : cutT s wd = none) :
    Calls Tryz.prog 184 #[.string s, .int .i64 wd] w fun e w' => e = .returned (.tuple #[.string em, .string em, .bool false]) ∧ ∃ q, w' = w.drewN q := by
  unfold cutT at h
  by_cases h1 : s.size < wd
  · go_enter Tryz.func184, Tryz.ntmps184
    go_wp2_with (go_at_call 203; refine (cutNumber_short s wd _ hs (by omega) h1).mono ?_; rintro e w' ⟨rfl, rfl⟩)
    go_ret3
    exact ⟨rfl, 0, rfl⟩
  · rw [if_neg h1] at h
    by_cases h2 : s.size < wd + beT s wd
    · clear h
      have h3 : (s.extract wd s.size).size = s.size - wd := by simp
      go_enter Tryz.func184, Tryz.ntmps184
      go_wp2_with (go_at_call 203; refine (cutNumber_ok s wd _ hs hw (by omega) (by omega)).mono ?_; rintro e w' ⟨rfl, q, rfl⟩)
      go_ret3
      exact ⟨rfl, _, rfl⟩
    · rw [if_neg h2] at h; cases h

set_option maxHeartbeats 400000 in
theorem cutText_some (s a b : ByteArray) (wd : Nat) (w : World) (hs : s.size ≤ maxLen) (hw : 1 ≤ wd) (hw8 : wd ≤ 2) (h : cutT s wd = some (a, b)) :
    Calls Tryz.prog 184 #[.string s, .int .i64 wd] w fun e w' => e = .returned (.tuple #[.string a, .string b, .bool true]) ∧ ∃ q, w' = w.drewN q := by
  unfold cutT at h
  by_cases h1 : s.size < wd
  · rw [if_pos h1] at h; cases h
  · rw [if_neg h1] at h
    by_cases h2 : s.size < wd + beT s wd
    · rw [if_pos h2] at h; cases h
    · rw [if_neg h2] at h
      injection h with h; injection h with ha hb
      have ea : (s.extract wd s.size).extract 0 (beT s wd) = a := by
        rw [← ha, ByteArray.extract_extract]; congr 1; omega
      have eb : (s.extract wd s.size).extract (beT s wd) (s.size - wd) = b := by
        rw [← hb, ByteArray.extract_extract]; congr 1; omega
      have h3 : (s.extract wd s.size).size = s.size - wd := by simp
      have e3 : decide (((s.size - wd : Nat) : Int) < (beT s wd : Int)) = false := by simp; omega
      have HA : Hid _ := ea
      have HB : Hid _ := eb
      clear ha hb ea eb
      go_enter Tryz.func184, Tryz.ntmps184
      go_wp2_with (go_at_call 203; refine (cutNumber_ok s wd _ hs hw (by omega) (by omega)).mono ?_; rintro e w' ⟨rfl, q, rfl⟩)
      go_quiet (fail)
      go_wp2
      go_ret3
      refine ⟨?_, _, World.drewN_drewN _ _ _⟩
      rw [← HA.out, ← HB.out]; rfl


theorem ne_of (s : ByteArray) (h : 0 < s.size) : s.toList.isEmpty = false := by
  rw [ByteArray.toList_eq]
  cases hl : s.data.toList with
  | nil => have := toList_length s; rw [hl] at this; simp at this; omega
  | cons c r => rfl
theorem empty_of (s : ByteArray) (h : s.size = 0) : s = em := by
  apply ByteArray.ext; apply Array.ext'; apply List.eq_nil_of_length_eq_zero
  rw [toList_length]; exact h

theorem setCell_drewN (w : World) (n : Nat) (a : Addr) (v : Value) : (w.drewN n).setCell a v = (w.setCell a v).drewN n := by
  induction n with
  | zero => rfl
  | succ n ih => rw [← World.drew_drewN, World.setCell_drew, ih, World.drew_drewN]

theorem isSome_setCell (w : World) (a b : Addr) (v : Value) : ((w.setCell a v).cell? b).isSome = (w.cell? b).isSome := by
  by_cases hab : a = b
  · subst hab
    simp only [World.setCell, World.cell?, Array.getElem?_modify, if_true]
    cases hh : w.heap[a.block]? with
    | none => simp
    | some x =>
      cases x <;> simp
      split
      · rfl
      · rename_i c _ _ _
        by_cases hlt : a.off < c.size
        · rw [Array.getElem?_eq_getElem (by simpa using hlt), Array.getElem?_eq_getElem hlt]; rfl
        · rw [Array.getElem?_eq_none (by simp; omega), Array.getElem?_eq_none (by omega)]
  · rw [World.cell?_setCell_other _ _ _ _ hab]

end Go.Proofs.YtcggkeleaepebaaGreatDoor
