/- What the two functions that ask whether a text is a name answer, for every text. -/
import Derived.Test.YtcggkeleaepebaaGreatDoorNames
namespace Go.Proofs.YtcggkeleaepebaaGreatDoor
open Go.RowKit

def ldAll (l : List UInt8) : Bool := l.all fun c => ldB c.toNat
def nameL : List UInt8 → Bool
  | [] => false
  | c :: r => decide (r.length < 40) && letB c.toNat && ldAll r
def nameB (s : ByteArray) : Bool := nameL s.data.toList

theorem take_snoc (s : ByteArray) (k : Nat) (h : k < s.size) : s.data.toList.take (k + 1) = s.data.toList.take k ++ [s[k]] := by
  rw [List.take_succ_eq_append_getElem (by simpa using h)]; rfl
theorem ldAll_snoc (s : ByteArray) (k : Nat) (h : k < s.size) (hd : ldAll (s.data.toList.take k) = true) :
    ldAll (s.data.toList.take (k + 1)) = ldB s[k].toNat := by
  rw [take_snoc s k h]; unfold ldAll at *; rw [List.all_append, hd]; simp
theorem ldAll_bad (s : ByteArray) (k : Nat) (h : k < s.size) (hd : ldB s[k].toNat = false) : ldAll s.data.toList = false := by
  unfold ldAll; rw [List.all_eq_false]
  exact ⟨s[k], by have : s[k] = s.data.toList[k]'(by simpa using h) := rfl
                  rw [this]; exact List.getElem_mem _, by rw [hd]; simp⟩
theorem cons_of (s : ByteArray) (h : 0 < s.size) : ∃ r, s.data.toList = s[0] :: r ∧ r.length + 1 = s.size := by
  have e := take_snoc s 0 h
  refine ⟨s.data.toList.drop 1, ?_, ?_⟩
  · conv => lhs; rw [← List.take_append_drop 1 s.data.toList, e]
    simp
  · simp; have : s.data.size = s.size := rfl
    omega
theorem nameB_eq (s : ByteArray) (h : 0 < s.size) : nameB s = (decide (s.size ≤ 40) && letB s[0].toNat && ldAll s.data.toList) := by
  obtain ⟨r, e, hl⟩ := cons_of s h
  unfold nameB; rw [e]; unfold nameL ldAll
  have : decide (r.length < 40) = decide (s.size ≤ 40) := by rw [Bool.eq_iff_iff]; simp; omega
  show (decide (r.length < 40) && letB s[0].toNat && r.all fun c => ldB c.toNat) = _
  rw [this, List.all_cons]
  cases hh : letB s[0].toNat
  · simp
  · simp [ldB, hh]
theorem nameB_empty (s : ByteArray) (h : s.size = 0) : nameB s = false := by
  unfold nameB
  have : s.data.toList = [] := by apply List.eq_nil_of_length_eq_zero; simpa using h
  rw [this]; rfl

set_option maxHeartbeats 400000 in
theorem nameOK_any (s : ByteArray) (w : World) (hs : s.size ≤ maxLen) :
    Calls Tryz.prog 134 #[.string s] w fun e w' => e = .returned (.bool (nameB s)) ∧ w' = w := by
  unfold maxLen at hs
  by_cases h0 : s.size = 0
  · rw [nameB_empty s h0]
    go_enter Tryz.func134, Tryz.ntmps134
    go_wp2
    go_ret
    exact ⟨rfl, rfl⟩
  by_cases h40 : 40 < s.size
  · rw [nameB_eq s (by omega), show decide (s.size ≤ 40) = false by simp; omega]
    go_enter Tryz.func134, Tryz.ntmps134
    go_wp2
    go_ret
    exact ⟨by simp, rfl⟩
  have hpos : 0 < s.size := by omega
  have e0 : ((s.size : Int) == 0) = false := beq_eq_false_iff_ne.mpr (by omega)
  have e1 : decide ((40 : Int) < (s.size : Int)) = false := by simp; omega
  cases hd : digB s[0].toNat
  · have e : nameB s = ldAll s.data.toList := by
      rw [nameB_eq s hpos, show decide (s.size ≤ 40) = true by simp; omega]
      cases hl : letB s[0].toNat
      · have : ldB s[0].toNat = false := by unfold ldB; simp [hl, hd]
        rw [ldAll_bad s 0 hpos this]; rfl
      · simp
    rw [e]; clear e
    go_enter Tryz.func134, Tryz.ntmps134
    go_wp2_with (go_at_call 152; refine (isDigit_any _ _).mono ?_; rintro e w' ⟨rfl, rfl⟩)
    go_loop [19] (fun i => ∃ k : Nat, k ≤ s.size ∧ i = .int .i64 k ∧ ldAll (s.data.toList.take k) = true) (fun i => s.size - (intOf i).toNat)
    case atStart => exact ⟨0, Nat.zero_le _, rfl, rfl⟩
    case round =>
      obtain ⟨k, hk, rfl, hr⟩ := hrel
      have HR : Hid (ldAll (s.data.toList.take k) = true) := hr
      clear hr
      by_cases hlt : k < s.size
      · cases hl : letB s[k].toNat
        · cases hg : digB s[k].toNat
          · have B : Hid (ldAll s.data.toList = false) := ldAll_bad s k hlt (by unfold ldB; rw [hl, hg]; rfl)
            go_wp2_with (first | (go_at_call 152; refine (isDigit_any _ _).mono ?_; rintro e w' ⟨rfl, rfl⟩) | (go_at_call 153; refine (isLetter_any _ _).mono ?_; rintro e w' ⟨rfl, rfl⟩))
            go_ret
            exact ⟨ret_bool B.out.symm, rfl⟩
          · have B : Hid (ldAll (s.data.toList.take (k + 1)) = true) := by
              show _ = _
              rw [ldAll_snoc s k hlt HR.out]; unfold ldB; rw [hl, hg]; rfl
            go_wp2_with (first | (go_at_call 152; refine (isDigit_any _ _).mono ?_; rintro e w' ⟨rfl, rfl⟩) | (go_at_call 153; refine (isLetter_any _ _).mono ?_; rintro e w' ⟨rfl, rfl⟩))
            go_round
            case rel => exact ⟨k + 1, by omega, by go_num, B.out⟩
            case measure => simp [intOf]; omega
        · have B : Hid (ldAll (s.data.toList.take (k + 1)) = true) := by
            show _ = _
            rw [ldAll_snoc s k hlt HR.out]; unfold ldB; rw [hl]; rfl
          go_wp2_with (first | (go_at_call 152; refine (isDigit_any _ _).mono ?_; rintro e w' ⟨rfl, rfl⟩) | (go_at_call 153; refine (isLetter_any _ _).mono ?_; rintro e w' ⟨rfl, rfl⟩))
          go_round
          case rel => exact ⟨k + 1, by omega, by go_num, B.out⟩
          case measure => simp [intOf]; omega
      · go_wp2
        go_ret
        have := HR.out
        rw [List.take_of_length_le (by simp; have : s.data.size = s.size := rfl; omega)] at this
        exact ⟨ret_bool this.symm, rfl⟩
  · have e : nameB s = false := by
      rw [nameB_eq s hpos]
      have : letB s[0].toNat = false := by
        cases hl : letB s[0].toNat
        · rfl
        · have := dig_of_let _ hl; rw [this] at hd; cases hd
      rw [this]; simp
    rw [e]; clear e
    go_enter Tryz.func134, Tryz.ntmps134
    go_wp2_with (go_at_call 152; refine (isDigit_any _ _).mono ?_; rintro e w' ⟨rfl, rfl⟩)
    go_ret
    exact ⟨rfl, rfl⟩


set_option maxHeartbeats 400000 in
theorem l00Word_any (s : ByteArray) (w : World) (hs : s.size ≤ maxLen) :
    Calls Tryz.prog 128 #[.string s] w fun e w' => e = .returned (.bool (nameB s)) ∧ w' = w := by
  unfold maxLen at hs
  by_cases h0 : s.size = 0
  · rw [nameB_empty s h0]
    go_enter Tryz.func128, Tryz.ntmps128
    go_wp2
    go_ret
    exact ⟨rfl, rfl⟩
  by_cases h40 : 40 < s.size
  · rw [nameB_eq s (by omega), show decide (s.size ≤ 40) = false by simp; omega]
    go_enter Tryz.func128, Tryz.ntmps128
    go_wp2
    go_ret
    exact ⟨by simp, rfl⟩
  have hpos : 0 < s.size := by omega
  have e0 : decide ((s.size : Int) < 1) = false := by simp; omega
  have e1 : decide ((40 : Int) < (s.size : Int)) = false := by simp; omega
  cases hd : letB s[0].toNat
  · have e : nameB s = false := by
      rw [nameB_eq s hpos, hd]; simp
    rw [e]; clear e
    go_enter Tryz.func128, Tryz.ntmps128
    go_wp2_with (first | (go_at_call 145; refine (l00Digit_any _ _).mono ?_; rintro e w' ⟨rfl, rfl⟩) | (go_at_call 144; refine (l00Letter_any _ _).mono ?_; rintro e w' ⟨rfl, rfl⟩))
    go_ret
    exact ⟨rfl, rfl⟩
  · have e : nameB s = ldAll s.data.toList := by
      rw [nameB_eq s hpos, show decide (s.size ≤ 40) = true by simp; omega, hd]; rfl
    have H1 : Hid (ldAll (s.data.toList.take 1) = true) := by
      show _ = _
      rw [ldAll_snoc s 0 hpos rfl]; unfold ldB; rw [hd]; rfl
    rw [e]; clear e
    go_enter Tryz.func128, Tryz.ntmps128
    go_wp2_with (first | (go_at_call 145; refine (l00Digit_any _ _).mono ?_; rintro e w' ⟨rfl, rfl⟩) | (go_at_call 144; refine (l00Letter_any _ _).mono ?_; rintro e w' ⟨rfl, rfl⟩))
    go_loop [3] (fun i => ∃ k : Nat, 1 ≤ k ∧ k ≤ s.size ∧ i = .int .i64 k ∧ ldAll (s.data.toList.take k) = true) (fun i => s.size - (intOf i).toNat)
    case atStart => exact ⟨1, by omega, by omega, rfl, H1.out⟩
    case round =>
      obtain ⟨k, hk1, hk, rfl, hr⟩ := hrel
      have HR : Hid (ldAll (s.data.toList.take k) = true) := hr
      clear hr
      by_cases hlt : k < s.size
      · cases hl : letB s[k].toNat
        · cases hg : digB s[k].toNat
          · have B : Hid (ldAll s.data.toList = false) := ldAll_bad s k hlt (by unfold ldB; rw [hl, hg]; rfl)
            go_wp2_with (first | (go_at_call 145; refine (l00Digit_any _ _).mono ?_; rintro e w' ⟨rfl, rfl⟩) | (go_at_call 144; refine (l00Letter_any _ _).mono ?_; rintro e w' ⟨rfl, rfl⟩))
            go_ret
            exact ⟨ret_bool B.out.symm, rfl⟩
          · have B : Hid (ldAll (s.data.toList.take (k + 1)) = true) := by
              show _ = _
              rw [ldAll_snoc s k hlt HR.out]; unfold ldB; rw [hl, hg]; rfl
            go_wp2_with (first | (go_at_call 145; refine (l00Digit_any _ _).mono ?_; rintro e w' ⟨rfl, rfl⟩) | (go_at_call 144; refine (l00Letter_any _ _).mono ?_; rintro e w' ⟨rfl, rfl⟩))
            go_round
            case rel => exact ⟨k + 1, by omega, by omega, by go_num, B.out⟩
            case measure => simp [intOf]; omega
        · have B : Hid (ldAll (s.data.toList.take (k + 1)) = true) := by
            show _ = _
            rw [ldAll_snoc s k hlt HR.out]; unfold ldB; rw [hl]; rfl
          go_wp2_with (first | (go_at_call 145; refine (l00Digit_any _ _).mono ?_; rintro e w' ⟨rfl, rfl⟩) | (go_at_call 144; refine (l00Letter_any _ _).mono ?_; rintro e w' ⟨rfl, rfl⟩))
          go_round
          case rel => exact ⟨k + 1, by omega, by omega, by go_num, B.out⟩
          case measure => simp [intOf]; omega
      · go_wp2
        go_ret
        have := HR.out
        rw [List.take_of_length_le (by simp; have : s.data.size = s.size := rfl; omega)] at this
        exact ⟨ret_bool this.symm, rfl⟩

set_option maxHeartbeats 400000 in
theorem specNameOK_any (s : ByteArray) (w : World) (hs : s.size ≤ maxLen) :
    Calls Tryz.prog 112 #[.string s] w fun e w' => e = .returned (.bool (nameB s)) ∧ w' = w := by
  go_enter Tryz.func112, Tryz.ntmps112
  go_wp2_with (go_at_call 128; refine (l00Word_any _ _ hs).mono ?_; rintro e w' ⟨rfl, rfl⟩)
  go_ret
  exact ⟨rfl, rfl⟩

end Go.Proofs.YtcggkeleaepebaaGreatDoor
