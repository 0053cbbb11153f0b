/- What the two functions that ask whether a text is a name answer, for every text. -/
import Derived.Test.YtpfbepbmiillbaaGreatDoorTrMQ
import Derived.WalkKit
import Derived.Deep.QuietTactic
import Derived.BigQuiet
namespace Go.Proofs.YtpfbepbmiillbaaGreatDoor
open Go.RowKit

def ldAll (l : List UInt8) : Bool := l.all fun c => ldB c.toNat
def nameL : List UInt8 → Bool
  | [] => false
  | c :: r => decide (r.length < 40) && letB c.toNat && ldAll r
def nameB (s : ByteArray) : Bool := nameL s.data.toList

theorem take_snoc (s : ByteArray) (k : Nat) (h : k < s.size) : s.data.toList.take (k + 1) = s.data.toList.take k ++ [s[k]] := by
  rw [List.take_succ_eq_append_getElem (by simpa using h)]; rfl
theorem ldAll_snoc (s : ByteArray) (k : Nat) (h : k < s.size) (hd : ldAll (s.data.toList.take k) = true) :
    ldAll (s.data.toList.take (k + 1)) = ldB s[k].toNat := by
  rw [take_snoc s k h]; unfold ldAll at *; rw [List.all_append, hd]; simp
theorem ldAll_bad (s : ByteArray) (k : Nat) (h : k < s.size) (hd : ldB s[k].toNat = false) : ldAll s.data.toList = false := by
  unfold ldAll; rw [List.all_eq_false]
  exact ⟨s[k], by have : s[k] = s.data.toList[k]'(by simpa using h) := rfl
                  rw [this]; exact List.getElem_mem _, by rw [hd]; simp⟩
theorem cons_of (s : ByteArray) (h : 0 < s.size) : ∃ r, s.data.toList = s[0] :: r ∧ r.length + 1 = s.size := by
  have e := take_snoc s 0 h
  refine ⟨s.data.toList.drop 1, ?_, ?_⟩
  · conv => lhs; rw [← List.take_append_drop 1 s.data.toList, e]
    simp
  · simp; have : s.data.size = s.size := rfl
    omega
theorem nameB_eq (s : ByteArray) (h : 0 < s.size) : nameB s = (decide (s.size ≤ 40) && letB s[0].toNat && ldAll s.data.toList) := by
  obtain ⟨r, e, hl⟩ := cons_of s h
  unfold nameB; rw [e]; unfold nameL ldAll
  have : decide (r.length < 40) = decide (s.size ≤ 40) := by rw [Bool.eq_iff_iff]; simp; omega
  show (decide (r.length < 40) && letB s[0].toNat && r.all fun c => ldB c.toNat) = _
  rw [this, List.all_cons]
  cases hh : letB s[0].toNat
  · simp
  · simp [ldB, hh]
theorem nameB_empty (s : ByteArray) (h : s.size = 0) : nameB s = false := by
  unfold nameB
  have : s.data.toList = [] := by apply List.eq_nil_of_length_eq_zero; simpa using h
  rw [this]; rfl

set_option maxHeartbeats 400000 in
theorem nameOK_any (s : ByteArray) (w : World) (hs : s.size ≤ maxLen) :
    Calls Tryz.prog 142 #[.string s] w fun e w' => e = .returned (.bool (nameB s)) ∧ w' = w := by
  unfold maxLen at hs
  by_cases h0 : s.size = 0
  · rw [nameB_empty s h0]
    go_enter Tryz.func142, Tryz.ntmps142
    go_wp2
    go_ret
    exact ⟨rfl, rfl⟩
  by_cases h40 : 40 < s.size
  · rw [nameB_eq s (by omega), show decide (s.size ≤ 40) = false by simp; omega]
    go_enter Tryz.func142, Tryz.ntmps142
    go_wp2
    go_ret
    exact ⟨by simp, rfl⟩
  have hpos : 0 < s.size := by omega
  have e0 : ((s.size : Int) == 0) = false := beq_eq_false_iff_ne.mpr (by omega)
  have e1 : decide ((40 : Int) < (s.size : Int)) = false := by simp; omega
  cases hd : digB s[0].toNat
  · have e : nameB s = ldAll s.data.toList := by
      rw [nameB_eq s hpos, show decide (s.size ≤ 40) = true by simp; omega]
      cases hl : letB s[0].toNat
      · have : ldB s[0].toNat = false := by unfold ldB; simp [hl, hd]
        rw [ldAll_bad s 0 hpos this]; rfl
      · simp
    rw [e]; clear e
    go_enter Tryz.func142, Tryz.ntmps142
    go_wp2_with (go_at_call 173; refine (isDigit_any _ _).mono ?_; rintro e w' ⟨rfl, rfl⟩)
    go_loop [19] (fun i => ∃ k : Nat, k ≤ s.size ∧ i = .int .i64 k ∧ ldAll (s.data.toList.take k) = true) (fun i => s.size - (intOf i).toNat)
    case atStart => exact ⟨0, Nat.zero_le _, rfl, rfl⟩
    case round =>
      obtain ⟨k, hk, rfl, hr⟩ := hrel
      have HR : Hid (ldAll (s.data.toList.take k) = true) := hr
      clear hr
      by_cases hlt : k < s.size
      · cases hl : letB s[k].toNat
        · cases hg : digB s[k].toNat
          · have B : Hid (ldAll s.data.toList = false) := ldAll_bad s k hlt (by unfold ldB; rw [hl, hg]; rfl)
            go_wp2_with (first | (go_at_call 173; refine (isDigit_any _ _).mono ?_; rintro e w' ⟨rfl, rfl⟩) | (go_at_call 174; refine (isLetter_any _ _).mono ?_; rintro e w' ⟨rfl, rfl⟩))
            go_ret
            exact ⟨ret_bool B.out.symm, rfl⟩
          · have B : Hid (ldAll (s.data.toList.take (k + 1)) = true) := by
              show _ = _
              rw [ldAll_snoc s k hlt HR.out]; unfold ldB; rw [hl, hg]; rfl
            go_wp2_with (first | (go_at_call 173; refine (isDigit_any _ _).mono ?_; rintro e w' ⟨rfl, rfl⟩) | (go_at_call 174; refine (isLetter_any _ _).mono ?_; rintro e w' ⟨rfl, rfl⟩))
            go_round
            case rel => exact ⟨k + 1, by omega, by go_num, B.out⟩
            case measure => simp [intOf]; omega
        · have B : Hid (ldAll (s.data.toList.take (k + 1)) = true) := by
            show _ = _
            rw [ldAll_snoc s k hlt HR.out]; unfold ldB; rw [hl]; rfl
          go_wp2_with (first | (go_at_call 173; refine (isDigit_any _ _).mono ?_; rintro e w' ⟨rfl, rfl⟩) | (go_at_call 174; refine (isLetter_any _ _).mono ?_; rintro e w' ⟨rfl, rfl⟩))
          go_round
          case rel => exact ⟨k + 1, by omega, by go_num, B.out⟩
          case measure => simp [intOf]; omega
      · go_wp2
        go_ret
        have := HR.out
        rw [List.take_of_length_le (by simp; have : s.data.size = s.size := rfl; omega)] at this
        exact ⟨ret_bool this.symm, rfl⟩
  · have e : nameB s = false := by
      rw [nameB_eq s hpos]
      have : letB s[0].toNat = false := by
        cases hl : letB s[0].toNat
        · rfl
        · have := dig_of_let _ hl; rw [this] at hd; cases hd
      rw [this]; simp
    rw [e]; clear e
    go_enter Tryz.func142, Tryz.ntmps142
    go_wp2_with (go_at_call 173; refine (isDigit_any _ _).mono ?_; rintro e w' ⟨rfl, rfl⟩)
    go_ret
    exact ⟨rfl, rfl⟩


set_option maxHeartbeats 400000 in
theorem l00Word_any (s : ByteArray) (w : World) (hs : s.size ≤ maxLen) :
    Calls Tryz.prog 165 #[.string s] w fun e w' => e = .returned (.bool (nameB s)) ∧ w' = w := by
  unfold maxLen at hs
  by_cases h0 : s.size = 0
  · rw [nameB_empty s h0]
    go_enter Tryz.func165, Tryz.ntmps165
    go_wp2
    go_ret
    exact ⟨rfl, rfl⟩
  by_cases h40 : 40 < s.size
  · rw [nameB_eq s (by omega), show decide (s.size ≤ 40) = false by simp; omega]
    go_enter Tryz.func165, Tryz.ntmps165
    go_wp2
    go_ret
    exact ⟨by simp, rfl⟩
  have hpos : 0 < s.size := by omega
  have e0 : decide ((s.size : Int) < 1) = false := by simp; omega
  have e1 : decide ((40 : Int) < (s.size : Int)) = false := by simp; omega
  cases hd : letB s[0].toNat
  · have e : nameB s = false := by
      rw [nameB_eq s hpos, hd]; simp
    rw [e]; clear e
    go_enter Tryz.func165, Tryz.ntmps165
    go_wp2_with (first | (go_at_call 197; refine (l00Digit_any _ _).mono ?_; rintro e w' ⟨rfl, rfl⟩) | (go_at_call 196; refine (l00Letter_any _ _).mono ?_; rintro e w' ⟨rfl, rfl⟩))
    go_ret
    exact ⟨rfl, rfl⟩
  · have e : nameB s = ldAll s.data.toList := by
      rw [nameB_eq s hpos, show decide (s.size ≤ 40) = true by simp; omega, hd]; rfl
    have H1 : Hid (ldAll (s.data.toList.take 1) = true) := by
      show _ = _
      rw [ldAll_snoc s 0 hpos rfl]; unfold ldB; rw [hd]; rfl
    rw [e]; clear e
    go_enter Tryz.func165, Tryz.ntmps165
    go_wp2_with (first | (go_at_call 197; refine (l00Digit_any _ _).mono ?_; rintro e w' ⟨rfl, rfl⟩) | (go_at_call 196; refine (l00Letter_any _ _).mono ?_; rintro e w' ⟨rfl, rfl⟩))
    go_loop [3] (fun i => ∃ k : Nat, 1 ≤ k ∧ k ≤ s.size ∧ i = .int .i64 k ∧ ldAll (s.data.toList.take k) = true) (fun i => s.size - (intOf i).toNat)
    case atStart => exact ⟨1, by omega, by omega, rfl, H1.out⟩
    case round =>
      obtain ⟨k, hk1, hk, rfl, hr⟩ := hrel
      have HR : Hid (ldAll (s.data.toList.take k) = true) := hr
      clear hr
      by_cases hlt : k < s.size
      · cases hl : letB s[k].toNat
        · cases hg : digB s[k].toNat
          · have B : Hid (ldAll s.data.toList = false) := ldAll_bad s k hlt (by unfold ldB; rw [hl, hg]; rfl)
            go_wp2_with (first | (go_at_call 197; refine (l00Digit_any _ _).mono ?_; rintro e w' ⟨rfl, rfl⟩) | (go_at_call 196; refine (l00Letter_any _ _).mono ?_; rintro e w' ⟨rfl, rfl⟩))
            go_ret
            exact ⟨ret_bool B.out.symm, rfl⟩
          · have B : Hid (ldAll (s.data.toList.take (k + 1)) = true) := by
              show _ = _
              rw [ldAll_snoc s k hlt HR.out]; unfold ldB; rw [hl, hg]; rfl
            go_wp2_with (first | (go_at_call 197; refine (l00Digit_any _ _).mono ?_; rintro e w' ⟨rfl, rfl⟩) | (go_at_call 196; refine (l00Letter_any _ _).mono ?_; rintro e w' ⟨rfl, rfl⟩))
            go_round
            case rel => exact ⟨k + 1, by omega, by omega, by go_num, B.out⟩
            case measure => simp [intOf]; omega
        · have B : Hid (ldAll (s.data.toList.take (k + 1)) = true) := by
            show _ = _
            rw [ldAll_snoc s k hlt HR.out]; unfold ldB; rw [hl]; rfl
          go_wp2_with (first | (go_at_call 197; refine (l00Digit_any _ _).mono ?_; rintro e w' ⟨rfl, rfl⟩) | (go_at_call 196; refine (l00Letter_any _ _).mono ?_; rintro e w' ⟨rfl, rfl⟩))
          go_round
          case rel => exact ⟨k + 1, by omega, by omega, by go_num, B.out⟩
          case measure => simp [intOf]; omega
      · go_wp2
        go_ret
        have := HR.out
        rw [List.take_of_length_le (by simp; have : s.data.size = s.size := rfl; omega)] at this
        exact ⟨ret_bool this.symm, rfl⟩

set_option maxHeartbeats 400000 in
theorem specNameOK_any (s : ByteArray) (w : World) (hs : s.size ≤ maxLen) :
    Calls Tryz.prog 131 #[.string s] w fun e w' => e = .returned (.bool (nameB s)) ∧ w' = w := by
  go_enter Tryz.func131, Tryz.ntmps131
  go_wp2_with (go_at_call 165; refine (l00Word_any _ _ hs).mono ?_; rintro e w' ⟨rfl, rfl⟩)
  go_ret
  exact ⟨rfl, rfl⟩

end Go.Proofs.YtpfbepbmiillbaaGreatDoor

/- Plain facts on bytes, numbers in bytes, and how a text of bytes is cut into values and fields; nothing of the program is used here. -/
namespace Go.Proofs.YtpfbepbmiillbaaGreatDoor
open Go.RowKit

/-- The number that bytes are, the higher ones first. -/
def beL (l : List UInt8) : Nat := l.foldl (fun n c => n * 256 + c.toNat) 0
def be (s : ByteArray) : Nat := beL s.data.toList
theorem beL_snoc (l : List UInt8) (c : UInt8) : beL (l ++ [c]) = beL l * 256 + c.toNat := by
  unfold beL; rw [List.foldl_append]; rfl
theorem beL_lt (l : List UInt8) : beL l < 256 ^ l.length := by
  suffices h : ∀ r : List UInt8, beL r.reverse < 256 ^ r.length by
    have := h l.reverse; simpa using this
  intro r
  induction r with
  | nil => simp [beL]
  | cons c r ih =>
    rw [List.reverse_cons, beL_snoc, List.length_cons, Nat.pow_succ]
    have := c.toNat_lt
    omega
theorem foldl_be (r : List UInt8) : ∀ n : Nat, r.foldl (fun n c => n * 256 + c.toNat) n = n * 256 ^ r.length + beL r := by
  induction r with
  | nil => intro n; simp [beL]
  | cons c r ih =>
    intro n
    rw [List.foldl_cons, ih]
    have e : beL (c :: r) = c.toNat * 256 ^ r.length + beL r := by
      unfold beL; rw [List.foldl_cons, ih]; simp [beL]
    rw [e, List.length_cons, Nat.pow_succ, Nat.add_mul, Nat.mul_assoc, Nat.mul_comm 256, Nat.add_assoc]
theorem beL_cons (c : UInt8) (r : List UInt8) : beL (c :: r) = c.toNat * 256 ^ r.length + beL r := by
  unfold beL; rw [List.foldl_cons, foldl_be]; simp [beL]
theorem beL_small (c : UInt8) (r : List UInt8) (hc : c.toNat ≤ 127) : beL (c :: r) < 128 * 256 ^ r.length := by
  rw [beL_cons]
  have h1 := beL_lt r
  have h2 : c.toNat * 256 ^ r.length ≤ 127 * 256 ^ r.length := Nat.mul_le_mul_right _ hc
  omega

theorem toList_length (s : ByteArray) : s.data.toList.length = s.size := by simp
theorem takeS (s : ByteArray) (k : Nat) (h : k < s.size) : s.data.toList.take (k + 1) = s.data.toList.take k ++ [s[k]] := by
  rw [List.take_succ_eq_append_getElem (by simpa using h)]; rfl
theorem extract_list (s : ByteArray) (a b : Nat) : (s.extract a b).data.toList = (s.data.toList.drop a).take (b - a) := by
  rw [ByteArray.data_extract, Array.toList_extract]
theorem be_take (s : ByteArray) (k : Nat) : be (s.extract 0 k) = beL (s.data.toList.take k) := by
  unfold be; rw [extract_list]; simp
theorem beT_succ (s : ByteArray) (k : Nat) (h : k < s.size) : beL (s.data.toList.take (k + 1)) = beL (s.data.toList.take k) * 256 + s[k].toNat := by
  rw [takeS s k h, beL_snoc]
theorem beT_lt (s : ByteArray) (k : Nat) (h : k ≤ s.size) : beL (s.data.toList.take k) < 256 ^ k := by
  have := beL_lt (s.data.toList.take k)
  rwa [List.length_take, toList_length, Nat.min_eq_left h] at this
theorem beT_small (s : ByteArray) (k : Nat) (h : k ≤ s.size) (h0 : 0 < s.size) (h1 : 1 ≤ k) (hc : s[0].toNat ≤ 127) : beL (s.data.toList.take k) * 2 < 256 ^ k := by
  obtain ⟨j, rfl⟩ : ∃ j, k = j + 1 := ⟨k - 1, by omega⟩
  have e := takeS s 0 h0
  have e2 : s.data.toList = s[0] :: s.data.toList.drop 1 := by
    conv => lhs; rw [← List.take_append_drop 1 s.data.toList, e]
    simp
  rw [e2, List.take_succ_cons]
  have := beL_small s[0] (List.take j (List.drop 1 s.data.toList)) hc
  rw [List.length_take, List.length_drop, toList_length, Nat.min_eq_left (by omega)] at this
  rw [Nat.pow_succ]; omega

theorem ext_size (s : ByteArray) (a : Nat) : (s.extract a s.size).size = s.size - a := by simp
theorem ext_all (s : ByteArray) : s.extract 0 s.size = s := ByteArray.extract_zero_size

theorem or_byte (n c : Nat) (hn : n < 36028797018963968) (hc : c < 256) : bits .or .i64 ((n : Int) * 256) (wrap64 (c : Int)) = ((n * 256 + c : Nat) : Int) := by
  rw [IntWalk.wrap64_in _ ⟨by omega, by omega⟩]
  have e : ((n : Int) * 256) = ((n * 256 : Nat) : Int) := by omega
  rw [e]
  have ho : n * 256 ||| c = n * 256 + c := by
    have := Nat.shiftLeft_add_eq_or_of_lt (b := c) (i := 8) (by omega) n
    rw [Nat.shiftLeft_eq] at this
    exact this.symm
  have h1 : (BitVec.ofInt 64 ((n * 256 : Nat) : Int)).toNat = n * 256 := by
    rw [BitVec.ofInt_natCast, BitVec.toNat_ofNat]; exact Nat.mod_eq_of_lt (by omega)
  have h2 : (BitVec.ofInt 64 (c : Int)).toNat = c := by
    rw [BitVec.ofInt_natCast, BitVec.toNat_ofNat]; exact Nat.mod_eq_of_lt (by omega)
  show IntKind.i64.wrap ((BitVec.ofInt 64 ((n * 256 : Nat) : Int) ||| BitVec.ofInt 64 (c : Int)).toNat : Int) = _
  rw [BitVec.toNat_or, h1, h2, ho]
  have h3 : wrap64 ((n * 256 + c : Nat) : Int) = ((n * 256 + c : Nat) : Int) := IntWalk.wrap64_in _ ⟨by omega, by omega⟩
  have h4 : ∀ z : Int, IntKind.i64.wrap z = wrap64 z := fun z => by
    unfold wrap64; simp only [IntKind.wrap, IntKind.bits, IntKind.signed]; simp; split <;> omega
  rw [h4]; exact h3

/-- The number that the first k bytes are. -/
def beT (s : ByteArray) (k : Nat) : Nat := beL (s.data.toList.take k)
/-- The first byte (0 where there is none). -/
def hd (s : ByteArray) : Nat := (s.data.toList.headD 0).toNat
theorem beT_zero (s : ByteArray) : beT s 0 = 0 := rfl
theorem beT_step (s : ByteArray) (k : Nat) (h : k < s.size) : beT s (k + 1) = beT s k * 256 + s[k].toNat := beT_succ s k h
theorem beT_bound (s : ByteArray) (k : Nat) (h : k ≤ s.size) : beT s k < 256 ^ k := beT_lt s k h
theorem beT_half (s : ByteArray) (k : Nat) (h : k ≤ s.size) (h0 : 0 < s.size) (h1 : 1 ≤ k) (hc : s[0].toNat ≤ 127) : beT s k * 2 < 256 ^ k := beT_small s k h h0 h1 hc
/-- The empty text. -/
abbrev em : ByteArray := ⟨#[]⟩
/-- A value, its text as bytes. -/
structure Val where
  k : Int
  n : Int
  t : ByteArray
/-- A text whose length stands ahead of it in so many bytes, and what stands behind it. -/
def cutT (s : ByteArray) (wd : Nat) : Option (ByteArray × ByteArray) :=
  if s.size < wd then none
  else if s.size < wd + beT s wd then none
  else some (s.extract wd (wd + beT s wd), s.extract (wd + beT s wd) s.size)
def cutR (c : Nat) (r : ByteArray) : Option (Val × ByteArray) :=
  if c = 0 then some (⟨0, 0, em⟩, r)
  else if c = 1 then (if r.size < 1 then none else some (⟨1, beT r 1, em⟩, r.extract 1 r.size))
  else if c = 2 then (if r.size < 8 then none else if 127 < hd r then none
    else some (⟨2, (beT r 8 : Int) - 4611686018427387904, em⟩, r.extract 8 r.size))
  else if c = 3 ∨ c = 4 ∨ c = 5 then (cutT r 2).map fun p => (⟨c, 0, p.1⟩, p.2)
  else none
/-- The value at the beginning of a text, and what stands behind it. -/
def cutV (s : ByteArray) : Option (Val × ByteArray) :=
  if s.size = 0 then none else cutR (hd s) (s.extract 1 s.size)

theorem head_get (s : ByteArray) (h : 0 < s.size) : hd s = s[0].toNat := by
  unfold hd
  have e := takeS s 0 h
  have e2 : s.data.toList = s[0] :: s.data.toList.drop 1 := by
    conv => lhs; rw [← List.take_append_drop 1 s.data.toList, e]
    simp
  rw [e2]; rfl
theorem cutT_size {s a b : ByteArray} {wd : Nat} (h : cutT s wd = some (a, b)) : b.size + wd ≤ s.size ∧ a.size + wd ≤ s.size := by
  unfold cutT at h
  split at h
  · cases h
  · split at h
    · cases h
    · injection h with h; injection h with h1 h2; subst h1; subst h2
      simp; omega
theorem cutR_size {c : Nat} {r b : ByteArray} {v : Val} (h : cutR c r = some (v, b)) : b.size ≤ r.size ∧ v.t.size ≤ r.size := by
  unfold cutR at h
  split at h
  · injection h with h; injection h with h1 h2; subst h1; subst h2; exact ⟨Nat.le_refl _, Nat.zero_le _⟩
  · split at h
    · split at h
      · cases h
      · injection h with h; injection h with h1 h2; subst h1; subst h2; exact ⟨by simp, Nat.zero_le _⟩
    · split at h
      · split at h
        · cases h
        · split at h
          · cases h
          · injection h with h; injection h with h1 h2; subst h1; subst h2; exact ⟨by simp, Nat.zero_le _⟩
      · split at h
        · cases hc : cutT r 2 with
          | none => rw [hc] at h; cases h
          | some p => rw [hc] at h; injection h with h; injection h with h1 h2; subst h1; subst h2
                      have := cutT_size (a := p.1) (b := p.2) hc; exact ⟨by omega, by show p.1.size ≤ _; omega⟩
        · cases h
theorem cutV_size {s b : ByteArray} {v : Val} (h : cutV s = some (v, b)) : b.size < s.size ∧ v.t.size < s.size := by
  unfold cutV at h
  split at h
  · cases h
  · have := cutR_size h; simp at this; omega

end Go.Proofs.YtpfbepbmiillbaaGreatDoor

/- What the program's cutting functions answer, for every text. -/
namespace Go.Proofs.YtpfbepbmiillbaaGreatDoor
open Go.RowKit
set_option linter.unusedVariables false

set_option maxHeartbeats 400000 in
theorem cutNumber_short (s : ByteArray) (wd : Nat) (w : World) (hs : s.size ≤ maxLen) (hw : wd ≤ 8) (h : s.size < wd) :
    Calls Tryz.prog 257 #[.string s, .int .i64 wd] w fun e w' => e = .returned (.tuple #[.int .i64 0, .string em, .bool false]) ∧ w' = w := by
  unfold maxLen at hs
  go_enter Tryz.func257, Tryz.ntmps257
  go_wp2
  go_ret3
  exact ⟨rfl, rfl⟩

set_option maxHeartbeats 400000 in
theorem cutNumber_ok (s : ByteArray) (wd : Nat) (w : World) (hs : s.size ≤ maxLen) (hw : 1 ≤ wd) (hw8 : wd < 8) (h : wd ≤ s.size) :
    Calls Tryz.prog 257 #[.string s, .int .i64 wd] w fun e w' => e = .returned (.tuple #[.int .i64 (beT s wd), .string (s.extract wd s.size), .bool true]) ∧ ∃ q, w' = w.drewN q := by
  unfold maxLen at hs
  have e8 : ((wd : Int) == 8) = false := beq_eq_false_iff_ne.mpr (by omega)
  have e9 : decide ((s.size : Int) < (wd : Int)) = false := by simp; omega
  go_enter Tryz.func257, Tryz.ntmps257
  go_wp2
  go_loop [4, 22] (fun n i => ∃ k : Nat, k ≤ wd ∧ i = .int .i64 k ∧ n = .int .i64 (beT s k)) (fun _ i => wd - (intOf i).toNat)
  case atStart => exact ⟨0, Nat.zero_le _, rfl, rfl⟩
  case round =>
    obtain ⟨k, hk, rfl, rfl⟩ := hrel
    by_cases hlt : k < wd
    · have hlt2 : k < s.size := by omega
      have hb := beT_bound s k (by omega)
      have hb2 : 256 ^ k ≤ 256 ^ 6 := Nat.pow_le_pow_right (by omega) (by omega)
      have hb3 : beT s k < 281474976710656 := by omega
      clear hb hb2
      have HS : Hid (beT s (k + 1) = beT s k * 256 + s[k].toNat) := beT_step s k hlt2
      go_wp2
      go_round
      case rel => exact ⟨k + 1, by omega, by go_num, by rw [or_byte _ _ (by omega) (UInt8.toNat_lt _), HS.out]⟩
      case measure => simp [intOf]; omega
    · obtain rfl : k = wd := by omega
      have hw1 : (k : Int) ≤ (s.size : Int) := by omega
      go_wp2
      go_quiet (fail)
      go_wp2
      go_ret3
      exact ⟨rfl, _, rfl⟩

set_option maxHeartbeats 400000 in
theorem cutNumber_neg (s : ByteArray) (w : World) (hs : s.size ≤ maxLen) (h : 8 ≤ s.size) (hh : 127 < hd s) :
    Calls Tryz.prog 257 #[.string s, .int .i64 8] w fun e w' => e = .returned (.tuple #[.int .i64 0, .string em, .bool false]) ∧ w' = w := by
  unfold maxLen at hs
  have e9 : decide ((s.size : Int) < 8) = false := by simp; omega
  have hp : 0 < s.size := by omega
  have h0 : 127 < s[0].toNat := by have := head_get s hp; omega
  clear hh
  have e10 : (127 : Int) < (s[0].toNat : Int) := by omega
  go_enter Tryz.func257, Tryz.ntmps257
  go_wp2
  go_ret3
  exact ⟨rfl, rfl⟩

set_option maxHeartbeats 400000 in
theorem cutNumber_ok8 (s : ByteArray) (w : World) (hs : s.size ≤ maxLen) (h : 8 ≤ s.size) (hh : hd s ≤ 127) :
    Calls Tryz.prog 257 #[.string s, .int .i64 8] w fun e w' => e = .returned (.tuple #[.int .i64 (beT s 8), .string (s.extract 8 s.size), .bool true]) ∧ ∃ q, w' = w.drewN q := by
  unfold maxLen at hs
  have hp : 0 < s.size := by omega
  have h0 : s[0].toNat ≤ 127 := by have := head_get s hp; omega
  clear hh
  have e9 : decide ((s.size : Int) < 8) = false := by simp; omega
  have e10 : decide ((127 : Int) < (s[0].toNat : Int)) = false := by simp; omega
  go_enter Tryz.func257, Tryz.ntmps257
  go_wp2
  go_loop [4, 22] (fun n i => ∃ k : Nat, k ≤ 8 ∧ i = .int .i64 k ∧ n = .int .i64 (beT s k)) (fun _ i => 8 - (intOf i).toNat)
  case atStart => exact ⟨0, Nat.zero_le _, rfl, rfl⟩
  case round =>
    obtain ⟨k, hk, rfl, rfl⟩ := hrel
    by_cases hlt : k < 8
    · have hlt2 : k < s.size := by omega
      have hb3 : beT s k < 36028797018963968 := by
        by_cases hk0 : k = 0
        · subst hk0; rw [beT_zero]; omega
        · have hb := beT_half s k (by omega) hp (by omega) h0
          have hb2 : 256 ^ k ≤ 256 ^ 7 := Nat.pow_le_pow_right (by omega) (by omega)
          omega
      have HS : Hid (beT s (k + 1) = beT s k * 256 + s[k].toNat) := beT_step s k hlt2
      go_wp2
      go_round
      case rel => exact ⟨k + 1, by omega, by go_num, by rw [or_byte _ _ (by omega) (UInt8.toNat_lt _), HS.out]⟩
      case measure => simp [intOf]; omega
    · obtain rfl : k = 8 := by omega
      go_wp2
      go_quiet (fail)
      go_wp2
      go_ret3
      exact ⟨rfl, _, rfl⟩

set_option maxHeartbeats 400000 in
theorem cutText_none (s : ByteArray) (wd : Nat) (w : World) (hs : s.size ≤ maxLen) (hw : 1 ≤ wd) (hw8 : wd ≤ 2) (h : cutT s wd = none) :
    Calls Tryz.prog 248 #[.string s, .int .i64 wd] w fun e w' => e = .returned (.tuple #[.string em, .string em, .bool false]) ∧ ∃ q, w' = w.drewN q := by
  unfold cutT at h
  by_cases h1 : s.size < wd
  · go_enter Tryz.func248, Tryz.ntmps248
    go_wp2_with (go_at_call 257; refine (cutNumber_short s wd _ hs (by omega) h1).mono ?_; rintro e w' ⟨rfl, rfl⟩)
    go_ret3
    exact ⟨rfl, 0, rfl⟩
  · rw [if_neg h1] at h
    by_cases h2 : s.size < wd + beT s wd
    · clear h
      have h3 : (s.extract wd s.size).size = s.size - wd := by simp
      go_enter Tryz.func248, Tryz.ntmps248
      go_wp2_with (go_at_call 257; refine (cutNumber_ok s wd _ hs hw (by omega) (by omega)).mono ?_; rintro e w' ⟨rfl, q, rfl⟩)
      go_ret3
      exact ⟨rfl, _, rfl⟩
    · rw [if_neg h2] at h; cases h

set_option maxHeartbeats 400000 in
theorem cutText_some (s a b : ByteArray) (wd : Nat) (w : World) (hs : s.size ≤ maxLen) (hw : 1 ≤ wd) (hw8 : wd ≤ 2) (h : cutT s wd = some (a, b)) :
    Calls Tryz.prog 248 #[.string s, .int .i64 wd] w fun e w' => e = .returned (.tuple #[.string a, .string b, .bool true]) ∧ ∃ q, w' = w.drewN q := by
  unfold cutT at h
  by_cases h1 : s.size < wd
  · rw [if_pos h1] at h; cases h
  · rw [if_neg h1] at h
    by_cases h2 : s.size < wd + beT s wd
    · rw [if_pos h2] at h; cases h
    · rw [if_neg h2] at h
      injection h with h; injection h with ha hb
      have ea : (s.extract wd s.size).extract 0 (beT s wd) = a := by
        rw [← ha, ByteArray.extract_extract]; congr 1; omega
      have eb : (s.extract wd s.size).extract (beT s wd) (s.size - wd) = b := by
        rw [← hb, ByteArray.extract_extract]; congr 1; omega
      have h3 : (s.extract wd s.size).size = s.size - wd := by simp
      have e3 : decide (((s.size - wd : Nat) : Int) < (beT s wd : Int)) = false := by simp; omega
      have HA : Hid _ := ea
      have HB : Hid _ := eb
      clear ha hb ea eb
      go_enter Tryz.func248, Tryz.ntmps248
      go_wp2_with (go_at_call 257; refine (cutNumber_ok s wd _ hs hw (by omega) (by omega)).mono ?_; rintro e w' ⟨rfl, q, rfl⟩)
      go_quiet (fail)
      go_wp2
      go_ret3
      refine ⟨?_, _, World.drewN_drewN _ _ _⟩
      rw [← HA.out, ← HB.out]; rfl


theorem ne_of (s : ByteArray) (h : 0 < s.size) : s.toList.isEmpty = false := by
  rw [ByteArray.toList_eq]
  cases hl : s.data.toList with
  | nil => have := toList_length s; rw [hl] at this; simp at this; omega
  | cons c r => rfl
theorem empty_of (s : ByteArray) (h : s.size = 0) : s = em := by
  apply ByteArray.ext; apply Array.ext'; apply List.eq_nil_of_length_eq_zero
  rw [toList_length]; exact h

theorem setCell_drewN (w : World) (n : Nat) (a : Addr) (v : Value) : (w.drewN n).setCell a v = (w.setCell a v).drewN n := by
  induction n with
  | zero => rfl
  | succ n ih => rw [← World.drew_drewN, World.setCell_drew, ih, World.drew_drewN]

theorem isSome_setCell (w : World) (a b : Addr) (v : Value) : ((w.setCell a v).cell? b).isSome = (w.cell? b).isSome := by
  by_cases hab : a = b
  · subst hab
    simp only [World.setCell, World.cell?, Array.getElem?_modify, if_true]
    cases hh : w.heap[a.block]? with
    | none => simp
    | some x =>
      cases x <;> simp
      split
      · rfl
      · rename_i c _ _ _
        by_cases hlt : a.off < c.size
        · rw [Array.getElem?_eq_getElem (by simpa using hlt), Array.getElem?_eq_getElem hlt]; rfl
        · rw [Array.getElem?_eq_none (by simp; omega), Array.getElem?_eq_none (by omega)]
  · rw [World.cell?_setCell_other _ _ _ _ hab]

end Go.Proofs.YtpfbepbmiillbaaGreatDoor
