/- What the specification's looking for the ends of keys answers, for every text. -/
import Derived.Test.YtnmpfooegnmknaaSplM
namespace Go.Proofs.Ytnmpfooegnmknaa.Tr
open Go.RowKit
set_option linter.unusedVariables false

theorem byte_is {b : UInt8} (c : UInt8) (h : b = c) : ((b.toNat : Int) == (c.toNat : Int)) = true := by rw [h]; simp
theorem byte_not {b : UInt8} (c : UInt8) (h : b ≠ c) : ((b.toNat : Int) == (c.toNat : Int)) = false := beq_eq_false_iff_ne.mpr (fun e => h (UInt8.toNat_inj.mp (by omega)))
theorem byte_is2 {b : UInt8} (c : UInt8) (h : b = c) : ((b.toNat : Int) != (c.toNat : Int)) = false := by rw [bne, byte_is c h]; rfl
theorem byte_not2 {b : UInt8} (c : UInt8) (h : b ≠ c) : ((b.toNat : Int) != (c.toNat : Int)) = true := by rw [bne, byte_not c h]; rfl

set_option maxHeartbeats 1000000 in
theorem l04Text_any (s : ByteArray) (w : World) (hs : s.size ≤ 65536) :
    Calls Try.prog 107 #[.string s] w fun e w' => e = .returned (.int .i64 (txt0 s)) ∧ w' = w := by
  unfold txt0
  go_enter Try.func107, Try.ntmps107
  go_wp2
  go_loop [3] (fun i => ∃ k : Nat, k ≤ s.size ∧ i = .int .i64 k ∧ txtF s 0 = txtF s k) (fun i => s.size - (intOf i).toNat)
  case atStart => exact ⟨0, Nat.zero_le _, rfl, rfl⟩
  case round =>
    obtain ⟨k, hk, rfl, ht⟩ := hrel
    have HT : Hid _ := ht
    clear ht
    by_cases hlt : k + 1 < s.size
    · have hk1 : k < s.size := by omega
      by_cases h0 : s[k] = 0
      · have e0 : ((s[k].toNat : Int) == 0) = true := byte_is 0 h0
        by_cases h1 : s[k + 1] = 0
        · have e1 : ((s[k + 1].toNat : Int) == 0) = true := byte_is 0 h1
          have HR : Hid _ := txtF_hit s k hlt h0 h1
          clear h0 h1
          go_wp2
          go_ret
          exact ⟨by rw [HT.out, HR.out]; go_num, rfl⟩
        · have e1 : ((s[k + 1].toNat : Int) == 0) = false := byte_not 0 h1
          have HR : Hid _ := txtF_two s k hlt h1
          clear h0 h1
          go_wp2
          go_round
          case rel => exact ⟨k + 2, by omega, by go_num, by rw [HT.out, HR.out]⟩
          case measure => simp [intOf]; omega
      · have e0 : ((s[k].toNat : Int) == 0) = false := byte_not 0 h0
        have HR : Hid _ := txtF_one s k hk1 h0
        clear h0
        go_wp2
        go_round
        case rel => exact ⟨k + 1, by omega, by go_num, by rw [HT.out, HR.out]⟩
        case measure => simp [intOf]; omega
    · have HR : Hid _ := txtF_end s k hlt
      go_wp2
      go_ret
      exact ⟨by rw [HT.out, HR.out]; rfl, rfl⟩

def LenAt (n : Nat) : Prop := ∀ (s : ByteArray) (w : World), s.size ≤ n → s.size ≤ 65536 → Calls Try.prog 65 #[.string s] w fun e w' => e = .returned (.int .i64 (lenK n s)) ∧ w' = w

theorem stepK_plain (L : ByteArray → Nat) (s : ByteArray) (i : Nat) (h : i < s.size) : stepK L false s i h = L (from_ s i) := rfl
theorem stepK_mark (L : ByteArray → Nat) (s : ByteArray) (i : Nat) (h : i < s.size) (h1 : s[i] ≠ 1) : stepK L true s i h = 0 := by
  unfold stepK; rw [if_pos rfl, if_neg h1]
theorem stepK_name (L : ByteArray → Nat) (s : ByteArray) (i : Nat) (h : i < s.size) (h1 : txt0 (from_ s (i + 1)) = 0) : stepK L true s i h = 0 := by
  unfold stepK; rw [if_pos rfl]; simp only [h1, if_true]; split
  · rfl
  · rfl
theorem stepK_value (L : ByteArray → Nat) (s : ByteArray) (i k : Nat) (h : i < s.size) (hk : k = txt0 (from_ s (i + 1))) (h1 : L (from_ s (i + 1 + k)) = 0) : stepK L true s i h = 0 := by
  subst hk
  unfold stepK; rw [if_pos rfl]; simp only [h1, if_true]; split
  · split
    · rfl
    · rfl
  · rfl
theorem stepK_all (L : ByteArray → Nat) (s : ByteArray) (i k q : Nat) (h : i < s.size) (h1 : s[i] = 1) (hk : k = txt0 (from_ s (i + 1))) (hk0 : k ≠ 0) (hq : q = L (from_ s (i + 1 + k))) (hq0 : q ≠ 0) : stepK L true s i h = 1 + k + q := by
  subst hq; subst hk
  unfold stepK; rw [if_pos rfl, if_pos h1, if_neg hk0, if_neg hq0]

set_option maxHeartbeats 1000000 in
theorem l04Many_plain (n : Nat) (ih : LenAt n) (s : ByteArray) (w : World) (hn : s.size ≤ n + 1) (hs : s.size ≤ 65536) (h0 : 0 < s.size) :
    Calls Try.prog 108 #[.string s, .bool false] w fun e w' => e = .returned (.int .i64 (manyK (lenK n) false s 1)) ∧ w' = w := by
  go_enter Try.func108, Try.ntmps108
  go_wp2
  go_loop [5] (fun i => ∃ k : Nat, 1 ≤ k ∧ k ≤ s.size ∧ i = .int .i64 k ∧ manyK (lenK n) false s 1 = manyK (lenK n) false s k) (fun i => s.size - (intOf i).toNat)
  case atStart => exact ⟨1, Nat.le_refl _, h0, rfl, rfl⟩
  case round =>
    obtain ⟨k, hk1, hk, rfl, ht⟩ := hrel
    have HT : Hid _ := ht
    clear ht
    by_cases hlt : k < s.size
    · by_cases hz : s[k] = 0
      · have e0 : ((s[k].toNat : Int) != 0) = false := byte_is2 0 hz
        have HR : Hid _ := manyK_zero (lenK n) false s k hlt hz
        clear hz
        go_wp2
        go_ret
        exact ⟨by rw [HT.out, HR.out]; go_num, rfl⟩
      · have e0 : ((s[k].toNat : Int) != 0) = true := byte_not2 0 hz
        obtain ⟨q, hq⟩ : ∃ q, q = lenK n (from_ s k) := ⟨_, rfl⟩
        have hsz : (from_ s k).size = s.size - k := from_size s k
        have HC : Hid (∀ w, Calls Try.prog 65 #[.string (s.extract k s.size)] w fun e w' => e = .returned (.int .i64 q) ∧ w' = w) := (fun w => by rw [hq]; exact ih (from_ s k) w (by omega) (by omega))
        have hql : q ≤ s.size - k := by rw [hq, ← hsz]; exact lenK_le n _
        have HS : Hid _ := stepK_plain (lenK n) s k hlt
        by_cases hq0 : q = 0
        · have HR : Hid _ := manyK_bad (lenK n) false s k hlt hz (by rw [HS.out, ← hq, hq0])
          have eq0 : ((q : Int) == 0) = true := by rw [hq0]; rfl
          clear hz hq hsz HS
          go_wp2_with (go_at_call 65; refine (HC.out _).mono ?_; rintro e w' ⟨rfl, rfl⟩)
          go_ret
          exact ⟨by rw [HT.out, HR.out]; rfl, rfl⟩
        · have HR : Hid _ := manyK_step (lenK n) false s k hlt hz (by rw [HS.out, ← hq]; exact hq0)
          have HS2 : Hid (stepK (lenK n) false s k hlt = q) := (by rw [HS.out, ← hq] : stepK (lenK n) false s k hlt = q)
          have eq0 : ((q : Int) == 0) = false := beq_eq_false_iff_ne.mpr (by omega)
          clear hz hq hsz HS
          go_wp2_with (go_at_call 65; refine (HC.out _).mono ?_; rintro e w' ⟨rfl, rfl⟩)
          go_round
          case rel => exact ⟨k + q, by omega, by omega, by go_num, by rw [HT.out, HR.out, HS2.out]⟩
          case measure => simp [intOf]; omega
    · have HR : Hid _ := manyK_end (lenK n) false s k hlt
      go_wp2
      go_ret
      exact ⟨by rw [HT.out, HR.out]; rfl, rfl⟩

set_option maxHeartbeats 1000000 in
theorem l04Many_named (n : Nat) (ih : LenAt n) (s : ByteArray) (w : World) (hn : s.size ≤ n + 1) (hs : s.size ≤ 65536) (h0 : 0 < s.size) :
    Calls Try.prog 108 #[.string s, .bool true] w fun e w' => e = .returned (.int .i64 (manyK (lenK n) true s 1)) ∧ w' = w := by
  go_enter Try.func108, Try.ntmps108
  go_wp2
  go_loop [5] (fun i => ∃ k : Nat, 1 ≤ k ∧ k ≤ s.size ∧ i = .int .i64 k ∧ manyK (lenK n) true s 1 = manyK (lenK n) true s k) (fun i => s.size - (intOf i).toNat)
  case atStart => exact ⟨1, Nat.le_refl _, h0, rfl, rfl⟩
  case round =>
    obtain ⟨k, hk1, hk, rfl, ht⟩ := hrel
    have HT : Hid _ := ht
    clear ht
    by_cases hlt : k < s.size
    · by_cases hz : s[k] = 0
      · have e0 : ((s[k].toNat : Int) != 0) = false := byte_is2 0 hz
        have HR : Hid _ := manyK_zero (lenK n) true s k hlt hz
        clear hz
        go_wp2
        go_ret
        exact ⟨by rw [HT.out, HR.out]; go_num, rfl⟩
      · have e0 : ((s[k].toNat : Int) != 0) = true := byte_not2 0 hz
        obtain ⟨p, hp⟩ : ∃ p, p = txt0 (from_ s (k + 1)) := ⟨_, rfl⟩
        have hsp : (from_ s (k + 1)).size = s.size - (k + 1) := from_size s (k + 1)
        have HP : Hid (∀ w, Calls Try.prog 107 #[.string (s.extract (k + 1) s.size)] w fun e w' => e = .returned (.int .i64 p) ∧ w' = w) := (fun w => by rw [hp]; exact l04Text_any (from_ s (k + 1)) w (by omega))
        have hpl : p ≤ s.size - (k + 1) := by rw [hp, ← hsp]; exact txt0_le _
        by_cases hm : s[k] = 1
        · have em : ((s[k].toNat : Int) != 1) = false := byte_is2 1 hm
          by_cases hp0 : p = 0
          · have HR : Hid _ := manyK_bad (lenK n) true s k hlt hz (stepK_name _ s k hlt (by rw [← hp, hp0]))
            have ep0 : ((p : Int) == 0) = true := by rw [hp0]; rfl
            clear hz hp hsp hm
            go_wp2_with (go_at_call 107; refine (HP.out _).mono ?_; rintro e w' ⟨rfl, rfl⟩)
            go_ret
            exact ⟨by rw [HT.out, HR.out]; rfl, rfl⟩
          · have ep0 : ((p : Int) == 0) = false := beq_eq_false_iff_ne.mpr (by omega)
            obtain ⟨q, hq⟩ : ∃ q, q = lenK n (from_ s (k + 1 + p)) := ⟨_, rfl⟩
            have hsz : (from_ s (k + 1 + p)).size = s.size - (k + 1 + p) := from_size s _
            have HC : Hid (∀ w, Calls Try.prog 65 #[.string (s.extract (k + 1 + p) s.size)] w fun e w' => e = .returned (.int .i64 q) ∧ w' = w) := (fun w => by rw [hq]; exact ih (from_ s (k + 1 + p)) w (by omega) (by omega))
            have hql : q ≤ s.size - (k + 1 + p) := by rw [hq, ← hsz]; exact lenK_le n _
            by_cases hq0 : q = 0
            · have HR : Hid _ := manyK_bad (lenK n) true s k hlt hz (stepK_value _ s k p hlt hp (by rw [← hq, hq0]))
              have eq0 : ((q : Int) == 0) = true := by rw [hq0]; rfl
              clear hz hp hsp hm hq hsz
              go_wp2_with (first | (go_at_call 107; refine (HP.out _).mono ?_; rintro e w' ⟨rfl, rfl⟩) | (go_at_call 65; (try rw [show (s.extract (k + (1 + p)) s.size) = s.extract (k + 1 + p) s.size by rw [Nat.add_assoc]]); refine (HC.out _).mono ?_; rintro e w' ⟨rfl, rfl⟩))
              go_ret
              exact ⟨by rw [HT.out, HR.out]; rfl, rfl⟩
            · have hst := stepK_all (lenK n) s k p q hlt hm hp hp0 hq hq0
              have HR : Hid _ := manyK_step (lenK n) true s k hlt hz (by rw [hst]; omega)
              have HS2 : Hid _ := hst
              have eq0 : ((q : Int) == 0) = false := beq_eq_false_iff_ne.mpr (by omega)
              clear hz hp hsp hm hq hsz hst
              go_wp2_with (first | (go_at_call 107; refine (HP.out _).mono ?_; rintro e w' ⟨rfl, rfl⟩) | (go_at_call 65; (try rw [show (s.extract (k + (1 + p)) s.size) = s.extract (k + 1 + p) s.size by rw [Nat.add_assoc]]); refine (HC.out _).mono ?_; rintro e w' ⟨rfl, rfl⟩))
              go_round
              case rel => exact ⟨k + (1 + p + q), by omega, by omega, by go_num, by rw [HT.out, HR.out, HS2.out]⟩
              case measure => simp [intOf]; omega
        · have em : ((s[k].toNat : Int) != 1) = true := byte_not2 1 hm
          have HR : Hid _ := manyK_bad (lenK n) true s k hlt hz (stepK_mark _ s k hlt hm)
          clear hz hp hsp hm
          go_wp2_with (go_at_call 107; refine (HP.out _).mono ?_; rintro e w' ⟨rfl, rfl⟩)
          go_ret
          exact ⟨by rw [HT.out, HR.out]; rfl, rfl⟩
    · have HR : Hid _ := manyK_end (lenK n) true s k hlt
      go_wp2
      go_ret
      exact ⟨by rw [HT.out, HR.out]; rfl, rfl⟩

theorem lenK_zero (n : Nat) (s : ByteArray) (h : s.size = 0) : lenK n s = 0 := by have := lenK_le n s; omega

set_option maxHeartbeats 2000000 in
theorem l04Length_step (n : Nat) (ih : LenAt n) : LenAt (n + 1) := by
  intro s w hn hs
  by_cases h0 : 0 < s.size
  · have hb := s[0].toNat_lt
    have hsz : (from_ s 1).size = s.size - 1 := from_size s 1
    have e00 : ((s.size : Int) == 0) = false := beq_eq_false_iff_ne.mpr (by omega)
    rw [lenK_pos n s h0]
    by_cases h1 : s[0] = 1
    · have e1 : ((s[0].toNat : Int) == 1) = true := byte_is 1 h1
      rw [if_pos h1]
      clear h1 hsz
      go_enter Try.func65, Try.ntmps65
      go_wp2
      go_ret
      exact ⟨rfl, rfl⟩
    · have e1 : ((s[0].toNat : Int) == 1) = false := byte_not 1 h1
      rw [if_neg h1]
      clear h1
      by_cases h2 : s[0] = 2
      · have e2 : ((s[0].toNat : Int) == 2) = true := byte_is 2 h2
        rw [if_pos h2]
        clear h2 hsz
        by_cases hz : 2 ≤ s.size
        · rw [if_pos hz]
          go_enter Try.func65, Try.ntmps65
          go_wp2
          go_ret
          exact ⟨rfl, rfl⟩
        · rw [if_neg hz]
          go_enter Try.func65, Try.ntmps65
          go_wp2
          go_ret
          exact ⟨rfl, rfl⟩
      · have e2 : ((s[0].toNat : Int) == 2) = false := byte_not 2 h2
        rw [if_neg h2]
        clear h2
        by_cases h3 : s[0] = 3
        · have e3 : ((s[0].toNat : Int) == 3) = true := byte_is 3 h3
          rw [if_pos h3]
          clear h3 hsz
          by_cases hz : 9 ≤ s.size
          · rw [if_pos hz]
            go_enter Try.func65, Try.ntmps65
            go_wp2
            go_ret
            exact ⟨rfl, rfl⟩
          · rw [if_neg hz]
            go_enter Try.func65, Try.ntmps65
            go_wp2
            go_ret
            exact ⟨rfl, rfl⟩
        · have e3 : ((s[0].toNat : Int) == 3) = false := byte_not 3 h3
          rw [if_neg h3]
          clear h3
          by_cases h4 : s[0] = 4
          · have e4 : ((s[0].toNat : Int) == 4) = true := byte_is 4 h4
            rw [if_pos h4]
            clear h4
            obtain ⟨p, hp⟩ : ∃ p, p = txt0 (from_ s 1) := ⟨_, rfl⟩
            have HP : Hid (∀ w, Calls Try.prog 107 #[.string (s.extract 1 s.size)] w fun e w' => e = .returned (.int .i64 p) ∧ w' = w) := (fun w => by rw [hp]; exact l04Text_any (from_ s 1) w (by omega))
            have hpl : p ≤ s.size - 1 := by rw [hp, ← hsz]; exact txt0_le _
            rw [← hp]
            clear hp hsz
            by_cases hp0 : p = 0
            · subst hp0
              rw [if_pos rfl]
              go_enter Try.func65, Try.ntmps65
              go_wp2_with (go_at_call 107; refine (HP.out _).mono ?_; rintro e w' ⟨rfl, rfl⟩)
              go_ret
              exact ⟨rfl, rfl⟩
            · rw [if_neg hp0]
              have ep : ((1 + p : Int) == 1) = false := beq_eq_false_iff_ne.mpr (by omega)
              go_enter Try.func65, Try.ntmps65
              go_wp2_with (go_at_call 107; refine (HP.out _).mono ?_; rintro e w' ⟨rfl, rfl⟩)
              go_ret
              exact ⟨by go_num, rfl⟩
          · have e4 : ((s[0].toNat : Int) == 4) = false := byte_not 4 h4
            rw [if_neg h4]
            clear h4 hsz
            by_cases h5 : s[0] = 5
            · have e5 : ((s[0].toNat : Int) == 5) = true := byte_is 5 h5
              rw [if_pos h5]
              clear h5
              go_enter Try.func65, Try.ntmps65
              go_wp2_with (go_at_call 108; refine (l04Many_plain n ih s _ hn hs h0).mono ?_; rintro e w' ⟨rfl, rfl⟩)
              go_ret
              exact ⟨rfl, rfl⟩
            · have e5 : ((s[0].toNat : Int) == 5) = false := byte_not 5 h5
              rw [if_neg h5]
              clear h5
              by_cases h6 : s[0] = 6
              · have e6 : ((s[0].toNat : Int) == 6) = true := byte_is 6 h6
                rw [if_pos h6]
                clear h6
                go_enter Try.func65, Try.ntmps65
                go_wp2_with (go_at_call 108; refine (l04Many_named n ih s _ hn hs h0).mono ?_; rintro e w' ⟨rfl, rfl⟩)
                go_ret
                exact ⟨rfl, rfl⟩
              · have e6 : ((s[0].toNat : Int) == 6) = false := byte_not 6 h6
                rw [if_neg h6]
                clear h6
                go_enter Try.func65, Try.ntmps65
                go_wp2
                go_ret
                exact ⟨rfl, rfl⟩
  · have hz : s.size = 0 := by omega
    have e0 : ((s.size : Int) == 0) = true := by rw [hz]; rfl
    rw [lenK_zero (n + 1) s hz]
    go_enter Try.func65, Try.ntmps65
    go_wp2
    go_ret
    exact ⟨rfl, rfl⟩

set_option maxHeartbeats 1000000 in
theorem l04Length_nil : LenAt 0 := by
  intro s w hn hs
  have hz : s.size = 0 := by omega
  have e0 : ((s.size : Int) == 0) = true := by rw [hz]; rfl
  rw [lenK_zero 0 s hz]
  go_enter Try.func65, Try.ntmps65
  go_wp2
  go_ret
  exact ⟨rfl, rfl⟩

theorem l04Length_at : ∀ n, LenAt n
  | 0 => l04Length_nil
  | n + 1 => l04Length_step n (l04Length_at n)

end Go.Proofs.Ytnmpfooegnmknaa.Tr
