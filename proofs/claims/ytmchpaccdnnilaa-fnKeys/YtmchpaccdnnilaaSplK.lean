/- What the program's reader of keys answers, for every text. -/
import Derived.Test.YtmchpaccdnnilaaSplJ
namespace Go.Proofs.Ytmchpaccdnnilaa.Tr
open Go.RowKit
set_option linter.unusedVariables false

theorem Rd.drew {w : World} {G b : Nat} {m : Int} {s : ByteArray} (h : Rd w G b m s) : Rd w.drew G b m s := ⟨h.blk, h.gb, h.gm⟩
theorem chg_drew {w : World} {lo hi : Nat} : Chg lo hi w w.drew := ⟨rfl, rfl, rfl, Nat.le_refl _, fun _ _ _ => rfl⟩
theorem firstByte3 (w : World) : Calls Try.prog 58 #[.int .i64 3] w fun e w' => e = .returned (.int .u8 4) ∧ w' = w := by
  go_enter Try.func58, Try.ntmps58
  go_wp2
  go_ret
  exact ⟨rfl, rfl⟩
theorem firstByte4 (w : World) : Calls Try.prog 58 #[.int .i64 4] w fun e w' => e = .returned (.int .u8 5) ∧ w' = w := by
  go_enter Try.func58, Try.ntmps58
  go_wp2
  go_ret
  exact ⟨rfl, rfl⟩
theorem firstByte5 (w : World) : Calls Try.prog 58 #[.int .i64 5] w fun e w' => e = .returned (.int .u8 6) ∧ w' = w := by
  go_enter Try.func58, Try.ntmps58
  go_wp2
  go_ret
  exact ⟨rfl, rfl⟩

set_option maxHeartbeats 1000000 in
theorem skipKey_empty (b : Nat) (m : Int) (s : ByteArray) (w : World) (R : Rd w (Try.laysCut_ren.g 1) b m s) (h : s.size = 0) :
    Calls Try.prog 59 #[.pointer (some ⟨b, 0, none⟩)] w fun e w' => KeyR b m s 0 w e w' := by
  have c0 := R.c0
  have hlt := R.lt
  have HR : Hid (Rd _ _ _ _ _) := R
  obtain rfl := empty_of s h
  clear R h
  go_enter Try.func59, Try.ntmps59
  go_wp2
  go_ret
  exact KeyR.no (Chg.refl _ _ _) HR.out rfl

set_option maxHeartbeats 1000000 in
theorem skipKey_wide (b : Nat) (m : Int) (s : ByteArray) (k : Nat) (w : World) (R : Rd w (Try.laysCut_ren.g 1) b m s) (hs : s.size ≤ 65536) (h : 0 < s.size) (hk : widN s[0].toNat = k) (hk0 : 0 < k) (hk9 : k ≤ 9) :
    Calls Try.prog 59 #[.pointer (some ⟨b, 0, none⟩)] w fun e w' => KeyR b m s (if k ≤ s.size then k else 0) w e w' := by
  have c0 := R.c0
  have hlt := R.lt
  have hb := s[0].toNat_lt
  have cw := R.cw s[0].toNat (by omega)
  rw [hk] at cw
  have HR : Hid (Rd _ _ _ _ _) := R
  obtain ⟨n1, n2⟩ := ne_list s h
  clear R hk
  by_cases hks : k ≤ s.size
  · rw [if_pos hks]
    go_enter Try.func59, Try.ntmps59
    go_wp2
    go_region
    go_wp2_with (go_at_call 89; refine (skip_to _ b m s k _ _ (HR.out.drew) hs hks rfl).mono ?_; rintro e w1 ⟨rfl, g1, g2⟩)
    go_ret
    exact KeyR.yes (chg_drew.trans g1) g2 (by omega)
  · rw [if_neg hks]
    go_enter Try.func59, Try.ntmps59
    go_wp2
    go_region
    go_wp2_with (go_at_call 89; refine (skip_not _ b m s k _ _ (HR.out.drew) hs (by omega) hks rfl).mono ?_; rintro e w1 ⟨rfl, g1, g2⟩)
    go_ret
    exact KeyR.no (chg_drew.trans g1) g2 rfl

set_option maxHeartbeats 1000000 in
theorem skipKey_text (b : Nat) (m : Int) (s : ByteArray) (w : World) (R : Rd w (Try.laysCut_ren.g 1) b m s) (hs : s.size ≤ 65536) (h : 0 < s.size) (h4 : s[0] = 4) :
    Calls Try.prog 59 #[.pointer (some ⟨b, 0, none⟩)] w fun e w' => KeyR b m s (if txt0 (from_ s 1) = 0 then 0 else 1 + txt0 (from_ s 1)) w e w' := by
  have c0 := R.c0
  have hlt := R.lt
  have hb := s[0].toNat_lt
  have cw := R.cw s[0].toNat (by omega)
  rw [show widN s[0].toNat = 0 by rw [h4]; rfl] at cw
  have HR : Hid (Rd _ _ _ _ _) := R
  obtain ⟨n1, n2⟩ := ne_list s h
  have H4 : Hid _ := h4
  have hs1 : (from_ s 1).size ≤ 65536 := by rw [from_size]; omega
  have HF : Hid _ := from_from s 1 (txt0 (from_ s 1)) h
  clear R h4
  by_cases ht : txt0 (from_ s 1) = 0
  · rw [if_pos ht]
    have HT : Hid _ := ht
    clear ht
    go_enter Try.func59, Try.ntmps59
    go_wp2
    go_region
    go_wp2_with (first
      | (go_at_call 58; with_reducible refine (firstByte3 _).mono ?_; rintro e w1 ⟨rfl, rfl⟩)
      | (go_at_call 90; refine (skipByte_yes _ b m s 4 4 _ (HR.out.drew) hs h H4.out zb4).mono ?_; rintro e w1 ⟨rfl, g1, g2⟩)
      | (go_at_call 91; refine (skipText_no b m _ _ g2 hs1 HT.out).mono ?_; rintro e w2 ⟨rfl, g3, g4⟩))
    go_ret
    exact KeyR.no ((chg_drew.trans g1).trans g3) g4 rfl
  · rw [if_neg ht]
    have HT : Hid _ := ht
    clear ht
    go_enter Try.func59, Try.ntmps59
    go_wp2
    go_region
    go_wp2_with (first
      | (go_at_call 58; with_reducible refine (firstByte3 _).mono ?_; rintro e w1 ⟨rfl, rfl⟩)
      | (go_at_call 90; refine (skipByte_yes _ b m s 4 4 _ (HR.out.drew) hs h H4.out zb4).mono ?_; rintro e w1 ⟨rfl, g1, g2⟩)
      | (go_at_call 91; refine (skipText_yes b m _ _ g2 hs1 HT.out).mono ?_; rintro e w2 ⟨rfl, g3, g4⟩))
    go_ret
    have g5 := g4
    rw [HF.out] at g5
    exact KeyR.yes ((chg_drew.trans g1).trans g3) g5 (by omega)

set_option maxHeartbeats 1000000 in
theorem skipKey_list (n : Nat) (ih : KeyAt n) (b : Nat) (m : Int) (s : ByteArray) (w : World) (R : Rd w (Try.laysCut_ren.g 1) b m s) (hn : s.size ≤ n + 1) (hs : s.size ≤ 65536) (h : 0 < s.size) (h5 : s[0] = 5) :
    Calls Try.prog 59 #[.pointer (some ⟨b, 0, none⟩)] w fun e w' => KeyR b m s (manyK (lenK n) false s 1) w e w' := by
  have c0 := R.c0
  have hlt := R.lt
  have hb := s[0].toNat_lt
  have cw := R.cw s[0].toNat (by omega)
  rw [show widN s[0].toNat = 0 by rw [h5]; rfl] at cw
  have HR : Hid (Rd _ _ _ _ _) := R
  obtain ⟨n1, n2⟩ := ne_list s h
  have H5 : Hid _ := h5
  have N4 : Hid (¬ ∃ h : 0 < s.size, s[0] = 4) := fun e => by have := e.2; rw [h5] at this; cases this
  clear R h5
  go_enter Try.func59, Try.ntmps59
  go_wp2
  go_region
  go_wp2_with (first
    | (go_at_call 58; with_reducible refine (firstByte3 _).mono ?_; rintro e w1 ⟨rfl, rfl⟩)
    | (go_at_call 58; with_reducible refine (firstByte4 _).mono ?_; rintro e w1 ⟨rfl, rfl⟩)
    | (go_at_call 90; with_reducible show Calls _ _ #[_, Value.int IntKind.u8 4] _ _; refine (skipByte_no _ b m s 4 4 _ (HR.out.drew) hs N4.out zb4).mono ?_; rintro e w1 ⟨rfl, rfl⟩)
    | (go_at_call 90; with_reducible show Calls _ _ #[_, Value.int IntKind.u8 5] _ _; refine (skipByte_yes _ b m s 5 5 _ (HR.out.drew) hs h H5.out zb5).mono ?_; rintro e w1 ⟨rfl, g1, g2⟩)
    | (go_at_call 92; refine (skipItems_any n ih b m s _ g2 hn hs h).mono ?_; intro e w2 g3; obtain ⟨e1, g4, g5⟩ := g3; subst e1))
  go_ret
  exact ⟨congrArg (fun z => Ending.returned (.bool z)) (by simp), (chg_drew.trans g1).trans g4, g5⟩

set_option maxHeartbeats 1000000 in
theorem skipKey_doc (n : Nat) (ih : KeyAt n) (b : Nat) (m : Int) (s : ByteArray) (w : World) (R : Rd w (Try.laysCut_ren.g 1) b m s) (hn : s.size ≤ n + 1) (hs : s.size ≤ 65536) (h : 0 < s.size) (h6 : s[0] = 6) :
    Calls Try.prog 59 #[.pointer (some ⟨b, 0, none⟩)] w fun e w' => KeyR b m s (manyK (lenK n) true s 1) w e w' := by
  have c0 := R.c0
  have hlt := R.lt
  have hb := s[0].toNat_lt
  have cw := R.cw s[0].toNat (by omega)
  rw [show widN s[0].toNat = 0 by rw [h6]; rfl] at cw
  have HR : Hid (Rd _ _ _ _ _) := R
  obtain ⟨n1, n2⟩ := ne_list s h
  have H6 : Hid _ := h6
  have N4 : Hid (¬ ∃ h : 0 < s.size, s[0] = 4) := fun e => by have := e.2; rw [h6] at this; cases this
  have N5 : Hid (¬ ∃ h : 0 < s.size, s[0] = 5) := fun e => by have := e.2; rw [h6] at this; cases this
  clear R h6
  go_enter Try.func59, Try.ntmps59
  go_wp2
  go_region
  go_wp2_with (first
    | (go_at_call 58; with_reducible refine (firstByte3 _).mono ?_; rintro e w1 ⟨rfl, rfl⟩)
    | (go_at_call 58; with_reducible refine (firstByte4 _).mono ?_; rintro e w1 ⟨rfl, rfl⟩)
    | (go_at_call 58; with_reducible refine (firstByte5 _).mono ?_; rintro e w1 ⟨rfl, rfl⟩)
    | (go_at_call 90; with_reducible show Calls _ _ #[_, Value.int IntKind.u8 4] _ _; refine (skipByte_no _ b m s 4 4 _ (HR.out.drew) hs N4.out zb4).mono ?_; rintro e w1 ⟨rfl, rfl⟩)
    | (go_at_call 90; with_reducible show Calls _ _ #[_, Value.int IntKind.u8 5] _ _; refine (skipByte_no _ b m s 5 5 _ (HR.out.drew) hs N5.out zb5).mono ?_; rintro e w1 ⟨rfl, rfl⟩)
    | (go_at_call 90; with_reducible show Calls _ _ #[_, Value.int IntKind.u8 6] _ _; refine (skipByte_yes _ b m s 6 6 _ (HR.out.drew) hs h H6.out zb6).mono ?_; rintro e w1 ⟨rfl, g1, g2⟩)
    | (go_at_call 93; refine (skipFields_any n ih b m s _ g2 hn hs h).mono ?_; intro e w2 g3; obtain ⟨e1, g4, g5⟩ := g3; subst e1))
  go_ret
  exact ⟨congrArg (fun z => Ending.returned (.bool z)) (by simp), (chg_drew.trans g1).trans g4, g5⟩

set_option maxHeartbeats 1000000 in
theorem skipKey_none (b : Nat) (m : Int) (s : ByteArray) (w : World) (R : Rd w (Try.laysCut_ren.g 1) b m s) (hs : s.size ≤ 65536) (h : 0 < s.size) (hw : widN s[0].toNat = 0) (n4 : s[0] ≠ 4) (n5 : s[0] ≠ 5) (n6 : s[0] ≠ 6) :
    Calls Try.prog 59 #[.pointer (some ⟨b, 0, none⟩)] w fun e w' => KeyR b m s 0 w e w' := by
  have c0 := R.c0
  have hlt := R.lt
  have hb := s[0].toNat_lt
  have cw := R.cw s[0].toNat (by omega)
  rw [hw] at cw
  have HR : Hid (Rd _ _ _ _ _) := R
  obtain ⟨n1, n2⟩ := ne_list s h
  have N4 : Hid (¬ ∃ h : 0 < s.size, s[0] = 4) := fun e => n4 e.2
  have N5 : Hid (¬ ∃ h : 0 < s.size, s[0] = 5) := fun e => n5 e.2
  have N6 : Hid (¬ ∃ h : 0 < s.size, s[0] = 6) := fun e => n6 e.2
  clear R hw n4 n5 n6
  go_enter Try.func59, Try.ntmps59
  go_wp2
  go_region
  go_wp2_with (first
    | (go_at_call 58; with_reducible refine (firstByte3 _).mono ?_; rintro e w1 ⟨rfl, rfl⟩)
    | (go_at_call 58; with_reducible refine (firstByte4 _).mono ?_; rintro e w1 ⟨rfl, rfl⟩)
    | (go_at_call 58; with_reducible refine (firstByte5 _).mono ?_; rintro e w1 ⟨rfl, rfl⟩)
    | (go_at_call 90; with_reducible show Calls _ _ #[_, Value.int IntKind.u8 4] _ _; refine (skipByte_no _ b m s 4 4 _ (HR.out.drew) hs N4.out zb4).mono ?_; rintro e w1 ⟨rfl, rfl⟩)
    | (go_at_call 90; with_reducible show Calls _ _ #[_, Value.int IntKind.u8 5] _ _; refine (skipByte_no _ b m s 5 5 _ (HR.out.drew) hs N5.out zb5).mono ?_; rintro e w1 ⟨rfl, rfl⟩)
    | (go_at_call 90; with_reducible show Calls _ _ #[_, Value.int IntKind.u8 6] _ _; refine (skipByte_no _ b m s 6 6 _ (HR.out.drew) hs N6.out zb6).mono ?_; rintro e w1 ⟨rfl, rfl⟩))
  go_ret
  exact KeyR.no chg_drew (HR.out.drew) rfl

theorem skipKey_at : ∀ n, KeyAt n
  | 0 => fun b m s w R hn hs => skipKey_empty b m s w R (by omega)
  | n + 1 => fun b m s w R hn hs => by
    have ih := skipKey_at n
    by_cases h : 0 < s.size
    · rw [lenK_pos n s h]
      by_cases h1 : s[0] = 1
      · rw [if_pos h1]
        have := skipKey_wide b m s 1 w R hs h (by rw [h1]; rfl) (by omega) (by omega)
        rwa [if_pos (show 1 ≤ s.size from h)] at this
      rw [if_neg h1]
      by_cases h2 : s[0] = 2
      · rw [if_pos h2]
        exact skipKey_wide b m s 2 w R hs h (by rw [h2]; rfl) (by omega) (by omega)
      rw [if_neg h2]
      by_cases h3 : s[0] = 3
      · rw [if_pos h3]
        exact skipKey_wide b m s 9 w R hs h (by rw [h3]; rfl) (by omega) (by omega)
      rw [if_neg h3]
      by_cases h4 : s[0] = 4
      · rw [if_pos h4]
        exact skipKey_text b m s w R hs h h4
      rw [if_neg h4]
      by_cases h5 : s[0] = 5
      · rw [if_pos h5]
        exact skipKey_list n ih b m s w R hn hs h h5
      rw [if_neg h5]
      by_cases h6 : s[0] = 6
      · rw [if_pos h6]
        exact skipKey_doc n ih b m s w R hn hs h h6
      rw [if_neg h6]
      refine skipKey_none b m s w R hs h ?_ h4 h5 h6
      have e : ∀ c : UInt8, s[0] ≠ c → s[0].toNat ≠ c.toNat := fun c hc he => hc (UInt8.toNat_inj.mp he)
      have e1 : s[0].toNat ≠ 1 := e 1 h1
      have e2 : s[0].toNat ≠ 2 := e 2 h2
      have e3 : s[0].toNat ≠ 3 := e 3 h3
      unfold widN
      rw [if_neg e1, if_neg e2, if_neg e3]
    · rw [lenK_zero (n + 1) s (by omega)]
      exact skipKey_empty b m s w R (by omega)

theorem pre_len (s : ByteArray) (L : Nat) (h : L ≤ s.size) : (s.extract 0 L).size = L := by simp; omega

set_option maxHeartbeats 1000000 in
theorem take_yes (n b : Nat) (m : Int) (s : ByteArray) (w : World) (R : Rd w (Try.laysCut_ren.g 1) b m s) (hn : s.size ≤ n) (hs : s.size ≤ 65536) (L : Nat) (hL : lenK n s = L) (h0 : L ≠ 0) :
    Calls Try.prog 26 #[.pointer (some ⟨b, 0, none⟩)] w fun e w' => e = .returned (.tuple #[.string (s.extract 0 L), .bool true]) ∧ Chg b (b + 1) w w' ∧ Rd w' (Try.laysCut_ren.g 1) b m (from_ s L) := by
  have c0 := R.c0
  have hlt := R.lt
  have HR : Hid (Rd _ _ _ _ _) := R
  have hLs : L ≤ s.size := by rw [← hL]; exact lenK_le n s
  have HK : Hid _ := hL
  have hfs : (from_ s L).size = s.size - L := from_size s L
  have hps : (s.extract 0 L).size ≤ 1048576 := by rw [pre_len s L hLs]; omega
  clear R hL
  go_enter Try.func26, Try.ntmps26
  go_wp2_with (go_at_call 59; refine (skipKey_at n b m s _ HR.out hn hs).mono ?_; intro e w1 hkr; obtain ⟨rfl, g1, g2⟩ := hkr.isYes (by rw [HK.out]; exact h0); clear hkr; rw [HK.out] at g2; have d0 := g2.c0; have dl := g2.lt; have G2 : Hid (Rd _ _ _ _ _) := g2; have hsub : ((s.size : Int) - ((from_ s L).size : Int)) = (L : Int) := by omega)
  rw [show s.size - (s.size - L) = L by omega]
  refine (strClone_any (s.extract 0 L) _ hps).mono ?_
  rintro e w2 ⟨rfl, hb⟩
  go_wp2_with fail
  go_ret2
  exact ⟨rfl, g1.trans (Chg.of_below hb), G2.out.to hb⟩

set_option maxHeartbeats 1000000 in
theorem take_no (n b : Nat) (m : Int) (s : ByteArray) (w : World) (R : Rd w (Try.laysCut_ren.g 1) b m s) (hn : s.size ≤ n) (hs : s.size ≤ 65536) (h0 : lenK n s = 0) :
    Calls Try.prog 26 #[.pointer (some ⟨b, 0, none⟩)] w fun e w' => e = .returned (.tuple #[.string em, .bool false]) ∧ Chg b (b + 1) w w' := by
  have c0 := R.c0
  have hlt := R.lt
  have HR : Hid (Rd _ _ _ _ _) := R
  have HK : Hid _ := h0
  clear R h0
  go_enter Try.func26, Try.ntmps26
  go_wp2_with (go_at_call 59; refine (skipKey_at n b m s _ HR.out hn hs).mono ?_; intro e w1 hkr; obtain ⟨rfl, g1, t, g2⟩ := hkr.isNo HK.out; clear hkr)
  go_ret2
  exact ⟨rfl, g1⟩

end Go.Proofs.Ytmchpaccdnnilaa.Tr
