/- What the program's reader of keys answers: a key of any kind. -/
import Derived.Test.YtmchpaccdnnilaaSplI
namespace Go.Proofs.Ytmchpaccdnnilaa.Tr
open Go.RowKit
set_option linter.unusedVariables false

theorem zb0 : (0 : Int) = ((0 : UInt8).toNat : Int) := rfl
theorem zb1 : (1 : Int) = ((1 : UInt8).toNat : Int) := rfl
theorem zb4 : (4 : Int) = ((4 : UInt8).toNat : Int) := rfl
theorem zb5 : (5 : Int) = ((5 : UInt8).toNat : Int) := rfl
theorem zb6 : (6 : Int) = ((6 : UInt8).toNat : Int) := rfl

/-- What a step over a key of L bytes leaves; L = 0: there is none. -/
structure KeyR (b : Nat) (m : Int) (s : ByteArray) (L : Nat) (w : World) (e : Ending) (w' : World) : Prop where
  ret : e = .returned (.bool (decide (L ≠ 0)))
  chg : Chg b (b + 1) w w'
  rd : ∃ s', Rd w' (Try.laysCut_ren.g 1) b m s' ∧ (L ≠ 0 → s' = from_ s L)
theorem KeyR.yes {b : Nat} {m : Int} {s : ByteArray} {L : Nat} {w w' : World} (hc : Chg b (b + 1) w w') (h : Rd w' (Try.laysCut_ren.g 1) b m (from_ s L)) (h0 : L ≠ 0) : KeyR b m s L w (.returned (.bool true)) w' := ⟨by rw [decide_eq_true h0], hc, _, h, fun _ => rfl⟩
theorem KeyR.no {b : Nat} {m : Int} {s t : ByteArray} {L : Nat} {w w' : World} (hc : Chg b (b + 1) w w') (h : Rd w' (Try.laysCut_ren.g 1) b m t) (h0 : L = 0) : KeyR b m s L w (.returned (.bool false)) w' := ⟨by rw [decide_eq_false (fun e => e h0)], hc, _, h, fun e => absurd h0 e⟩
theorem KeyR.isYes {b : Nat} {m : Int} {s : ByteArray} {L : Nat} {w w' : World} {e : Ending} (h : KeyR b m s L w e w') (h0 : L ≠ 0) : e = .returned (.bool true) ∧ Chg b (b + 1) w w' ∧ Rd w' (Try.laysCut_ren.g 1) b m (from_ s L) := by
  obtain ⟨s', h1, h2⟩ := h.rd
  have := h2 h0
  subst this
  exact ⟨by rw [h.ret, decide_eq_true h0], h.chg, h1⟩
theorem KeyR.isNo {b : Nat} {m : Int} {s : ByteArray} {L : Nat} {w w' : World} {e : Ending} (h : KeyR b m s L w e w') (h0 : L = 0) : e = .returned (.bool false) ∧ Chg b (b + 1) w w' ∧ ∃ t, Rd w' (Try.laysCut_ren.g 1) b m t := by
  obtain ⟨s', h1, _⟩ := h.rd
  exact ⟨by rw [h.ret, decide_eq_false (fun e => e h0)], h.chg, s', h1⟩

def KeyAt (n : Nat) : Prop := ∀ (b : Nat) (m : Int) (s : ByteArray) (w : World), Rd w (Try.laysCut_ren.g 1) b m s → s.size ≤ n → s.size ≤ 65536 →
    Calls Try.prog 59 #[.pointer (some ⟨b, 0, none⟩)] w fun e w' => KeyR b m s (lenK n s) w e w'

def restLen (b : Nat) (w : World) : Nat := match w.cell? ⟨b, 0, none⟩ with
  | some (.string s) => s.size
  | _ => 0
theorem Rd.rest {w : World} {G b : Nat} {m : Int} {s : ByteArray} (h : Rd w G b m s) : restLen b w = s.size := by unfold restLen; rw [h.c0]

set_option maxHeartbeats 1000000 in
theorem skipItems_any (n : Nat) (ih : KeyAt n) (b : Nat) (m : Int) (s : ByteArray) (w : World) (R : Rd w (Try.laysCut_ren.g 1) b m (from_ s 1)) (hn : s.size ≤ n + 1) (hs : s.size ≤ 65536) (h0 : 0 < s.size) :
    Calls Try.prog 92 #[.pointer (some ⟨b, 0, none⟩)] w fun e w' => KeyR b m s (manyK (lenK n) false s 1) w e w' := by
  go_enter Try.func92, Try.ntmps92
  go_wp2
  go_loopw [2] (fun r wr => r = .bool false ∧ ∃ k : Nat, 1 ≤ k ∧ k ≤ s.size ∧ manyK (lenK n) false s 1 = manyK (lenK n) false s k ∧ Chg b (b + 1) w wr ∧ Rd wr (Try.laysCut_ren.g 1) b m (from_ s k)) (fun _ wr => restLen b wr)
  case atStart => exact ⟨rfl, 1, Nat.le_refl _, h0, rfl, Chg.refl _ _ _, R⟩
  case round =>
    obtain ⟨rfl, k, hk1, hk, ht, hc, hr⟩ := hrel
    have HT : Hid _ := ht
    have HC : Hid (Chg _ _ _ _) := hc
    have HR : Hid (Rd _ _ _ _ _) := hr
    have hsz : (from_ s k).size = s.size - k := from_size s k
    have hsz2 : (from_ s k).size ≤ 65536 := by omega
    have hsz3 : (from_ s k).size ≤ n := by omega
    clear ht hc hr R
    by_cases hz : ∃ h : k < s.size, s[k] = 0
    · obtain ⟨hlt, hz⟩ := hz
      have h1 : 0 < (from_ s k).size := by omega
      have HH : Hid ((from_ s k)[0] = 0) := (from_head s k hlt h1).trans hz
      have HM : Hid _ := manyK_zero (lenK n) false s k hlt hz
      clear hz
      go_wp2_with (go_at_call 90; with_reducible refine (skipByte_yes _ b m (from_ s k) 0 0 _ HR.out hsz2 h1 HH.out zb0).mono ?_; rintro e w1 ⟨rfl, g1, g2⟩)
      go_ret
      have g3 := g2
      rw [from_from s k 1 hk] at g3
      rw [HT.out, HM.out]
      exact KeyR.yes (HC.out.trans g1) g3 (by omega)
    · have HN : Hid (¬ ∃ h : 0 < (from_ s k).size, (from_ s k)[0] = 0) := fun ⟨h1, h2⟩ => hz ⟨by omega, by rw [← from_head s k (by omega) h1]; exact h2⟩
      by_cases hq0 : lenK n (from_ s k) = 0
      · have HM : Hid (manyK (lenK n) false s k = 0) := by
          by_cases hlt : k < s.size
          · exact manyK_bad (lenK n) false s k hlt (fun e => hz ⟨hlt, e⟩) hq0
          · exact manyK_end _ _ _ _ hlt
        have HQ : Hid _ := hq0
        clear hz hq0
        go_wp2_with (first | (go_at_call 90; with_reducible refine (skipByte_no _ b m (from_ s k) 0 0 _ HR.out hsz2 HN.out zb0).mono ?_; rintro e w1 ⟨rfl, rfl⟩) | (go_at_call 59; refine (ih b m (from_ s k) _ HR.out hsz3 hsz2).mono ?_; intro e w2 hkr; obtain ⟨rfl, g1, t, g2⟩ := hkr.isNo HQ.out; clear hkr))
        go_ret
        rw [HT.out, HM.out]
        exact KeyR.no (HC.out.trans g1) g2 rfl
      · have hlt : k < s.size := by
          refine Nat.lt_of_not_le (fun e => hq0 (lenK_zero n _ (by omega)))
        have HM : Hid _ := manyK_step (lenK n) false s k hlt (fun e => hz ⟨hlt, e⟩) hq0
        have hql := lenK_le n (from_ s k)
        have HQ : Hid _ := hq0
        obtain ⟨q, hq⟩ : ∃ q, q = lenK n (from_ s k) := ⟨_, rfl⟩
        have HS : Hid (stepK (lenK n) false s k hlt = q) := by rw [hq]; rfl
        have hq1 : 1 ≤ q := by omega
        have hq2 : q ≤ s.size - k := by omega
        have HE : Hid _ := hq
        clear hz hq0 hql hq
        go_wp2_with (first | (go_at_call 90; with_reducible refine (skipByte_no _ b m (from_ s k) 0 0 _ HR.out hsz2 HN.out zb0).mono ?_; rintro e w1 ⟨rfl, rfl⟩) | (go_at_call 59; refine (ih b m (from_ s k) _ HR.out hsz3 hsz2).mono ?_; intro e w2 hkr; obtain ⟨rfl, g1, g2⟩ := hkr.isYes HQ.out; clear hkr))
        go_roundw
        case rel => exact ⟨rfl, k + q, by omega, by omega, by rw [HT.out, HM.out, HS.out], HC.out.trans g1, by rw [← from_from s k q hk, HE.out]; exact g2⟩
        case measure =>
          rw [g2.rest, HR.out.rest, from_size, ← HE.out]
          omega

set_option maxHeartbeats 1000000 in
theorem skipFields_any (n : Nat) (ih : KeyAt n) (b : Nat) (m : Int) (s : ByteArray) (w : World) (R : Rd w (Try.laysCut_ren.g 1) b m (from_ s 1)) (hn : s.size ≤ n + 1) (hs : s.size ≤ 65536) (h0 : 0 < s.size) :
    Calls Try.prog 93 #[.pointer (some ⟨b, 0, none⟩)] w fun e w' => KeyR b m s (manyK (lenK n) true s 1) w e w' := by
  go_enter Try.func93, Try.ntmps93
  go_wp2
  go_loopw [2] (fun r wr => r = .bool false ∧ ∃ k : Nat, 1 ≤ k ∧ k ≤ s.size ∧ manyK (lenK n) true s 1 = manyK (lenK n) true s k ∧ Chg b (b + 1) w wr ∧ Rd wr (Try.laysCut_ren.g 1) b m (from_ s k)) (fun _ wr => restLen b wr)
  case atStart => exact ⟨rfl, 1, Nat.le_refl _, h0, rfl, Chg.refl _ _ _, R⟩
  case round =>
    obtain ⟨rfl, k, hk1, hk, ht, hc, hr⟩ := hrel
    have HT : Hid _ := ht
    have HC : Hid (Chg _ _ _ _) := hc
    have HR : Hid (Rd _ _ _ _ _) := hr
    have hsz : (from_ s k).size = s.size - k := from_size s k
    have hsz2 : (from_ s k).size ≤ 65536 := by omega
    clear ht hc hr R
    by_cases hz : ∃ h : k < s.size, s[k] = 0
    · obtain ⟨hlt, hz⟩ := hz
      have h1 : 0 < (from_ s k).size := by omega
      have HH : Hid ((from_ s k)[0] = 0) := (from_head s k hlt h1).trans hz
      have HM : Hid _ := manyK_zero (lenK n) true s k hlt hz
      clear hz
      go_wp2_with (go_at_call 90; with_reducible refine (skipByte_yes _ b m (from_ s k) 0 0 _ HR.out hsz2 h1 HH.out zb0).mono ?_; rintro e w1 ⟨rfl, g1, g2⟩)
      go_ret
      have g3 := g2
      rw [from_from s k 1 hk] at g3
      rw [HT.out, HM.out]
      exact KeyR.yes (HC.out.trans g1) g3 (by omega)
    · have HN : Hid (¬ ∃ h : 0 < (from_ s k).size, (from_ s k)[0] = 0) := fun ⟨h1, h2⟩ => hz ⟨by omega, by rw [← from_head s k (by omega) h1]; exact h2⟩
      by_cases hm : ∃ h : k < s.size, s[k] = 1
      · obtain ⟨hlt, hm⟩ := hm
        have h1 : 0 < (from_ s k).size := by omega
        have HH : Hid ((from_ s k)[0] = 1) := (from_head s k hlt h1).trans hm
        have hz0 : s[k] ≠ 0 := fun e => hz ⟨hlt, e⟩
        have hsp : (from_ s (k + 1)).size = s.size - (k + 1) := from_size s (k + 1)
        have hsp2 : (from_ s (k + 1)).size ≤ 65536 := by omega
        have HF : Hid _ := from_from s k 1 hk
        obtain ⟨p, hp⟩ : ∃ p, p = txt0 (from_ s (k + 1)) := ⟨_, rfl⟩
        by_cases hp0 : p = 0
        · have HM : Hid _ := manyK_bad (lenK n) true s k hlt hz0 (stepK_name _ s k hlt (by rw [← hp]; exact hp0))
          have HP : Hid (txt0 (from_ s (k + 1)) = 0) := by rw [← hp]; exact hp0
          clear hz hz0 hm hp hp0
          go_wp2_with (first
            | (go_at_call 90; with_reducible refine (skipByte_no _ b m (from_ s k) 0 0 _ HR.out hsz2 HN.out zb0).mono ?_; rintro e w1 ⟨rfl, rfl⟩)
            | (go_at_call 90; with_reducible refine (skipByte_yes _ b m (from_ s k) 1 1 _ HR.out hsz2 h1 HH.out zb1).mono ?_; rintro e w1 ⟨rfl, g1, g2⟩; rw [HF.out] at g2)
            | (go_at_call 91; refine (skipText_no b m _ _ g2 hsp2 HP.out).mono ?_; rintro e w2 ⟨rfl, g3, g4⟩))
          go_ret
          rw [HT.out, HM.out]
          exact KeyR.no ((HC.out.trans g1).trans g3) g4 rfl
        · have hpl : p ≤ s.size - (k + 1) := by rw [hp, ← hsp]; exact txt0_le _
          have HP : Hid (txt0 (from_ s (k + 1)) ≠ 0) := by rw [← hp]; exact hp0
          have HG : Hid (from_ (from_ s (k + 1)) (txt0 (from_ s (k + 1))) = from_ s (k + 1 + p)) := by rw [← hp, from_from s (k + 1) p (by omega)]; exact rfl
          have hsq : (from_ s (k + 1 + p)).size = s.size - (k + 1 + p) := from_size s _
          have hsq2 : (from_ s (k + 1 + p)).size ≤ 65536 := by omega
          have hsq3 : (from_ s (k + 1 + p)).size ≤ n := by omega
          by_cases hq0 : lenK n (from_ s (k + 1 + p)) = 0
          · have HM : Hid _ := manyK_bad (lenK n) true s k hlt hz0 (stepK_value _ s k p hlt hp hq0)
            have HQ : Hid _ := hq0
            clear hz hz0 hm hp hp0 hq0
            go_wp2_with (first
              | (go_at_call 90; with_reducible refine (skipByte_no _ b m (from_ s k) 0 0 _ HR.out hsz2 HN.out zb0).mono ?_; rintro e w1 ⟨rfl, rfl⟩)
              | (go_at_call 90; with_reducible refine (skipByte_yes _ b m (from_ s k) 1 1 _ HR.out hsz2 h1 HH.out zb1).mono ?_; rintro e w1 ⟨rfl, g1, g2⟩; rw [HF.out] at g2)
              | (go_at_call 91; refine (skipText_yes b m _ _ g2 hsp2 HP.out).mono ?_; rintro e w2 ⟨rfl, g3, g4⟩; rw [HG.out] at g4)
              | (go_at_call 59; refine (ih b m _ _ g4 hsq3 hsq2).mono ?_; intro e w3 hkr; obtain ⟨rfl, g5, t, g6⟩ := hkr.isNo HQ.out; clear hkr))
            go_ret
            rw [HT.out, HM.out]
            exact KeyR.no (((HC.out.trans g1).trans g3).trans g5) g6 rfl
          · obtain ⟨q, hq⟩ : ∃ q, q = lenK n (from_ s (k + 1 + p)) := ⟨_, rfl⟩
            have hst := stepK_all (lenK n) s k p q hlt hm hp hp0 hq (by rw [hq]; exact hq0)
            have HM : Hid _ := manyK_step (lenK n) true s k hlt hz0 (by rw [hst]; omega)
            have HS : Hid _ := hst
            have hql := lenK_le n (from_ s (k + 1 + p))
            have hq2 : q ≤ s.size - (k + 1 + p) := by omega
            have HQ : Hid _ := hq0
            have HE : Hid _ := hq
            clear hz hz0 hm hp hp0 hq0 hst hql hq
            go_wp2_with (first
              | (go_at_call 90; with_reducible refine (skipByte_no _ b m (from_ s k) 0 0 _ HR.out hsz2 HN.out zb0).mono ?_; rintro e w1 ⟨rfl, rfl⟩)
              | (go_at_call 90; with_reducible refine (skipByte_yes _ b m (from_ s k) 1 1 _ HR.out hsz2 h1 HH.out zb1).mono ?_; rintro e w1 ⟨rfl, g1, g2⟩; rw [HF.out] at g2)
              | (go_at_call 91; refine (skipText_yes b m _ _ g2 hsp2 HP.out).mono ?_; rintro e w2 ⟨rfl, g3, g4⟩; rw [HG.out] at g4)
              | (go_at_call 59; refine (ih b m _ _ g4 hsq3 hsq2).mono ?_; intro e w3 hkr; obtain ⟨rfl, g5, g6⟩ := hkr.isYes HQ.out; clear hkr))
            go_roundw
            case rel => exact ⟨rfl, k + (1 + p + q), by omega, by omega, by rw [HT.out, HM.out, HS.out], ((HC.out.trans g1).trans g3).trans g5, by
              have g7 := g6
              rw [from_from s (k + 1 + p) _ (by omega), ← HE.out] at g7
              rw [show k + (1 + p + q) = k + 1 + p + q by omega]; exact g7⟩
            case measure =>
              rw [g6.rest, HR.out.rest, from_size, from_size, ← HE.out, from_size]
              omega
      · have HM : Hid (manyK (lenK n) true s k = 0) := by
          by_cases hlt : k < s.size
          · exact manyK_bad (lenK n) true s k hlt (fun e => hz ⟨hlt, e⟩) (stepK_mark _ s k hlt (fun e => hm ⟨hlt, e⟩))
          · exact manyK_end _ _ _ _ hlt
        have HN1 : Hid (¬ ∃ h : 0 < (from_ s k).size, (from_ s k)[0] = 1) := fun ⟨h1, h2⟩ => hm ⟨by omega, by rw [← from_head s k (by omega) h1]; exact h2⟩
        clear hz hm
        go_wp2_with (first
          | (go_at_call 90; with_reducible refine (skipByte_no _ b m (from_ s k) 0 0 _ HR.out hsz2 HN.out zb0).mono ?_; rintro e w1 ⟨rfl, rfl⟩)
          | (go_at_call 90; with_reducible refine (skipByte_no _ b m (from_ s k) 1 1 _ HR.out hsz2 HN1.out zb1).mono ?_; rintro e w1 ⟨rfl, rfl⟩))
        go_ret
        rw [HT.out, HM.out]
        exact KeyR.no HC.out HR.out rfl

end Go.Proofs.Ytmchpaccdnnilaa.Tr
