/- What the program's reader of keys answers: its steps. -/
import Derived.Test.YtmchpaccdnnilaaSplCQ
import Derived.Test.YtmchpaccdnnilaaLayC
import Derived.Deep.RegionWith
import Derived.Test.YtmchpaccdnnilaaLawB
import Derived.ProofKit
namespace Go.Proofs.Ytmchpaccdnnilaa.Tr
open Go.RowKit
set_option linter.unusedVariables false

def widN (i : Nat) : Nat := if i = 1 then 1 else if i = 2 then 2 else if i = 3 then 9 else 0
/-- A reader, with what it has still to read. -/
structure Rd (w : World) (G b : Nat) (m : Int) (s : ByteArray) : Prop where
  blk : ∃ A : Array Value, w.heap[b]? = some (.cells A 57) ∧ A[0]? = some (.string s) ∧ ∀ i, i < 256 → A[1 + i]? = some (.int .i64 (widN i))
  gb : G < b
  gm : w.cell? ⟨G, 0, none⟩ = some (.int .i64 m)
theorem Rd.lt {w : World} {G b : Nat} {m : Int} {s : ByteArray} (h : Rd w G b m s) : b < w.heap.size := by
  obtain ⟨A, hA, _⟩ := h.blk
  exact (Array.getElem?_eq_some_iff.1 hA).1
theorem Rd.c0 {w : World} {G b : Nat} {m : Int} {s : ByteArray} (h : Rd w G b m s) : w.cell? ⟨b, 0, none⟩ = some (.string s) := by
  obtain ⟨A, hA, h0, _⟩ := h.blk
  simp [World.cell?, hA, h0]
theorem Rd.cw {w : World} {G b : Nat} {m : Int} {s : ByteArray} (h : Rd w G b m s) (i : Nat) (hi : i < 256) : w.cell? ⟨b, 1 + i, none⟩ = some (.int .i64 (widN i)) := by
  obtain ⟨A, hA, _, h1⟩ := h.blk
  simp [World.cell?, hA, h1 i hi]
theorem Rd.f0 {w : World} {G b : Nat} {m : Int} {s : ByteArray} (h : Rd w G b m s) : w.frozen? ⟨b, 0, none⟩ = false := by
  obtain ⟨A, hA, _⟩ := h.blk
  simp [World.frozen?, hA]
theorem set_blockR {w : World} {g o : Nat} {v : Value} {c : Array Value} {T : TypeId} (h : w.heap[g]? = some (.cells c T)) : (w.setCell ⟨g, o, none⟩ v).heap[g]? = some (.cells (c.setIfInBounds o v) T) := by
  simp [World.setCell, Array.getElem?_modify, h]
theorem chg_set {w : World} {b o : Nat} {v : Value} : Chg b (b + 1) w (w.setCell ⟨b, o, none⟩ v) := Chg.of_grown grown_set (fun c e => by injection e with e; omega)
theorem Rd.set {w : World} {G b : Nat} {m : Int} {s : ByteArray} (h : Rd w G b m s) (t : ByteArray) : Rd (w.setCell ⟨b, 0, none⟩ (.string t)) G b m t := by
  have hgl : G < w.heap.size := Nat.lt_trans h.gb h.lt
  refine ⟨?_, h.gb, ?_⟩
  · obtain ⟨A, hA, h0, h1⟩ := h.blk
    have hz : 0 < A.size := (Array.getElem?_eq_some_iff.1 h0).1
    refine ⟨_, set_blockR hA, by simp [hz], fun i hi => ?_⟩
    rw [Array.getElem?_setIfInBounds_ne (by omega)]
    exact h1 i hi
  · rw [chg_set.cell hgl (.inl h.gb)]; exact h.gm
theorem Rd.drewN {w : World} {G b : Nat} {m : Int} {s : ByteArray} (h : Rd w G b m s) (n : Nat) : Rd (w.drewN n) G b m s := ⟨h.blk, h.gb, h.gm⟩
theorem chg_drewN {w : World} {lo hi : Nat} (n : Nat) : Chg lo hi w (w.drewN n) := ⟨rfl, rfl, rfl, Nat.le_refl _, fun _ _ _ => rfl⟩

set_option maxHeartbeats 1000000 in
theorem skip_any (G b : Nat) (m : Int) (s : ByteArray) (k : Nat) (w : World) (R : Rd w G b m s) (hs : s.size ≤ 65536) (hk : k ≤ 65536) :
    Calls Try.prog 89 #[.pointer (some ⟨b, 0, none⟩), .int .i64 k] w fun e w' => e = .returned (.bool (decide (k ≤ s.size))) ∧ Chg b (b + 1) w w' ∧ Rd w' G b m (if k ≤ s.size then from_ s k else s) := by
  have c0 := R.c0
  have f0 := R.f0
  have hlt := R.lt
  have HR : Hid (Rd _ _ _ _ _) := R
  clear R
  by_cases h : k ≤ s.size
  · rw [decide_eq_true h, if_pos h]
    go_enter Try.func89, Try.ntmps89
    go_wp2
    go_ret
    exact ⟨rfl, chg_set, HR.out.set _⟩
  · rw [decide_eq_false h, if_neg h]
    go_enter Try.func89, Try.ntmps89
    go_wp2
    go_ret
    exact ⟨rfl, Chg.refl _ _ _, HR.out⟩

theorem skip_to (G b : Nat) (m : Int) (s : ByteArray) (k : Nat) (z : Int) (w : World) (R : Rd w G b m s) (hs : s.size ≤ 65536) (hk : k ≤ s.size) (hz : z = k) :
    Calls Try.prog 89 #[.pointer (some ⟨b, 0, none⟩), .int .i64 z] w fun e w' => e = .returned (.bool true) ∧ Chg b (b + 1) w w' ∧ Rd w' G b m (from_ s k) := by
  subst hz
  have h := skip_any G b m s k w R hs (by omega)
  rw [decide_eq_true hk, if_pos hk] at h
  exact h
theorem skip_not (G b : Nat) (m : Int) (s : ByteArray) (k : Nat) (z : Int) (w : World) (R : Rd w G b m s) (hs : s.size ≤ 65536) (hk : k ≤ 65536) (hk2 : ¬ k ≤ s.size) (hz : z = k) :
    Calls Try.prog 89 #[.pointer (some ⟨b, 0, none⟩), .int .i64 z] w fun e w' => e = .returned (.bool false) ∧ Chg b (b + 1) w w' ∧ Rd w' G b m s := by
  subst hz
  have h := skip_any G b m s k w R hs hk
  rw [decide_eq_false hk2, if_neg hk2] at h
  exact h

theorem ne_list (s : ByteArray) (h : 0 < s.size) : ¬ s.toList = [] ∧ s.toList.isEmpty = false := by
  have h1 : s.toList.length = s.size := by rw [ByteArray.toList_eq, toList_length]
  have h2 : ¬ s.toList = [] := fun e => by rw [e] at h1; simp at h1; omega
  exact ⟨h2, by rw [← Bool.not_eq_true, List.isEmpty_iff]; exact h2⟩

set_option maxHeartbeats 1000000 in
theorem skipByte_yes (G b : Nat) (m : Int) (s : ByteArray) (c : UInt8) (z : Int) (w : World) (R : Rd w G b m s) (hs : s.size ≤ 65536) (h : 0 < s.size) (hc : s[0] = c) (hz : z = c.toNat) :
    Calls Try.prog 90 #[.pointer (some ⟨b, 0, none⟩), .int .u8 z] w fun e w' => e = .returned (.bool true) ∧ Chg b (b + 1) w w' ∧ Rd w' G b m (from_ s 1) := by
  have c0 := R.c0
  have hlt := R.lt
  have HR : Hid (Rd _ _ _ _ _) := R
  have e1 : ((s[0].toNat : Int) == z) = true := by rw [hz]; exact byte_is c hc
  obtain ⟨n1, n2⟩ := ne_list s h
  clear R hc hz
  go_enter Try.func90, Try.ntmps90
  go_wp2_with (go_at_call 89; refine (skip_to G b m s 1 _ _ HR.out hs h rfl).mono ?_; rintro e w1 ⟨rfl, h1, h2⟩)
  go_ret
  exact ⟨rfl, h1, h2⟩

set_option maxHeartbeats 1000000 in
theorem skipByte_no (G b : Nat) (m : Int) (s : ByteArray) (c : UInt8) (z : Int) (w : World) (R : Rd w G b m s) (hs : s.size ≤ 65536) (hn : ¬ ∃ h : 0 < s.size, s[0] = c) (hz : z = c.toNat) :
    Calls Try.prog 90 #[.pointer (some ⟨b, 0, none⟩), .int .u8 z] w fun e w' => e = .returned (.bool false) ∧ w' = w := by
  have c0 := R.c0
  have hlt := R.lt
  clear R
  by_cases h : 0 < s.size
  · have e1 : ((s[0].toNat : Int) == z) = false := by rw [hz]; exact byte_not c (fun e => hn ⟨h, e⟩)
    obtain ⟨n1, n2⟩ := ne_list s h
    clear hn hz
    go_enter Try.func90, Try.ntmps90
    go_wp2
    go_ret
    exact ⟨rfl, rfl⟩
  · have hz : s.size = 0 := by omega
    obtain rfl := empty_of s hz
    clear hn hz
    go_enter Try.func90, Try.ntmps90
    go_wp2
    go_ret
    exact ⟨rfl, rfl⟩

theorem cut_any (s : ByteArray) (m : Int) (w : World) (hs : s.size ≤ 65536) (hm : w.cell? ⟨Try.laysCut_ren.g 1, 0, none⟩ = some (.int .i64 m)) :
    Calls Try.prog 103 #[.string s, .string zz] w fun e w' => e = .returned (.tuple #[.string ⟨(Lib.cut s.data.toList zz.data.toList).1.toArray⟩, .string ⟨(Lib.cut s.data.toList zz.data.toList).2.1.toArray⟩, .bool (Lib.cut s.data.toList zz.data.toList).2.2]) ∧ ∃ n, w' = w.drewN n :=
  Any.strings_Cut { Try.laysCut with } s zz m w (by omega) hm

theorem Rd.to {w w' : World} {G b : Nat} {m : Int} {s : ByteArray} (h : Rd w G b m s) (hb : Below w.heap.size w w') : Rd w' G b m s := by
  obtain ⟨A, hA, r⟩ := h.blk
  exact ⟨⟨A, by rw [hb.block b h.lt]; exact hA, r⟩, h.gb, by rw [hb.cell (Nat.lt_trans h.gb h.lt)]; exact h.gm⟩

set_option maxHeartbeats 1000000 in
theorem skipText_yes (b : Nat) (m : Int) (s : ByteArray) (w : World) (R : Rd w (Try.laysCut_ren.g 1) b m s) (hs : s.size ≤ 65536) (h : txt0 s ≠ 0) :
    Calls Try.prog 91 #[.pointer (some ⟨b, 0, none⟩)] w fun e w' => e = .returned (.bool true) ∧ Chg b (b + 1) w w' ∧ Rd w' (Try.laysCut_ren.g 1) b m (from_ s (txt0 s)) := by
  have c0 := R.c0
  have f0 := R.f0
  have hlt := R.lt
  have HM : Hid _ := R.gm
  have HR : Hid (Rd _ _ _ _ _) := R
  obtain ⟨e1, e2⟩ := cut_found s h
  have E1 : Hid _ := e1
  have E2 : Hid _ := e2
  clear R e1 e2
  go_enter Try.func91, Try.ntmps91
  go_wp2_with (go_at_call 103; refine (cut_any s m _ hs HM.out).mono ?_; rintro e w1 ⟨rfl, n, rfl⟩; rw [E1.out, E2.out])
  go_ret
  exact ⟨rfl, (chg_drewN n).trans chg_set, (HR.out.drewN n).set _⟩

set_option maxHeartbeats 1000000 in
theorem skipText_no (b : Nat) (m : Int) (s : ByteArray) (w : World) (R : Rd w (Try.laysCut_ren.g 1) b m s) (hs : s.size ≤ 65536) (h : txt0 s = 0) :
    Calls Try.prog 91 #[.pointer (some ⟨b, 0, none⟩)] w fun e w' => e = .returned (.bool false) ∧ Chg b (b + 1) w w' ∧ Rd w' (Try.laysCut_ren.g 1) b m em := by
  have c0 := R.c0
  have f0 := R.f0
  have hlt := R.lt
  have HM : Hid _ := R.gm
  have HR : Hid (Rd _ _ _ _ _) := R
  obtain ⟨e1, e2⟩ := cut_missed s h
  have E1 : Hid _ := e1
  have E2 : Hid _ := e2
  clear R e1 e2
  go_enter Try.func91, Try.ntmps91
  go_wp2_with (go_at_call 103; refine (cut_any s m _ hs HM.out).mono ?_; rintro e w1 ⟨rfl, n, rfl⟩; rw [E1.out, E2.out])
  go_ret
  exact ⟨rfl, (chg_drewN n).trans chg_set, (HR.out.drewN n).set _⟩

end Go.Proofs.Ytmchpaccdnnilaa.Tr

/- What the program's reader of keys answers: a key of any kind. -/
namespace Go.Proofs.Ytmchpaccdnnilaa.Tr
open Go.RowKit
set_option linter.unusedVariables false

theorem zb0 : (0 : Int) = ((0 : UInt8).toNat : Int) := rfl
theorem zb1 : (1 : Int) = ((1 : UInt8).toNat : Int) := rfl
theorem zb4 : (4 : Int) = ((4 : UInt8).toNat : Int) := rfl
theorem zb5 : (5 : Int) = ((5 : UInt8).toNat : Int) := rfl
theorem zb6 : (6 : Int) = ((6 : UInt8).toNat : Int) := rfl

/-- What a step over a key of L bytes leaves; L = 0: there is none. -/
structure KeyR (b : Nat) (m : Int) (s : ByteArray) (L : Nat) (w : World) (e : Ending) (w' : World) : Prop where
  ret : e = .returned (.bool (decide (L ≠ 0)))
  chg : Chg b (b + 1) w w'
  rd : ∃ s', Rd w' (Try.laysCut_ren.g 1) b m s' ∧ (L ≠ 0 → s' = from_ s L)
theorem KeyR.yes {b : Nat} {m : Int} {s : ByteArray} {L : Nat} {w w' : World} (hc : Chg b (b + 1) w w') (h : Rd w' (Try.laysCut_ren.g 1) b m (from_ s L)) (h0 : L ≠ 0) : KeyR b m s L w (.returned (.bool true)) w' := ⟨by rw [decide_eq_true h0], hc, _, h, fun _ => rfl⟩
theorem KeyR.no {b : Nat} {m : Int} {s t : ByteArray} {L : Nat} {w w' : World} (hc : Chg b (b + 1) w w') (h : Rd w' (Try.laysCut_ren.g 1) b m t) (h0 : L = 0) : KeyR b m s L w (.returned (.bool false)) w' := ⟨by rw [decide_eq_false (fun e => e h0)], hc, _, h, fun e => absurd h0 e⟩
theorem KeyR.isYes {b : Nat} {m : Int} {s : ByteArray} {L : Nat} {w w' : World} {e : Ending} (h : KeyR b m s L w e w') (h0 : L ≠ 0) : e = .returned (.bool true) ∧ Chg b (b + 1) w w' ∧ Rd w' (Try.laysCut_ren.g 1) b m (from_ s L) := by
  obtain ⟨s', h1, h2⟩ := h.rd
  have := h2 h0
  subst this
  exact ⟨by rw [h.ret, decide_eq_true h0], h.chg, h1⟩
theorem KeyR.isNo {b : Nat} {m : Int} {s : ByteArray} {L : Nat} {w w' : World} {e : Ending} (h : KeyR b m s L w e w') (h0 : L = 0) : e = .returned (.bool false) ∧ Chg b (b + 1) w w' ∧ ∃ t, Rd w' (Try.laysCut_ren.g 1) b m t := by
  obtain ⟨s', h1, _⟩ := h.rd
  exact ⟨by rw [h.ret, decide_eq_false (fun e => e h0)], h.chg, s', h1⟩

def KeyAt (n : Nat) : Prop := ∀ (b : Nat) (m : Int) (s : ByteArray) (w : World), Rd w (Try.laysCut_ren.g 1) b m s → s.size ≤ n → s.size ≤ 65536 →
    Calls Try.prog 59 #[.pointer (some ⟨b, 0, none⟩)] w fun e w' => KeyR b m s (lenK n s) w e w'

def restLen (b : Nat) (w : World) : Nat := match w.cell? ⟨b, 0, none⟩ with
  | some (.string s) => s.size
  | _ => 0
theorem Rd.rest {w : World} {G b : Nat} {m : Int} {s : ByteArray} (h : Rd w G b m s) : restLen b w = s.size := by unfold restLen; rw [h.c0]

set_option maxHeartbeats 1000000 in
theorem skipItems_any (n : Nat) (ih : KeyAt n) (b : Nat) (m : Int) (s : ByteArray) (w : World) (R : Rd w (Try.laysCut_ren.g 1) b m (from_ s 1)) (hn : s.size ≤ n + 1) (hs : s.size ≤ 65536) (h0 : 0 < s.size) :
    Calls Try.prog 92 #[.pointer (some ⟨b, 0, none⟩)] w fun e w' => KeyR b m s (manyK (lenK n) false s 1) w e w' := by
  go_enter Try.func92, Try.ntmps92
  go_wp2
  go_loopw [2] (fun r wr => r = .bool false ∧ ∃ k : Nat, 1 ≤ k ∧ k ≤ s.size ∧ manyK (lenK n) false s 1 = manyK (lenK n) false s k ∧ Chg b (b + 1) w wr ∧ Rd wr (Try.laysCut_ren.g 1) b m (from_ s k)) (fun _ wr => restLen b wr)
  case atStart => exact ⟨rfl, 1, Nat.le_refl _, h0, rfl, Chg.refl _ _ _, R⟩
  case round =>
    obtain ⟨rfl, k, hk1, hk, ht, hc, hr⟩ := hrel
    have HT : Hid _ := ht
    have HC : Hid (Chg _ _ _ _) := hc
    have HR : Hid (Rd _ _ _ _ _) := hr
    have hsz : (from_ s k).size = s.size - k := from_size s k
    have hsz2 : (from_ s k).size ≤ 65536 := by omega
    have hsz3 : (from_ s k).size ≤ n := by omega
    clear ht hc hr R
    by_cases hz : ∃ h : k < s.size, s[k] = 0
    · obtain ⟨hlt, hz⟩ := hz
      have h1 : 0 < (from_ s k).size := by omega
      have HH : Hid ((from_ s k)[0] = 0) := (from_head s k hlt h1).trans hz
      have HM : Hid _ := manyK_zero (lenK n) false s k hlt hz
      clear hz
      go_wp2_with (go_at_call 90; with_reducible refine (skipByte_yes _ b m (from_ s k) 0 0 _ HR.out hsz2 h1 HH.out zb0).mono ?_; rintro e w1 ⟨rfl, g1, g2⟩)
      go_ret
      have g3 := g2
      rw [from_from s k 1 hk] at g3
      rw [HT.out, HM.out]
      exact KeyR.yes (HC.out.trans g1) g3 (by omega)
    · have HN : Hid (¬ ∃ h : 0 < (from_ s k).size, (from_ s k)[0] = 0) := fun ⟨h1, h2⟩ => hz ⟨by omega, by rw [← from_head s k (by omega) h1]; exact h2⟩
      by_cases hq0 : lenK n (from_ s k) = 0
      · have HM : Hid (manyK (lenK n) false s k = 0) := by
          by_cases hlt : k < s.size
          · exact manyK_bad (lenK n) false s k hlt (fun e => hz ⟨hlt, e⟩) hq0
          · exact manyK_end _ _ _ _ hlt
        have HQ : Hid _ := hq0
        clear hz hq0
        go_wp2_with (first | (go_at_call 90; with_reducible refine (skipByte_no _ b m (from_ s k) 0 0 _ HR.out hsz2 HN.out zb0).mono ?_; rintro e w1 ⟨rfl, rfl⟩) | (go_at_call 59; refine (ih b m (from_ s k) _ HR.out hsz3 hsz2).mono ?_; intro e w2 hkr; obtain ⟨rfl, g1, t, g2⟩ := hkr.isNo HQ.out; clear hkr))
        go_ret
        rw [HT.out, HM.out]
        exact KeyR.no (HC.out.trans g1) g2 rfl
      · have hlt : k < s.size := by
          refine Nat.lt_of_not_le (fun e => hq0 (lenK_zero n _ (by omega)))
        have HM : Hid _ := manyK_step (lenK n) false s k hlt (fun e => hz ⟨hlt, e⟩) hq0
        have hql := lenK_le n (from_ s k)
        have HQ : Hid _ := hq0
        obtain ⟨q, hq⟩ : ∃ q, q = lenK n (from_ s k) := ⟨_, rfl⟩
        have HS : Hid (stepK (lenK n) false s k hlt = q) := by rw [hq]; rfl
        have hq1 : 1 ≤ q := by omega
        have hq2 : q ≤ s.size - k := by omega
        have HE : Hid _ := hq
        clear hz hq0 hql hq
        go_wp2_with (first | (go_at_call 90; with_reducible refine (skipByte_no _ b m (from_ s k) 0 0 _ HR.out hsz2 HN.out zb0).mono ?_; rintro e w1 ⟨rfl, rfl⟩) | (go_at_call 59; refine (ih b m (from_ s k) _ HR.out hsz3 hsz2).mono ?_; intro e w2 hkr; obtain ⟨rfl, g1, g2⟩ := hkr.isYes HQ.out; clear hkr))
        go_roundw
        case rel => exact ⟨rfl, k + q, by omega, by omega, by rw [HT.out, HM.out, HS.out], HC.out.trans g1, by rw [← from_from s k q hk, HE.out]; exact g2⟩
        case measure =>
          rw [g2.rest, HR.out.rest, from_size, ← HE.out]
          omega

set_option maxHeartbeats 1000000 in
theorem skipFields_any (n : Nat) (ih : KeyAt n) (b : Nat) (m : Int) (s : ByteArray) (w : World) (R : Rd w (Try.laysCut_ren.g 1) b m (from_ s 1)) (hn : s.size ≤ n + 1) (hs : s.size ≤ 65536) (h0 : 0 < s.size) :
    Calls Try.prog 93 #[.pointer (some ⟨b, 0, none⟩)] w fun e w' => KeyR b m s (manyK (lenK n) true s 1) w e w' := by
  go_enter Try.func93, Try.ntmps93
  go_wp2
  go_loopw [2] (fun r wr => r = .bool false ∧ ∃ k : Nat, 1 ≤ k ∧ k ≤ s.size ∧ manyK (lenK n) true s 1 = manyK (lenK n) true s k ∧ Chg b (b + 1) w wr ∧ Rd wr (Try.laysCut_ren.g 1) b m (from_ s k)) (fun _ wr => restLen b wr)
  case atStart => exact ⟨rfl, 1, Nat.le_refl _, h0, rfl, Chg.refl _ _ _, R⟩
  case round =>
    obtain ⟨rfl, k, hk1, hk, ht, hc, hr⟩ := hrel
    have HT : Hid _ := ht
    have HC : Hid (Chg _ _ _ _) := hc
    have HR : Hid (Rd _ _ _ _ _) := hr
    have hsz : (from_ s k).size = s.size - k := from_size s k
    have hsz2 : (from_ s k).size ≤ 65536 := by omega
    clear ht hc hr R
    by_cases hz : ∃ h : k < s.size, s[k] = 0
    · obtain ⟨hlt, hz⟩ := hz
      have h1 : 0 < (from_ s k).size := by omega
      have HH : Hid ((from_ s k)[0] = 0) := (from_head s k hlt h1).trans hz
      have HM : Hid _ := manyK_zero (lenK n) true s k hlt hz
      clear hz
      go_wp2_with (go_at_call 90; with_reducible refine (skipByte_yes _ b m (from_ s k) 0 0 _ HR.out hsz2 h1 HH.out zb0).mono ?_; rintro e w1 ⟨rfl, g1, g2⟩)
      go_ret
      have g3 := g2
      rw [from_from s k 1 hk] at g3
      rw [HT.out, HM.out]
      exact KeyR.yes (HC.out.trans g1) g3 (by omega)
    · have HN : Hid (¬ ∃ h : 0 < (from_ s k).size, (from_ s k)[0] = 0) := fun ⟨h1, h2⟩ => hz ⟨by omega, by rw [← from_head s k (by omega) h1]; exact h2⟩
      by_cases hm : ∃ h : k < s.size, s[k] = 1
      · obtain ⟨hlt, hm⟩ := hm
        have h1 : 0 < (from_ s k).size := by omega
        have HH : Hid ((from_ s k)[0] = 1) := (from_head s k hlt h1).trans hm
        have hz0 : s[k] ≠ 0 := fun e => hz ⟨hlt, e⟩
        have hsp : (from_ s (k + 1)).size = s.size - (k + 1) := from_size s (k + 1)
        have hsp2 : (from_ s (k + 1)).size ≤ 65536 := by omega
        have HF : Hid _ := from_from s k 1 hk
        obtain ⟨p, hp⟩ : ∃ p, p = txt0 (from_ s (k + 1)) := ⟨_, rfl⟩
        by_cases hp0 : p = 0
        · have HM : Hid _ := manyK_bad (lenK n) true s k hlt hz0 (stepK_name _ s k hlt (by rw [← hp]; exact hp0))
          have HP : Hid (txt0 (from_ s (k + 1)) = 0) := by rw [← hp]; exact hp0
          clear hz hz0 hm hp hp0
          go_wp2_with (first
            | (go_at_call 90; with_reducible refine (skipByte_no _ b m (from_ s k) 0 0 _ HR.out hsz2 HN.out zb0).mono ?_; rintro e w1 ⟨rfl, rfl⟩)
            | (go_at_call 90; with_reducible refine (skipByte_yes _ b m (from_ s k) 1 1 _ HR.out hsz2 h1 HH.out zb1).mono ?_; rintro e w1 ⟨rfl, g1, g2⟩; rw [HF.out] at g2)
            | (go_at_call 91; refine (skipText_no b m _ _ g2 hsp2 HP.out).mono ?_; rintro e w2 ⟨rfl, g3, g4⟩))
          go_ret
          rw [HT.out, HM.out]
          exact KeyR.no ((HC.out.trans g1).trans g3) g4 rfl
        · have hpl : p ≤ s.size - (k + 1) := by rw [hp, ← hsp]; exact txt0_le _
          have HP : Hid (txt0 (from_ s (k + 1)) ≠ 0) := by rw [← hp]; exact hp0
          have HG : Hid (from_ (from_ s (k + 1)) (txt0 (from_ s (k + 1))) = from_ s (k + 1 + p)) := by rw [← hp, from_from s (k + 1) p (by omega)]; exact rfl
          have hsq : (from_ s (k + 1 + p)).size = s.size - (k + 1 + p) := from_size s _
          have hsq2 : (from_ s (k + 1 + p)).size ≤ 65536 := by omega
          have hsq3 : (from_ s (k + 1 + p)).size ≤ n := by omega
          by_cases hq0 : lenK n (from_ s (k + 1 + p)) = 0
          · have HM : Hid _ := manyK_bad (lenK n) true s k hlt hz0 (stepK_value _ s k p hlt hp hq0)
            have HQ : Hid _ := hq0
            clear hz hz0 hm hp hp0 hq0
            go_wp2_with (first
              | (go_at_call 90; with_reducible refine (skipByte_no _ b m (from_ s k) 0 0 _ HR.out hsz2 HN.out zb0).mono ?_; rintro e w1 ⟨rfl, rfl⟩)
              | (go_at_call 90; with_reducible refine (skipByte_yes _ b m (from_ s k) 1 1 _ HR.out hsz2 h1 HH.out zb1).mono ?_; rintro e w1 ⟨rfl, g1, g2⟩; rw [HF.out] at g2)
              | (go_at_call 91; refine (skipText_yes b m _ _ g2 hsp2 HP.out).mono ?_; rintro e w2 ⟨rfl, g3, g4⟩; rw [HG.out] at g4)
              | (go_at_call 59; refine (ih b m _ _ g4 hsq3 hsq2).mono ?_; intro e w3 hkr; obtain ⟨rfl, g5, t, g6⟩ := hkr.isNo HQ.out; clear hkr))
            go_ret
            rw [HT.out, HM.out]
            exact KeyR.no (((HC.out.trans g1).trans g3).trans g5) g6 rfl
          · obtain ⟨q, hq⟩ : ∃ q, q = lenK n (from_ s (k + 1 + p)) := ⟨_, rfl⟩
            have hst := stepK_all (lenK n) s k p q hlt hm hp hp0 hq (by rw [hq]; exact hq0)
            have HM : Hid _ := manyK_step (lenK n) true s k hlt hz0 (by rw [hst]; omega)
            have HS : Hid _ := hst
            have hql := lenK_le n (from_ s (k + 1 + p))
            have hq2 : q ≤ s.size - (k + 1 + p) := by omega
            have HQ : Hid _ := hq0
            have HE : Hid _ := hq
            clear hz hz0 hm hp hp0 hq0 hst hql hq
            go_wp2_with (first
              | (go_at_call 90; with_reducible refine (skipByte_no _ b m (from_ s k) 0 0 _ HR.out hsz2 HN.out zb0).mono ?_; rintro e w1 ⟨rfl, rfl⟩)
              | (go_at_call 90; with_reducible refine (skipByte_yes _ b m (from_ s k) 1 1 _ HR.out hsz2 h1 HH.out zb1).mono ?_; rintro e w1 ⟨rfl, g1, g2⟩; rw [HF.out] at g2)
              | (go_at_call 91; refine (skipText_yes b m _ _ g2 hsp2 HP.out).mono ?_; rintro e w2 ⟨rfl, g3, g4⟩; rw [HG.out] at g4)
              | (go_at_call 59; refine (ih b m _ _ g4 hsq3 hsq2).mono ?_; intro e w3 hkr; obtain ⟨rfl, g5, g6⟩ := hkr.isYes HQ.out; clear hkr))
            go_roundw
            case rel => exact ⟨rfl, k + (1 + p + q), by omega, by omega, by rw [HT.out, HM.out, HS.out], ((HC.out.trans g1).trans g3).trans g5, by
              have g7 := g6
              rw [from_from s (k + 1 + p) _ (by omega), ← HE.out] at g7
              rw [show k + (1 + p + q) = k + 1 + p + q by omega]; exact g7⟩
            case measure =>
              rw [g6.rest, HR.out.rest, from_size, from_size, ← HE.out, from_size]
              omega
      · have HM : Hid (manyK (lenK n) true s k = 0) := by
          by_cases hlt : k < s.size
          · exact manyK_bad (lenK n) true s k hlt (fun e => hz ⟨hlt, e⟩) (stepK_mark _ s k hlt (fun e => hm ⟨hlt, e⟩))
          · exact manyK_end _ _ _ _ hlt
        have HN1 : Hid (¬ ∃ h : 0 < (from_ s k).size, (from_ s k)[0] = 1) := fun ⟨h1, h2⟩ => hm ⟨by omega, by rw [← from_head s k (by omega) h1]; exact h2⟩
        clear hz hm
        go_wp2_with (first
          | (go_at_call 90; with_reducible refine (skipByte_no _ b m (from_ s k) 0 0 _ HR.out hsz2 HN.out zb0).mono ?_; rintro e w1 ⟨rfl, rfl⟩)
          | (go_at_call 90; with_reducible refine (skipByte_no _ b m (from_ s k) 1 1 _ HR.out hsz2 HN1.out zb1).mono ?_; rintro e w1 ⟨rfl, rfl⟩))
        go_ret
        rw [HT.out, HM.out]
        exact KeyR.no HC.out HR.out rfl

end Go.Proofs.Ytmchpaccdnnilaa.Tr

/- What the program's reader of keys answers, for every text. -/
namespace Go.Proofs.Ytmchpaccdnnilaa.Tr
open Go.RowKit
set_option linter.unusedVariables false

theorem Rd.drew {w : World} {G b : Nat} {m : Int} {s : ByteArray} (h : Rd w G b m s) : Rd w.drew G b m s := ⟨h.blk, h.gb, h.gm⟩
theorem chg_drew {w : World} {lo hi : Nat} : Chg lo hi w w.drew := ⟨rfl, rfl, rfl, Nat.le_refl _, fun _ _ _ => rfl⟩
theorem firstByte3 (w : World) : Calls Try.prog 58 #[.int .i64 3] w fun e w' => e = .returned (.int .u8 4) ∧ w' = w := by
  go_enter Try.func58, Try.ntmps58
  go_wp2
  go_ret
  exact ⟨rfl, rfl⟩
theorem firstByte4 (w : World) : Calls Try.prog 58 #[.int .i64 4] w fun e w' => e = .returned (.int .u8 5) ∧ w' = w := by
  go_enter Try.func58, Try.ntmps58
  go_wp2
  go_ret
  exact ⟨rfl, rfl⟩
theorem firstByte5 (w : World) : Calls Try.prog 58 #[.int .i64 5] w fun e w' => e = .returned (.int .u8 6) ∧ w' = w := by
  go_enter Try.func58, Try.ntmps58
  go_wp2
  go_ret
  exact ⟨rfl, rfl⟩

set_option maxHeartbeats 1000000 in
theorem skipKey_empty (b : Nat) (m : Int) (s : ByteArray) (w : World) (R : Rd w (Try.laysCut_ren.g 1) b m s) (h : s.size = 0) :
    Calls Try.prog 59 #[.pointer (some ⟨b, 0, none⟩)] w fun e w' => KeyR b m s 0 w e w' := by
  have c0 := R.c0
  have hlt := R.lt
  have HR : Hid (Rd _ _ _ _ _) := R
  obtain rfl := empty_of s h
  clear R h
  go_enter Try.func59, Try.ntmps59
  go_wp2
  go_ret
  exact KeyR.no (Chg.refl _ _ _) HR.out rfl

set_option maxHeartbeats 1000000 in
theorem skipKey_wide (b : Nat) (m : Int) (s : ByteArray) (k : Nat) (w : World) (R : Rd w (Try.laysCut_ren.g 1) b m s) (hs : s.size ≤ 65536) (h : 0 < s.size) (hk : widN s[0].toNat = k) (hk0 : 0 < k) (hk9 : k ≤ 9) :
    Calls Try.prog 59 #[.pointer (some ⟨b, 0, none⟩)] w fun e w' => KeyR b m s (if k ≤ s.size then k else 0) w e w' := by
  have c0 := R.c0
  have hlt := R.lt
  have hb := s[0].toNat_lt
  have cw := R.cw s[0].toNat (by omega)
  rw [hk] at cw
  have HR : Hid (Rd _ _ _ _ _) := R
  obtain ⟨n1, n2⟩ := ne_list s h
  clear R hk
  by_cases hks : k ≤ s.size
  · rw [if_pos hks]
    go_enter Try.func59, Try.ntmps59
    go_wp2
    go_region
    go_wp2_with (go_at_call 89; refine (skip_to _ b m s k _ _ (HR.out.drew) hs hks rfl).mono ?_; rintro e w1 ⟨rfl, g1, g2⟩)
    go_ret
    exact KeyR.yes (chg_drew.trans g1) g2 (by omega)
  · rw [if_neg hks]
    go_enter Try.func59, Try.ntmps59
    go_wp2
    go_region
    go_wp2_with (go_at_call 89; refine (skip_not _ b m s k _ _ (HR.out.drew) hs (by omega) hks rfl).mono ?_; rintro e w1 ⟨rfl, g1, g2⟩)
    go_ret
    exact KeyR.no (chg_drew.trans g1) g2 rfl

set_option maxHeartbeats 1000000 in
theorem skipKey_text (b : Nat) (m : Int) (s : ByteArray) (w : World) (R : Rd w (Try.laysCut_ren.g 1) b m s) (hs : s.size ≤ 65536) (h : 0 < s.size) (h4 : s[0] = 4) :
    Calls Try.prog 59 #[.pointer (some ⟨b, 0, none⟩)] w fun e w' => KeyR b m s (if txt0 (from_ s 1) = 0 then 0 else 1 + txt0 (from_ s 1)) w e w' := by
  have c0 := R.c0
  have hlt := R.lt
  have hb := s[0].toNat_lt
  have cw := R.cw s[0].toNat (by omega)
  rw [show widN s[0].toNat = 0 by rw [h4]; rfl] at cw
  have HR : Hid (Rd _ _ _ _ _) := R
  obtain ⟨n1, n2⟩ := ne_list s h
  have H4 : Hid _ := h4
  have hs1 : (from_ s 1).size ≤ 65536 := by rw [from_size]; omega
  have HF : Hid _ := from_from s 1 (txt0 (from_ s 1)) h
  clear R h4
  by_cases ht : txt0 (from_ s 1) = 0
  · rw [if_pos ht]
    have HT : Hid _ := ht
    clear ht
    go_enter Try.func59, Try.ntmps59
    go_wp2
    go_region
    go_wp2_with (first
      | (go_at_call 58; with_reducible refine (firstByte3 _).mono ?_; rintro e w1 ⟨rfl, rfl⟩)
      | (go_at_call 90; refine (skipByte_yes _ b m s 4 4 _ (HR.out.drew) hs h H4.out zb4).mono ?_; rintro e w1 ⟨rfl, g1, g2⟩)
      | (go_at_call 91; refine (skipText_no b m _ _ g2 hs1 HT.out).mono ?_; rintro e w2 ⟨rfl, g3, g4⟩))
    go_ret
    exact KeyR.no ((chg_drew.trans g1).trans g3) g4 rfl
  · rw [if_neg ht]
    have HT : Hid _ := ht
    clear ht
    go_enter Try.func59, Try.ntmps59
    go_wp2
    go_region
    go_wp2_with (first
      | (go_at_call 58; with_reducible refine (firstByte3 _).mono ?_; rintro e w1 ⟨rfl, rfl⟩)
      | (go_at_call 90; refine (skipByte_yes _ b m s 4 4 _ (HR.out.drew) hs h H4.out zb4).mono ?_; rintro e w1 ⟨rfl, g1, g2⟩)
      | (go_at_call 91; refine (skipText_yes b m _ _ g2 hs1 HT.out).mono ?_; rintro e w2 ⟨rfl, g3, g4⟩))
    go_ret
    have g5 := g4
    rw [HF.out] at g5
    exact KeyR.yes ((chg_drew.trans g1).trans g3) g5 (by omega)

set_option maxHeartbeats 1000000 in
theorem skipKey_list (n : Nat) (ih : KeyAt n) (b : Nat) (m : Int) (s : ByteArray) (w : World) (R : Rd w (Try.laysCut_ren.g 1) b m s) (hn : s.size ≤ n + 1) (hs : s.size ≤ 65536) (h : 0 < s.size) (h5 : s[0] = 5) :
    Calls Try.prog 59 #[.pointer (some ⟨b, 0, none⟩)] w fun e w' => KeyR b m s (manyK (lenK n) false s 1) w e w' := by
  have c0 := R.c0
  have hlt := R.lt
  have hb := s[0].toNat_lt
  have cw := R.cw s[0].toNat (by omega)
  rw [show widN s[0].toNat = 0 by rw [h5]; rfl] at cw
  have HR : Hid (Rd _ _ _ _ _) := R
  obtain ⟨n1, n2⟩ := ne_list s h
  have H5 : Hid _ := h5
  have N4 : Hid (¬ ∃ h : 0 < s.size, s[0] = 4) := fun e => by have := e.2; rw [h5] at this; cases this
  clear R h5
  go_enter Try.func59, Try.ntmps59
  go_wp2
  go_region
  go_wp2_with (first
    | (go_at_call 58; with_reducible refine (firstByte3 _).mono ?_; rintro e w1 ⟨rfl, rfl⟩)
    | (go_at_call 58; with_reducible refine (firstByte4 _).mono ?_; rintro e w1 ⟨rfl, rfl⟩)
    | (go_at_call 90; with_reducible show Calls _ _ #[_, Value.int IntKind.u8 4] _ _; refine (skipByte_no _ b m s 4 4 _ (HR.out.drew) hs N4.out zb4).mono ?_; rintro e w1 ⟨rfl, rfl⟩)
    | (go_at_call 90; with_reducible show Calls _ _ #[_, Value.int IntKind.u8 5] _ _; refine (skipByte_yes _ b m s 5 5 _ (HR.out.drew) hs h H5.out zb5).mono ?_; rintro e w1 ⟨rfl, g1, g2⟩)
    | (go_at_call 92; refine (skipItems_any n ih b m s _ g2 hn hs h).mono ?_; intro e w2 g3; obtain ⟨e1, g4, g5⟩ := g3; subst e1))
  go_ret
  exact ⟨congrArg (fun z => Ending.returned (.bool z)) (by simp), (chg_drew.trans g1).trans g4, g5⟩

set_option maxHeartbeats 1000000 in
theorem skipKey_doc (n : Nat) (ih : KeyAt n) (b : Nat) (m : Int) (s : ByteArray) (w : World) (R : Rd w (Try.laysCut_ren.g 1) b m s) (hn : s.size ≤ n + 1) (hs : s.size ≤ 65536) (h : 0 < s.size) (h6 : s[0] = 6) :
    Calls Try.prog 59 #[.pointer (some ⟨b, 0, none⟩)] w fun e w' => KeyR b m s (manyK (lenK n) true s 1) w e w' := by
  have c0 := R.c0
  have hlt := R.lt
  have hb := s[0].toNat_lt
  have cw := R.cw s[0].toNat (by omega)
  rw [show widN s[0].toNat = 0 by rw [h6]; rfl] at cw
  have HR : Hid (Rd _ _ _ _ _) := R
  obtain ⟨n1, n2⟩ := ne_list s h
  have H6 : Hid _ := h6
  have N4 : Hid (¬ ∃ h : 0 < s.size, s[0] = 4) := fun e => by have := e.2; rw [h6] at this; cases this
  have N5 : Hid (¬ ∃ h : 0 < s.size, s[0] = 5) := fun e => by have := e.2; rw [h6] at this; cases this
  clear R h6
  go_enter Try.func59, Try.ntmps59
  go_wp2
  go_region
  go_wp2_with (first
    | (go_at_call 58; with_reducible refine (firstByte3 _).mono ?_; rintro e w1 ⟨rfl, rfl⟩)
    | (go_at_call 58; with_reducible refine (firstByte4 _).mono ?_; rintro e w1 ⟨rfl, rfl⟩)
    | (go_at_call 58; with_reducible refine (firstByte5 _).mono ?_; rintro e w1 ⟨rfl, rfl⟩)
    | (go_at_call 90; with_reducible show Calls _ _ #[_, Value.int IntKind.u8 4] _ _; refine (skipByte_no _ b m s 4 4 _ (HR.out.drew) hs N4.out zb4).mono ?_; rintro e w1 ⟨rfl, rfl⟩)
    | (go_at_call 90; with_reducible show Calls _ _ #[_, Value.int IntKind.u8 5] _ _; refine (skipByte_no _ b m s 5 5 _ (HR.out.drew) hs N5.out zb5).mono ?_; rintro e w1 ⟨rfl, rfl⟩)
    | (go_at_call 90; with_reducible show Calls _ _ #[_, Value.int IntKind.u8 6] _ _; refine (skipByte_yes _ b m s 6 6 _ (HR.out.drew) hs h H6.out zb6).mono ?_; rintro e w1 ⟨rfl, g1, g2⟩)
    | (go_at_call 93; refine (skipFields_any n ih b m s _ g2 hn hs h).mono ?_; intro e w2 g3; obtain ⟨e1, g4, g5⟩ := g3; subst e1))
  go_ret
  exact ⟨congrArg (fun z => Ending.returned (.bool z)) (by simp), (chg_drew.trans g1).trans g4, g5⟩

set_option maxHeartbeats 1000000 in
theorem skipKey_none (b : Nat) (m : Int) (s : ByteArray) (w : World) (R : Rd w (Try.laysCut_ren.g 1) b m s) (hs : s.size ≤ 65536) (h : 0 < s.size) (hw : widN s[0].toNat = 0) (n4 : s[0] ≠ 4) (n5 : s[0] ≠ 5) (n6 : s[0] ≠ 6) :
    Calls Try.prog 59 #[.pointer (some ⟨b, 0, none⟩)] w fun e w' => KeyR b m s 0 w e w' := by
  have c0 := R.c0
  have hlt := R.lt
  have hb := s[0].toNat_lt
  have cw := R.cw s[0].toNat (by omega)
  rw [hw] at cw
  have HR : Hid (Rd _ _ _ _ _) := R
  obtain ⟨n1, n2⟩ := ne_list s h
  have N4 : Hid (¬ ∃ h : 0 < s.size, s[0] = 4) := fun e => n4 e.2
  have N5 : Hid (¬ ∃ h : 0 < s.size, s[0] = 5) := fun e => n5 e.2
  have N6 : Hid (¬ ∃ h : 0 < s.size, s[0] = 6) := fun e => n6 e.2
  clear R hw n4 n5 n6
  go_enter Try.func59, Try.ntmps59
  go_wp2
  go_region
  go_wp2_with (first
    | (go_at_call 58; with_reducible refine (firstByte3 _).mono ?_; rintro e w1 ⟨rfl, rfl⟩)
    | (go_at_call 58; with_reducible refine (firstByte4 _).mono ?_; rintro e w1 ⟨rfl, rfl⟩)
    | (go_at_call 58; with_reducible refine (firstByte5 _).mono ?_; rintro e w1 ⟨rfl, rfl⟩)
    | (go_at_call 90; with_reducible show Calls _ _ #[_, Value.int IntKind.u8 4] _ _; refine (skipByte_no _ b m s 4 4 _ (HR.out.drew) hs N4.out zb4).mono ?_; rintro e w1 ⟨rfl, rfl⟩)
    | (go_at_call 90; with_reducible show Calls _ _ #[_, Value.int IntKind.u8 5] _ _; refine (skipByte_no _ b m s 5 5 _ (HR.out.drew) hs N5.out zb5).mono ?_; rintro e w1 ⟨rfl, rfl⟩)
    | (go_at_call 90; with_reducible show Calls _ _ #[_, Value.int IntKind.u8 6] _ _; refine (skipByte_no _ b m s 6 6 _ (HR.out.drew) hs N6.out zb6).mono ?_; rintro e w1 ⟨rfl, rfl⟩))
  go_ret
  exact KeyR.no chg_drew (HR.out.drew) rfl

theorem skipKey_at : ∀ n, KeyAt n
  | 0 => fun b m s w R hn hs => skipKey_empty b m s w R (by omega)
  | n + 1 => fun b m s w R hn hs => by
    have ih := skipKey_at n
    by_cases h : 0 < s.size
    · rw [lenK_pos n s h]
      by_cases h1 : s[0] = 1
      · rw [if_pos h1]
        have := skipKey_wide b m s 1 w R hs h (by rw [h1]; rfl) (by omega) (by omega)
        rwa [if_pos (show 1 ≤ s.size from h)] at this
      rw [if_neg h1]
      by_cases h2 : s[0] = 2
      · rw [if_pos h2]
        exact skipKey_wide b m s 2 w R hs h (by rw [h2]; rfl) (by omega) (by omega)
      rw [if_neg h2]
      by_cases h3 : s[0] = 3
      · rw [if_pos h3]
        exact skipKey_wide b m s 9 w R hs h (by rw [h3]; rfl) (by omega) (by omega)
      rw [if_neg h3]
      by_cases h4 : s[0] = 4
      · rw [if_pos h4]
        exact skipKey_text b m s w R hs h h4
      rw [if_neg h4]
      by_cases h5 : s[0] = 5
      · rw [if_pos h5]
        exact skipKey_list n ih b m s w R hn hs h h5
      rw [if_neg h5]
      by_cases h6 : s[0] = 6
      · rw [if_pos h6]
        exact skipKey_doc n ih b m s w R hn hs h h6
      rw [if_neg h6]
      refine skipKey_none b m s w R hs h ?_ h4 h5 h6
      have e : ∀ c : UInt8, s[0] ≠ c → s[0].toNat ≠ c.toNat := fun c hc he => hc (UInt8.toNat_inj.mp he)
      have e1 : s[0].toNat ≠ 1 := e 1 h1
      have e2 : s[0].toNat ≠ 2 := e 2 h2
      have e3 : s[0].toNat ≠ 3 := e 3 h3
      unfold widN
      rw [if_neg e1, if_neg e2, if_neg e3]
    · rw [lenK_zero (n + 1) s (by omega)]
      exact skipKey_empty b m s w R (by omega)

theorem pre_len (s : ByteArray) (L : Nat) (h : L ≤ s.size) : (s.extract 0 L).size = L := by simp; omega

set_option maxHeartbeats 1000000 in
theorem take_yes (n b : Nat) (m : Int) (s : ByteArray) (w : World) (R : Rd w (Try.laysCut_ren.g 1) b m s) (hn : s.size ≤ n) (hs : s.size ≤ 65536) (L : Nat) (hL : lenK n s = L) (h0 : L ≠ 0) :
    Calls Try.prog 26 #[.pointer (some ⟨b, 0, none⟩)] w fun e w' => e = .returned (.tuple #[.string (s.extract 0 L), .bool true]) ∧ Chg b (b + 1) w w' ∧ Rd w' (Try.laysCut_ren.g 1) b m (from_ s L) := by
  have c0 := R.c0
  have hlt := R.lt
  have HR : Hid (Rd _ _ _ _ _) := R
  have hLs : L ≤ s.size := by rw [← hL]; exact lenK_le n s
  have HK : Hid _ := hL
  have hfs : (from_ s L).size = s.size - L := from_size s L
  have hps : (s.extract 0 L).size ≤ 1048576 := by rw [pre_len s L hLs]; omega
  clear R hL
  go_enter Try.func26, Try.ntmps26
  go_wp2_with (go_at_call 59; refine (skipKey_at n b m s _ HR.out hn hs).mono ?_; intro e w1 hkr; obtain ⟨rfl, g1, g2⟩ := hkr.isYes (by rw [HK.out]; exact h0); clear hkr; rw [HK.out] at g2; have d0 := g2.c0; have dl := g2.lt; have G2 : Hid (Rd _ _ _ _ _) := g2; have hsub : ((s.size : Int) - ((from_ s L).size : Int)) = (L : Int) := by omega)
  rw [show s.size - (s.size - L) = L by omega]
  refine (strClone_any (s.extract 0 L) _ hps).mono ?_
  rintro e w2 ⟨rfl, hb⟩
  go_wp2_with fail
  go_ret2
  exact ⟨rfl, g1.trans (Chg.of_below hb), G2.out.to hb⟩

set_option maxHeartbeats 1000000 in
theorem take_no (n b : Nat) (m : Int) (s : ByteArray) (w : World) (R : Rd w (Try.laysCut_ren.g 1) b m s) (hn : s.size ≤ n) (hs : s.size ≤ 65536) (h0 : lenK n s = 0) :
    Calls Try.prog 26 #[.pointer (some ⟨b, 0, none⟩)] w fun e w' => e = .returned (.tuple #[.string em, .bool false]) ∧ Chg b (b + 1) w w' := by
  have c0 := R.c0
  have hlt := R.lt
  have HR : Hid (Rd _ _ _ _ _) := R
  have HK : Hid _ := h0
  clear R h0
  go_enter Try.func26, Try.ntmps26
  go_wp2_with (go_at_call 59; refine (skipKey_at n b m s _ HR.out hn hs).mono ?_; intro e w1 hkr; obtain ⟨rfl, g1, t, g2⟩ := hkr.isNo HK.out; clear hkr)
  go_ret2
  exact ⟨rfl, g1⟩

end Go.Proofs.Ytmchpaccdnnilaa.Tr

/- What the making of a reader of keys answers. -/
namespace Go.Proofs.Ytmchpaccdnnilaa.Tr
open Go.RowKit
set_option linter.unusedVariables false
set_option linter.unusedSimpArgs false

theorem zcells : Try.zeroCells57 = #[.string em] ++ Array.replicate 256 (.int .i64 0) := by kernel_rfl
theorem firstByte0 (w : World) : Calls Try.prog 58 #[.int .i64 0] w fun e w' => e = .returned (.int .u8 1) ∧ w' = w := by
  go_enter Try.func58, Try.ntmps58
  go_wp2
  go_ret
  exact ⟨rfl, rfl⟩

theorem firstByte1 (w : World) : Calls Try.prog 58 #[.int .i64 1] w fun e w' => e = .returned (.int .u8 2) ∧ w' = w := by
  go_enter Try.func58, Try.ntmps58
  go_wp2
  go_ret
  exact ⟨rfl, rfl⟩
theorem firstByte2 (w : World) : Calls Try.prog 58 #[.int .i64 2] w fun e w' => e = .returned (.int .u8 3) ∧ w' = w := by
  go_enter Try.func58, Try.ntmps58
  go_wp2
  go_ret
  exact ⟨rfl, rfl⟩

/-- A reader's cells, k of its widths set. -/
noncomputable def rd0 (s : ByteArray) : Array Value := Try.zeroCells57.setIfInBounds 0 (.string s)
noncomputable def rd1 (s : ByteArray) : Array Value := (rd0 s).setIfInBounds 2 (.int .i64 1)
noncomputable def rd2 (s : ByteArray) : Array Value := (rd1 s).setIfInBounds 3 (.int .i64 2)
noncomputable def rd3 (s : ByteArray) : Array Value := (rd2 s).setIfInBounds 4 (.int .i64 9)
theorem rdA_0 (s : ByteArray) : (rd3 s)[0]? = some (.string s) := by simp [rd3, rd2, rd1, rd0, zcells]
theorem rdA_w (s : ByteArray) (i : Nat) (h : i < 256) : (rd3 s)[1 + i]? = some (.int .i64 (widN i)) := by
  by_cases h1 : i = 1
  · subst h1; simp [rd3, rd2, rd1, rd0, zcells, widN]
  by_cases h2 : i = 2
  · subst h2; simp [rd3, rd2, rd1, rd0, zcells, widN]
  by_cases h3 : i = 3
  · subst h3; simp [rd3, rd2, rd1, rd0, zcells, widN]
  have hw : widN i = 0 := by unfold widN; rw [if_neg h1, if_neg h2, if_neg h3]
  rw [hw]
  show (((rd0 s).setIfInBounds 2 _ |>.setIfInBounds 3 _).setIfInBounds 4 _)[1 + i]? = _
  rw [Array.getElem?_setIfInBounds_ne (by omega), Array.getElem?_setIfInBounds_ne (by omega), Array.getElem?_setIfInBounds_ne (by omega)]
  show (Try.zeroCells57.setIfInBounds 0 (.string s))[1 + i]? = _
  rw [Array.getElem?_setIfInBounds_ne (by omega), zcells, Array.getElem?_append_right (by simp)]
  simp [Array.getElem?_replicate, h]
theorem drew_set {w1 : World} {b o : Nat} {v : Value} {A : Array Value} {T : TypeId} (hh : w1.heap[b]? = some (.cells A T)) : ((w1.setCell ⟨b, o, none⟩ v).drew).heap[b]? = some (.cells (A.setIfInBounds o v) T) := set_blockR hh
theorem below_drew_set {w w1 : World} {o : Nat} {v : Value} (h : Below w.heap.size w w1) : Below w.heap.size w ((w1.setCell ⟨w.heap.size, o, none⟩ v).drew) := by (repeat (first | (with_reducible exact Below.refl _ _) | (with_reducible assumption) | (with_reducible apply below_drewN) | (with_reducible apply Below.drew) | ((with_reducible refine Below.setCell ?_ ?_ _); rotate_left; focus (first | (simp; done) | (simp; omega) | omega)) | ((with_reducible refine Below.alloc ?_ ?_ _); rotate_left; focus (first | (simp; done) | (simp; omega) | omega))))

set_option maxRecDepth 8000 in
set_option maxHeartbeats 1000000 in
theorem newReader_any (G : Nat) (m : Int) (s : ByteArray) (w : World) (hg : G < w.heap.size) (hm : w.cell? ⟨G, 0, none⟩ = some (.int .i64 m)) :
    Calls Try.prog 25 #[.string s] w fun e w' => e = .returned (.pointer (some ⟨w.heap.size, 0, none⟩)) ∧ Below w.heap.size w w' ∧ Rd w' G w.heap.size m s := by
  have HG : Hid _ := hm
  clear hm
  go_enter Try.func25, Try.ntmps25
  go_wp2
  obtain ⟨w1, hw1⟩ : ∃ w1, w1 = w.alloc (.cells (Try.zeroCells57.setIfInBounds 0 (.string s)) 57) := ⟨_, rfl⟩
  rw [← hw1]
  have hh : w1.heap[w.heap.size]? = some (.cells (rd0 s) 57) := by rw [hw1]; exact heap_alloc_new w _
  have hb1 : Below w.heap.size w w1 := by rw [hw1]; exact (Below.refl _ _).alloc (Nat.le_refl _) _
  have c2 : w1.cell? ⟨w.heap.size, 2, none⟩ = some (.int .i64 0) := by simp [World.cell?, hh, rd3, rd2, rd1, rd0, zcells]
  have f2 : w1.frozen? ⟨w.heap.size, 2, none⟩ = false := by simp [World.frozen?, hh]
  have HB : Hid (Below _ _ _) := hb1
  have HH : Hid _ := hh
  clear hh hw1 hb1
  go_region_with (go_at_call 58; refine (firstByte0 _).mono ?_; rintro e w2 ⟨rfl, rfl⟩)
  obtain ⟨w2, hw2⟩ : ∃ w2, w2 = (w1.setCell ⟨w.heap.size, 2, none⟩ (.int .i64 1)).drew := ⟨_, rfl⟩
  rw [← hw2]
  have hh2 : w2.heap[w.heap.size]? = some (.cells (rd1 s) 57) := by rw [hw2]; exact drew_set HH.out
  have hb2 : Below w.heap.size w w2 := by rw [hw2]; exact below_drew_set HB.out
  have c3 : w2.cell? ⟨w.heap.size, 3, none⟩ = some (.int .i64 0) := by simp [World.cell?, hh2, rd3, rd2, rd1, rd0, zcells]
  have f3 : w2.frozen? ⟨w.heap.size, 3, none⟩ = false := by simp [World.frozen?, hh2]
  have HB2 : Hid (Below _ _ _) := hb2
  have HH2 : Hid _ := hh2
  clear hh2 hw2 hb2 c2 f2
  go_wp2_with fail
  go_region_with (go_at_call 58; refine (firstByte1 _).mono ?_; rintro e w3 ⟨rfl, rfl⟩)
  obtain ⟨w3, hw3⟩ : ∃ w3, w3 = (w2.setCell ⟨w.heap.size, 3, none⟩ (.int .i64 2)).drew := ⟨_, rfl⟩
  rw [← hw3]
  have hh3 : w3.heap[w.heap.size]? = some (.cells (rd2 s) 57) := by rw [hw3]; exact drew_set HH2.out
  have hb3 : Below w.heap.size w w3 := by rw [hw3]; exact below_drew_set HB2.out
  have c4 : w3.cell? ⟨w.heap.size, 4, none⟩ = some (.int .i64 0) := by simp [World.cell?, hh3, rd3, rd2, rd1, rd0, zcells]
  have f4 : w3.frozen? ⟨w.heap.size, 4, none⟩ = false := by simp [World.frozen?, hh3]
  have HB3 : Hid (Below _ _ _) := hb3
  have HH3 : Hid _ := hh3
  clear hh3 hw3 hb3 c3 f3
  go_wp2_with fail
  go_region_with (go_at_call 58; refine (firstByte2 _).mono ?_; rintro e w4 ⟨rfl, rfl⟩)
  obtain ⟨w4, hw4⟩ : ∃ w4, w4 = (w3.setCell ⟨w.heap.size, 4, none⟩ (.int .i64 9)).drew := ⟨_, rfl⟩
  rw [← hw4]
  have hh4 : w4.heap[w.heap.size]? = some (.cells (rd3 s) 57) := by rw [hw4]; exact drew_set HH3.out
  have hb4 : Below w.heap.size w w4 := by rw [hw4]; exact below_drew_set HB3.out
  have HB4 : Hid (Below _ _ _) := hb4
  have HH4 : Hid _ := hh4
  clear hh4 hw4 hb4 c4 f4
  go_wp2_with fail
  go_ret
  exact ⟨rfl, HB4.out, ⟨⟨rd3 s, HH4.out, rdA_0 s, rdA_w s⟩, hg, by rw [HB4.out.cell hg]; exact HG.out⟩⟩

end Go.Proofs.Ytmchpaccdnnilaa.Tr

/- What the program's parting of a text into keys answers. -/
namespace Go.Proofs.Ytmchpaccdnnilaa.Tr
open Go.RowKit
set_option linter.unusedVariables false

theorem Rd.grown {w w' : World} {G b : Nat} {m : Int} {s : ByteArray} {row : Option Nat} (h : Rd w G b m s) (hg : w.grownBy w' row) (hr : ∀ g, row = some g → b < g) : Rd w' G b m s := by
  have hc : Chg (b + 1) (w'.heap.size + w.heap.size + b + 2) w w' := ⟨hg.os, hg.tape, hg.output, hg.size, fun k hk ho => hg.block k hk (fun e => by have := hr k e.symm; omega)⟩
  obtain ⟨A, hA, r⟩ := h.blk
  exact ⟨⟨A, by rw [hc.block b h.lt (.inl (by omega))]; exact hA, r⟩, h.gb, by rw [hc.cell (Nat.lt_trans h.gb h.lt) (.inl (by have := h.gb; omega))]; exact h.gm⟩
theorem own_none (w : World) (base : Nat) : OwnS w base (.slice none 0 0) [] := ⟨rfl, .inl ⟨rfl, rfl⟩⟩
theorem OwnS.low {w : World} {b1 b2 : Nat} {v : Value} {l : List ByteArray} (h : OwnS w b1 v l) (hb : b2 ≤ b1) : OwnS w b2 v l := by
  obtain ⟨h1, h2⟩ := h
  refine ⟨h1, ?_⟩
  rcases h2 with h2 | ⟨g, cap, cur, hv, hg, r⟩
  · exact .inl h2
  · exact .inr ⟨g, cap, cur, hv, Nat.le_trans hb hg, r⟩

set_option maxRecDepth 4000 in
set_option maxHeartbeats 1000000 in
theorem implSplit_any (s : ByteArray) (n : Int) (m : Int) (w : World) (hs : s.size ≤ 1048576) (hg : Try.laysCut_ren.g 1 < w.heap.size) (hm : w.cell? ⟨Try.laysCut_ren.g 1, 0, none⟩ = some (.int .i64 m)) :
    Calls Try.prog 10 #[.string s, .int .i64 n] w fun e w' => SplR s n w e w' := by
  obtain ⟨i0, hi, hz0, hz1, hz2⟩ := info_parts infoStr
  by_cases hl : 65536 < s.size
  · go_enter Try.func10, Try.ntmps10
    go_wp2
    go_ret2
    exact SplR.long hl (own_none _ _) (Below.refl _ _)
  have hs2 : s.size ≤ 65536 := by omega
  by_cases hn : 0 ≤ n ∧ n ≤ 8
  · obtain ⟨N, rfl⟩ : ∃ N : Nat, n = N := ⟨n.toNat, by omega⟩
    have hN8 : N ≤ 8 := by omega
    have hnn : ((N : Int)).toNat = N := by omega
    have HN : Hid _ := hn
    have HM0 : Hid _ := hm
    have HG : Hid _ := hg
    clear hn hm hg
    go_enter Try.func10, Try.ntmps10
    go_wp2_with (go_at_call 25; refine (newReader_any _ m s _ HG.out HM0.out).mono ?_; rintro e w1 ⟨rfl, hb1, hr1⟩)
    have hz1' := hr1.lt
    go_loopw [6, 22] (fun o i wr => ∃ (k : Nat) (done : List ByteArray) (rest : ByteArray), i = .int .i64 k ∧ Mid s N k done rest ∧ OwnS wr (w.heap.size + 1) o done ∧ Below w.heap.size w wr ∧ Rd wr (Try.laysCut_ren.g 1) w.heap.size m rest) (fun _ i _ => N - (intOf i).toNat)
    case atStart => exact ⟨0, [], s, rfl, Mid.start s N, own_none _ _, hb1, hr1⟩
    case round =>
      obtain ⟨k, done, rest, rfl, hM, hown, hbel, hrd⟩ := hrel
      clear hb1 hr1 hz1'
      have HM : Hid (Mid _ _ _ _ _) := hM
      have HO : Hid (OwnS _ _ _ _) := hown
      have HB : Hid (Below _ _ _) := hbel
      have HR : Hid (Rd _ _ _ _ _) := hrd
      have hdl := hM.1
      have hkN := hM.2.1
      have hrs := hM.2.2.1
      have hz := hbel.size
      have hrl := hrd.lt
      have c0 := hrd.c0
      clear hM hown hbel hrd
      by_cases hlt : k < N
      · obtain ⟨L, hL⟩ : ∃ L, lenK s.size rest = L := ⟨_, rfl⟩
        have HL : Hid _ := hL
        clear hL
        by_cases hL0 : L = 0
        · go_wp2_with (go_at_call 26; refine (take_no s.size _ m rest _ HR.out hrs (by omega) (HL.out.trans hL0)).mono ?_; rintro e w2 ⟨rfl, g1⟩)
          go_ret2
          exact SplR.form hl HN.out (by rw [hnn]; exact HM.out.bad hlt (HL.out.trans hL0)) (own_none _ _) (HB.out.trans (g1.below (Nat.le_refl _) (by omega)))
        · go_wp2_with (first
            | (go_at_call 26; refine (take_yes s.size _ m rest _ HR.out hrs (by omega) L HL.out hL0).mono ?_; rintro e w2 ⟨rfl, g1, g2⟩; have hrow := g1.owns HO.out (fun g hg => .inr (HO.out.lt g hg).1); have hzz := g1.size; have G1 : Hid (Chg _ _ _ _) := g1; have G2 : Hid (Rd _ _ _ _ _) := g2; have hgl := g2.lt; clear g1 g2)
            | (at_builtin; refine wpList_append_own _ rfl (.tmp 31) (.tmp 33) 31 rfl (w.heap.size + 1) 9 i0 (.string ByteArray.empty) 1 16 Try.underlying31 hi hz0 hz1 hz2 rfl (by decide) _ _ _ rfl (hrow.alloc _) ⟨_, 0, none⟩ 1 1 [.string (rest.extract 0 L)] rfl rfl ?c1 ?c2 ?c3 ?c4 ?c5 ?_))
          case c1 =>
            intro j u hj
            match j, hj with
            | 0, hj => simp at hj; subst hj; simp [Addr.add, go_sem]
            | j + 1, hj => simp at hj
          case c2 => intro u hu; simp at hu; subst hu; rfl
          case c3 => unfold maxLen; omega
          case c4 => omega
          case c5 => simp; omega
          intro v' w3 hown2 hgrow hnv
          have hb2 : Below w.heap.size w w2 := HB.out.trans (G1.out.below (Nat.le_refl _) (by omega))
          have hb3 : Below w.heap.size w w3 := Below.grown (hb2.alloc (by omega) _) hgrow (by simp; omega) (fun b hb => by have := (hrow.lt b hb).1; omega)
          have hr3 : Rd w3 (Try.laysCut_ren.g 1) w.heap.size m (from_ rest L) := Rd.grown (G2.out.to ((Below.refl _ _).alloc (Nat.le_refl _) _)) hgrow (fun b hb => by have := (hrow.lt b hb).1; omega)
          have HR3 : Hid (Rd _ _ _ _ _) := hr3
          have HO2 : Hid (OwnS w3 (w.heap.size + 1) v' (done ++ [rest.extract 0 L])) := by unfold OwnS; rw [strV_app, List.length_append, hdl]; exact hown2
          clear hgrow hrow hown2 hnv hr3
          go_wp2_with fail
          go_roundw
          case rel => exact ⟨k + 1, _, _, by go_num, HM.out.next hlt L HL.out hL0, HO2.out, hb3, HR3.out⟩
          case measure => simp [intOf]; omega
      · obtain rfl : k = N := by omega
        by_cases h0 : 0 < rest.size
        · obtain ⟨n1, n2⟩ := ne_list2 rest h0
          go_wp2
          go_ret2
          exact SplR.form hl HN.out (by rw [hnn]; exact HM.out.left h0) (own_none _ _) HB.out
        · have hr0 : rest.size = 0 := by omega
          have HF : Hid _ := HM.out.fin hr0
          obtain rfl := empty_of rest hr0
          go_wp2
          go_ret2
          exact SplR.good hl HN.out (by rw [hnn]; exact HF.out) (HO.out.low (by omega)) HB.out
  · by_cases hn0 : n < 0
    · go_enter Try.func10, Try.ntmps10
      go_wp2
      go_ret2
      exact SplR.range hl hn (own_none _ _) (Below.refl _ _)
    · have hn8 : 8 < n := by omega
      go_enter Try.func10, Try.ntmps10
      go_wp2
      go_ret2
      exact SplR.range hl hn (own_none _ _) (Below.refl _ _)

end Go.Proofs.Ytmchpaccdnnilaa.Tr

/- Bytes that come in as a law's code: where they lie, and each is one. -/
namespace Go.Proofs.Ytmchpaccdnnilaa
open Go.RowKit
set_option linter.unusedVariables false

theorem wf_byte {n : Int} (h : (Lit.int .u8 n).wf = true) : 0 ≤ n ∧ n < 256 := by
  unfold Lit.wf at h
  rw [Bool.and_eq_true, decide_eq_true_eq, decide_eq_true_eq] at h
  have h1 : IntKind.u8.min = 0 := by decide
  have h2 : IntKind.u8.max = 255 := by decide
  rw [h1, h2] at h
  omega
theorem inc_of {w : World} {x : Addr} {l c : Nat} {zs : List Int} (hl : l ≤ c) (hm : c ≤ maxLen) (hz : zs.length = c) (hcell : ∀ i, i < zs.length → w.cell? (x.add i) = some (.int .u8 (zs.getD i 0))) (hwf : ∀ n ∈ zs, (Lit.int .u8 n).wf = true) :
    ∃ ys : List Int, ys.length = l ∧ ys.length ≤ maxLen ∧ (∀ i, i < ys.length → 0 ≤ ys.getD i 0 ∧ ys.getD i 0 < 256) ∧ InB w (some x) ys := by
  have hlen : (zs.take l).length = l := by simp; omega
  refine ⟨zs.take l, hlen, by omega, ?_, ?_⟩
  · intro i hi
    rw [gd (zs.take l) i hi, List.getElem_take]
    exact wf_byte (hwf _ (List.getElem_mem _))
  by_cases h0 : l = 0
  · exact .inl (by simp [h0])
  · obtain ⟨b, off, spot⟩ := x
    have hc0 := hcell 0 (by omega)
    have hspot : spot = none := by simpa [Addr.add] using World.cell?_spot hc0
    subst hspot
    have hlt : b < w.heap.size := by
      rcases Nat.lt_or_ge b w.heap.size with h | h
      · exact h
      · simp [World.cell?, Addr.add, Array.getElem?_eq_none h] at hc0
    refine .inr ⟨b, off, rfl, hlt, fun i hi => ?_⟩
    have hi2 : i < l := by omega
    have := hcell i (by omega)
    rw [gd (zs.take l) i hi, List.getElem_take, ← gd zs i (by omega), ← this]
    by_cases hi0 : i = 0
    · subst hi0; simp [Addr.add]
    · simp [Addr.add, hi0]

end Go.Proofs.Ytmchpaccdnnilaa
