/- What the program's reader of keys answers: its steps. -/
import Derived.Test.YtmchpaccdnnilaaSplS
import Derived.Test.YtmchpaccdnnilaaSplC
import Derived.Test.YtmchpaccdnnilaaTrC
import Derived.Test.YtmchpaccdnnilaaTrN
import Derived.Test.YtmchpaccdnnilaaLayC
namespace Go.Proofs.Ytmchpaccdnnilaa.Tr
open Go.RowKit
set_option linter.unusedVariables false

def widN (i : Nat) : Nat := if i = 1 then 1 else if i = 2 then 2 else if i = 3 then 9 else 0
/-- A reader, with what it has still to read. -/
structure Rd (w : World) (G b : Nat) (m : Int) (s : ByteArray) : Prop where
  blk : ∃ A : Array Value, w.heap[b]? = some (.cells A 57) ∧ A[0]? = some (.string s) ∧ ∀ i, i < 256 → A[1 + i]? = some (.int .i64 (widN i))
  gb : G < b
  gm : w.cell? ⟨G, 0, none⟩ = some (.int .i64 m)
theorem Rd.lt {w : World} {G b : Nat} {m : Int} {s : ByteArray} (h : Rd w G b m s) : b < w.heap.size := by
  obtain ⟨A, hA, _⟩ := h.blk
  exact (Array.getElem?_eq_some_iff.1 hA).1
theorem Rd.c0 {w : World} {G b : Nat} {m : Int} {s : ByteArray} (h : Rd w G b m s) : w.cell? ⟨b, 0, none⟩ = some (.string s) := by
  obtain ⟨A, hA, h0, _⟩ := h.blk
  simp [World.cell?, hA, h0]
theorem Rd.cw {w : World} {G b : Nat} {m : Int} {s : ByteArray} (h : Rd w G b m s) (i : Nat) (hi : i < 256) : w.cell? ⟨b, 1 + i, none⟩ = some (.int .i64 (widN i)) := by
  obtain ⟨A, hA, _, h1⟩ := h.blk
  simp [World.cell?, hA, h1 i hi]
theorem Rd.f0 {w : World} {G b : Nat} {m : Int} {s : ByteArray} (h : Rd w G b m s) : w.frozen? ⟨b, 0, none⟩ = false := by
  obtain ⟨A, hA, _⟩ := h.blk
  simp [World.frozen?, hA]
theorem set_blockR {w : World} {g o : Nat} {v : Value} {c : Array Value} {T : TypeId} (h : w.heap[g]? = some (.cells c T)) : (w.setCell ⟨g, o, none⟩ v).heap[g]? = some (.cells (c.setIfInBounds o v) T) := by
  simp [World.setCell, Array.getElem?_modify, h]
theorem chg_set {w : World} {b o : Nat} {v : Value} : Chg b (b + 1) w (w.setCell ⟨b, o, none⟩ v) := Chg.of_grown grown_set (fun c e => by injection e with e; omega)
theorem Rd.set {w : World} {G b : Nat} {m : Int} {s : ByteArray} (h : Rd w G b m s) (t : ByteArray) : Rd (w.setCell ⟨b, 0, none⟩ (.string t)) G b m t := by
  have hgl : G < w.heap.size := Nat.lt_trans h.gb h.lt
  refine ⟨?_, h.gb, ?_⟩
  · obtain ⟨A, hA, h0, h1⟩ := h.blk
    have hz : 0 < A.size := (Array.getElem?_eq_some_iff.1 h0).1
    refine ⟨_, set_blockR hA, by simp [hz], fun i hi => ?_⟩
    rw [Array.getElem?_setIfInBounds_ne (by omega)]
    exact h1 i hi
  · rw [chg_set.cell hgl (.inl h.gb)]; exact h.gm
theorem Rd.drewN {w : World} {G b : Nat} {m : Int} {s : ByteArray} (h : Rd w G b m s) (n : Nat) : Rd (w.drewN n) G b m s := ⟨h.blk, h.gb, h.gm⟩
theorem chg_drewN {w : World} {lo hi : Nat} (n : Nat) : Chg lo hi w (w.drewN n) := ⟨rfl, rfl, rfl, Nat.le_refl _, fun _ _ _ => rfl⟩

set_option maxHeartbeats 1000000 in
theorem skip_any (G b : Nat) (m : Int) (s : ByteArray) (k : Nat) (w : World) (R : Rd w G b m s) (hs : s.size ≤ 65536) (hk : k ≤ 65536) :
    Calls Try.prog 89 #[.pointer (some ⟨b, 0, none⟩), .int .i64 k] w fun e w' => e = .returned (.bool (decide (k ≤ s.size))) ∧ Chg b (b + 1) w w' ∧ Rd w' G b m (if k ≤ s.size then from_ s k else s) := by
  have c0 := R.c0
  have f0 := R.f0
  have hlt := R.lt
  have HR : Hid (Rd _ _ _ _ _) := R
  clear R
  by_cases h : k ≤ s.size
  · rw [decide_eq_true h, if_pos h]
    go_enter Try.func89, Try.ntmps89
    go_wp2
    go_ret
    exact ⟨rfl, chg_set, HR.out.set _⟩
  · rw [decide_eq_false h, if_neg h]
    go_enter Try.func89, Try.ntmps89
    go_wp2
    go_ret
    exact ⟨rfl, Chg.refl _ _ _, HR.out⟩

theorem skip_to (G b : Nat) (m : Int) (s : ByteArray) (k : Nat) (z : Int) (w : World) (R : Rd w G b m s) (hs : s.size ≤ 65536) (hk : k ≤ s.size) (hz : z = k) :
    Calls Try.prog 89 #[.pointer (some ⟨b, 0, none⟩), .int .i64 z] w fun e w' => e = .returned (.bool true) ∧ Chg b (b + 1) w w' ∧ Rd w' G b m (from_ s k) := by
  subst hz
  have h := skip_any G b m s k w R hs (by omega)
  rw [decide_eq_true hk, if_pos hk] at h
  exact h
theorem skip_not (G b : Nat) (m : Int) (s : ByteArray) (k : Nat) (z : Int) (w : World) (R : Rd w G b m s) (hs : s.size ≤ 65536) (hk : k ≤ 65536) (hk2 : ¬ k ≤ s.size) (hz : z = k) :
    Calls Try.prog 89 #[.pointer (some ⟨b, 0, none⟩), .int .i64 z] w fun e w' => e = .returned (.bool false) ∧ Chg b (b + 1) w w' ∧ Rd w' G b m s := by
  subst hz
  have h := skip_any G b m s k w R hs hk
  rw [decide_eq_false hk2, if_neg hk2] at h
  exact h

theorem ne_list (s : ByteArray) (h : 0 < s.size) : ¬ s.toList = [] ∧ s.toList.isEmpty = false := by
  have h1 : s.toList.length = s.size := by rw [ByteArray.toList_eq, toList_length]
  have h2 : ¬ s.toList = [] := fun e => by rw [e] at h1; simp at h1; omega
  exact ⟨h2, by rw [← Bool.not_eq_true, List.isEmpty_iff]; exact h2⟩

set_option maxHeartbeats 1000000 in
theorem skipByte_yes (G b : Nat) (m : Int) (s : ByteArray) (c : UInt8) (z : Int) (w : World) (R : Rd w G b m s) (hs : s.size ≤ 65536) (h : 0 < s.size) (hc : s[0] = c) (hz : z = c.toNat) :
    Calls Try.prog 90 #[.pointer (some ⟨b, 0, none⟩), .int .u8 z] w fun e w' => e = .returned (.bool true) ∧ Chg b (b + 1) w w' ∧ Rd w' G b m (from_ s 1) := by
  have c0 := R.c0
  have hlt := R.lt
  have HR : Hid (Rd _ _ _ _ _) := R
  have e1 : ((s[0].toNat : Int) == z) = true := by rw [hz]; exact byte_is c hc
  obtain ⟨n1, n2⟩ := ne_list s h
  clear R hc hz
  go_enter Try.func90, Try.ntmps90
  go_wp2_with (go_at_call 89; refine (skip_to G b m s 1 _ _ HR.out hs h rfl).mono ?_; rintro e w1 ⟨rfl, h1, h2⟩)
  go_ret
  exact ⟨rfl, h1, h2⟩

set_option maxHeartbeats 1000000 in
theorem skipByte_no (G b : Nat) (m : Int) (s : ByteArray) (c : UInt8) (z : Int) (w : World) (R : Rd w G b m s) (hs : s.size ≤ 65536) (hn : ¬ ∃ h : 0 < s.size, s[0] = c) (hz : z = c.toNat) :
    Calls Try.prog 90 #[.pointer (some ⟨b, 0, none⟩), .int .u8 z] w fun e w' => e = .returned (.bool false) ∧ w' = w := by
  have c0 := R.c0
  have hlt := R.lt
  clear R
  by_cases h : 0 < s.size
  · have e1 : ((s[0].toNat : Int) == z) = false := by rw [hz]; exact byte_not c (fun e => hn ⟨h, e⟩)
    obtain ⟨n1, n2⟩ := ne_list s h
    clear hn hz
    go_enter Try.func90, Try.ntmps90
    go_wp2
    go_ret
    exact ⟨rfl, rfl⟩
  · have hz : s.size = 0 := by omega
    obtain rfl := empty_of s hz
    clear hn hz
    go_enter Try.func90, Try.ntmps90
    go_wp2
    go_ret
    exact ⟨rfl, rfl⟩

theorem cut_any (s : ByteArray) (m : Int) (w : World) (hs : s.size ≤ 65536) (hm : w.cell? ⟨Try.laysCut_ren.g 1, 0, none⟩ = some (.int .i64 m)) :
    Calls Try.prog 103 #[.string s, .string zz] w fun e w' => e = .returned (.tuple #[.string ⟨(Lib.cut s.data.toList zz.data.toList).1.toArray⟩, .string ⟨(Lib.cut s.data.toList zz.data.toList).2.1.toArray⟩, .bool (Lib.cut s.data.toList zz.data.toList).2.2]) ∧ ∃ n, w' = w.drewN n :=
  Any.strings_Cut { Try.laysCut with } s zz m w (by omega) hm

theorem Rd.to {w w' : World} {G b : Nat} {m : Int} {s : ByteArray} (h : Rd w G b m s) (hb : Below w.heap.size w w') : Rd w' G b m s := by
  obtain ⟨A, hA, r⟩ := h.blk
  exact ⟨⟨A, by rw [hb.block b h.lt]; exact hA, r⟩, h.gb, by rw [hb.cell (Nat.lt_trans h.gb h.lt)]; exact h.gm⟩

set_option maxHeartbeats 1000000 in
theorem skipText_yes (b : Nat) (m : Int) (s : ByteArray) (w : World) (R : Rd w (Try.laysCut_ren.g 1) b m s) (hs : s.size ≤ 65536) (h : txt0 s ≠ 0) :
    Calls Try.prog 91 #[.pointer (some ⟨b, 0, none⟩)] w fun e w' => e = .returned (.bool true) ∧ Chg b (b + 1) w w' ∧ Rd w' (Try.laysCut_ren.g 1) b m (from_ s (txt0 s)) := by
  have c0 := R.c0
  have f0 := R.f0
  have hlt := R.lt
  have HM : Hid _ := R.gm
  have HR : Hid (Rd _ _ _ _ _) := R
  obtain ⟨e1, e2⟩ := cut_found s h
  have E1 : Hid _ := e1
  have E2 : Hid _ := e2
  clear R e1 e2
  go_enter Try.func91, Try.ntmps91
  go_wp2_with (go_at_call 103; refine (cut_any s m _ hs HM.out).mono ?_; rintro e w1 ⟨rfl, n, rfl⟩; rw [E1.out, E2.out])
  go_ret
  exact ⟨rfl, (chg_drewN n).trans chg_set, (HR.out.drewN n).set _⟩

set_option maxHeartbeats 1000000 in
theorem skipText_no (b : Nat) (m : Int) (s : ByteArray) (w : World) (R : Rd w (Try.laysCut_ren.g 1) b m s) (hs : s.size ≤ 65536) (h : txt0 s = 0) :
    Calls Try.prog 91 #[.pointer (some ⟨b, 0, none⟩)] w fun e w' => e = .returned (.bool false) ∧ Chg b (b + 1) w w' ∧ Rd w' (Try.laysCut_ren.g 1) b m em := by
  have c0 := R.c0
  have f0 := R.f0
  have hlt := R.lt
  have HM : Hid _ := R.gm
  have HR : Hid (Rd _ _ _ _ _) := R
  obtain ⟨e1, e2⟩ := cut_missed s h
  have E1 : Hid _ := e1
  have E2 : Hid _ := e2
  clear R e1 e2
  go_enter Try.func91, Try.ntmps91
  go_wp2_with (go_at_call 103; refine (cut_any s m _ hs HM.out).mono ?_; rintro e w1 ⟨rfl, n, rfl⟩; rw [E1.out, E2.out])
  go_ret
  exact ⟨rfl, (chg_drewN n).trans chg_set, (HR.out.drewN n).set _⟩

end Go.Proofs.Ytmchpaccdnnilaa.Tr
