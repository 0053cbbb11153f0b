/- What the two functions that ask whether a text is a path answer, for every text. -/
import Derived.Test.YtcggkeleaepebaaGreatDoorSplitS
import Derived.Test.YtcggkeleaepebaaGreatDoorSpec
namespace Go.Proofs.YtcggkeleaepebaaGreatDoor
open Go.RowKit
set_option linter.unusedVariables false

theorem pathB_long (s : ByteArray) (h : 50 < s.size) : pathB s = false := by
  unfold pathB; rw [decide_eq_false (by omega : ¬ s.size ≤ 50)]; simp
theorem pathB_many (s : ByteArray) (h : 4 < (pieces s).length) : pathB s = false := by
  unfold pathB; rw [decide_eq_false (by omega : ¬ (pieces s).length ≤ 4)]; simp
theorem pathB_few (s : ByteArray) (h : ¬ 50 < s.size) (h2 : ¬ 4 < (pieces s).length) : pathB s = (pieces s).all shortB := by
  unfold pathB; rw [decide_eq_true (by omega : s.size ≤ 50), decide_eq_true (by omega : (pieces s).length ≤ 4)]; simp

set_option maxHeartbeats 400000 in
theorem noShort_any (s : ByteArray) (w : World) (hs : s.size ≤ maxLen) :
    Calls Tryz.prog 200 #[.string s] w fun e w' => e = .returned (.bool (!shortB s)) ∧ w' = w := by
  go_enter Tryz.func200, Tryz.ntmps200
  go_wp2_with (go_at_call 118; refine (shortNameOK_any s _ hs).mono ?_; rintro e w1 ⟨rfl, rfl⟩)
  go_ret
  exact ⟨rfl, rfl⟩

theorem takeAll {α : Type} (p : α → Prop) (l : List α) (k : Nat) (h : k < l.length) (h1 : ∀ v ∈ l.take k, p v) (h2 : p l[k]) : ∀ v ∈ l.take (k + 1), p v := by
  intro v hv
  rw [List.take_succ_eq_append_getElem h] at hv
  rcases List.mem_append.mp hv with hv | hv
  · exact h1 v hv
  · simp at hv; subst hv; exact h2
theorem all_bad {α : Type} (p : α → Bool) (l : List α) (k : Nat) (hk : k < l.length) (h : p l[k] = false) : l.all p = false := by
  rw [Bool.eq_false_iff]; intro hh
  rw [List.all_eq_true] at hh
  have := hh l[k] (List.getElem_mem _)
  rw [h] at this; cases this

set_option maxRecDepth 4000 in
set_option maxHeartbeats 1000000 in
theorem indexNoShort_any (g cap : Nat) (l : List ByteArray) (w : World) (hr : ReadS w g 0 l) (hl : l.length ≤ 1048576) (hts : ∀ v ∈ l, v.size ≤ 1048576) :
    Calls Tryz.prog 214 #[.slice (some ⟨g, 0, none⟩) l.length cap, .func (.func 200) #[] #[]] w fun e w' => (∃ i : Int, e = .returned (.int .i64 i) ∧ decide (0 ≤ i) = !(l.all shortB)) ∧ Below w.heap.size w w' := by
  have HR : Hid _ := hr
  have HT : Hid _ := hts
  clear hr hts
  go_enter Tryz.func214, Tryz.ntmps214
  go_wp2_with fail
  go_loopw [8] (fun i wr => ∃ k : Nat, k ≤ l.length ∧ i = .int .i64 k ∧ (∀ v ∈ l.take k, shortB v = true) ∧ Below w.heap.size w wr) (fun i _ => l.length - (intOf i).toNat)
  case atStart => exact ⟨0, Nat.zero_le _, rfl, fun v hv => by simp at hv, Below.refl _ _⟩
  case round =>
    obtain ⟨k, hk, rfl, hall, hbel⟩ := hrel
    have HA : Hid _ := hall
    clear hall
    by_cases hlt : k < l.length
    · have x0 := (HR.out.next hbel).cells k hlt
      rw [Nat.zero_add] at x0
      have hs : l[k].size ≤ maxLen := by have := HT.out l[k] (List.getElem_mem _); unfold maxLen; omega
      cases hok : shortB l[k]
      · have HK : Hid (shortB l[k] = false) := hok
        have hal := all_bad shortB l k hlt hok
        have HL : Hid _ := hal
        clear hok hal
        go_wp2_with fail
        refine (noShort_any _ _ hs).mono ?_
        rintro e w1 ⟨rfl, rfl⟩
        rw [HK.out]
        go_wp2_with fail
        go_ret
        exact ⟨⟨k, rfl, by rw [HL.out]; exact decide_eq_true (by omega)⟩, by (repeat (first | (with_reducible exact Below.refl _ _) | (with_reducible assumption) | (with_reducible apply below_drewN) | (with_reducible apply Below.drew) | ((with_reducible refine Below.setCell ?_ ?_ _); rotate_left; focus (first | (simp; done) | (simp; omega) | omega)) | ((with_reducible refine Below.alloc ?_ ?_ _); rotate_left; focus (first | (simp; done) | (simp; omega) | omega))))⟩
      · have HK : Hid (shortB l[k] = true) := hok
        clear hok
        go_wp2_with fail
        refine (noShort_any _ _ hs).mono ?_
        rintro e w1 ⟨rfl, rfl⟩
        rw [HK.out]
        go_wp2_with fail
        go_roundw
        case rel => exact ⟨k + 1, by omega, by go_num, takeAll _ l k hlt HA.out HK.out, by (repeat (first | (with_reducible exact Below.refl _ _) | (with_reducible assumption) | (with_reducible apply below_drewN) | (with_reducible apply Below.drew) | ((with_reducible refine Below.setCell ?_ ?_ _); rotate_left; focus (first | (simp; done) | (simp; omega) | omega)) | ((with_reducible refine Below.alloc ?_ ?_ _); rotate_left; focus (first | (simp; done) | (simp; omega) | omega))))⟩
        case measure => simp [intOf]; omega
    · have e : l.take k = l := List.take_of_length_le (by omega)
      have hall := HA.out
      rw [e] at hall
      have hal : l.all shortB = true := List.all_eq_true.mpr hall
      have HL : Hid _ := hal
      clear hal hall HA e
      go_wp2_with fail
      go_ret
      exact ⟨⟨-1, rfl, by rw [HL.out]; rfl⟩, hbel⟩
set_option maxHeartbeats 400000 in
theorem anyNoShort_any (g cap : Nat) (l : List ByteArray) (w : World) (hr : ReadS w g 0 l) (hl : l.length ≤ 1048576) (hts : ∀ v ∈ l, v.size ≤ 1048576) :
    Calls Tryz.prog 199 #[.slice (some ⟨g, 0, none⟩) l.length cap, .func (.func 200) #[] #[]] w fun e w' => e = .returned (.bool (!(l.all shortB))) ∧ Below w.heap.size w w' := by
  go_enter Tryz.func199, Tryz.ntmps199
  go_wp2_with fail
  refine (indexNoShort_any g cap l w hr hl hts).mono ?_
  rintro e w1 ⟨⟨i, rfl, hi⟩, hb⟩
  go_wp2_with fail
  go_ret
  rw [← hi]
  exact ⟨rfl, hb⟩

set_option maxRecDepth 4000 in
set_option maxHeartbeats 1000000 in
theorem pathOK_any (s : ByteArray) (w : World) (hs : s.size ≤ 1048576) :
    Calls Tryz.prog 181 #[.string s] w fun e w' => e = .returned (.bool (pathB s)) ∧ Below w.heap.size w w' := by
  by_cases h50 : 50 < s.size
  · rw [pathB_long s h50]
    have hh : (50 : Int) < (s.size : Int) := by omega
    go_enter Tryz.func181, Tryz.ntmps181
    go_wp2_with fail
    go_ret
    exact ⟨rfl, Below.refl _ _⟩
  · have hh : ¬ (50 : Int) < (s.size : Int) := by omega
    have hle := pieces_len_le s
    have hpz := pieces_size s
    obtain ⟨L, hL⟩ : ∃ L, L = pieces s := ⟨_, rfl⟩
    have HP0 := namesOf_any s
    by_cases h4 : 4 < (pieces s).length
    · rw [pathB_many s h4]
      rw [← hL] at hle h4 HP0
      have hh4 : ¬ ((L.length : Nat) : Int) ≤ 4 := by omega
      have hd4 : decide (((L.length : Nat) : Int) ≤ 4) = false := by simp; omega
      have HP : Hid _ := HP0
      clear HP0 hL hpz
      go_enter Tryz.func181, Tryz.ntmps181
      go_wp2_with fail
      refine (HP.out _ hs).mono ?_
      rintro e w1 ⟨⟨g, cap, rfl, hg, R⟩, hb⟩
      clear R
      go_wp2_with fail
      go_ret
      exact ⟨rfl, hb⟩
    · rw [pathB_few s h50 h4]
      rw [← hL] at hle h4 HP0 hpz ⊢
      have hh4 : ((L.length : Nat) : Int) ≤ 4 := by omega
      have hd4 : decide (((L.length : Nat) : Int) ≤ 4) = true := by simp; omega
      have HP : Hid _ := HP0
      have HZ : Hid _ := hpz
      clear HP0 hL hpz
      go_enter Tryz.func181, Tryz.ntmps181
      go_wp2_with fail
      refine (HP.out _ hs).mono ?_
      rintro e w1 ⟨⟨g, cap, rfl, hg, R⟩, hb⟩
      have HR : Hid _ := R
      clear R
      go_wp2_with fail
      refine (anyNoShort_any g cap L _ HR.out (by omega) (fun v hv => by have := HZ.out v hv; omega)).mono ?_
      rintro e w2 ⟨rfl, hb2⟩
      go_wp2_with fail
      go_ret
      exact ⟨ret_bool (by simp), hb.trans (hb2.mono hb.size)⟩

set_option maxRecDepth 4000 in
set_option maxHeartbeats 1000000 in
theorem specPath_any (s : ByteArray) (w : World) (hs : s.size ≤ 1048576) :
    Calls Tryz.prog 129 #[.string s] w fun e w' => e = .returned (.bool (pathB s)) ∧ Below w.heap.size w w' := by
  by_cases hbig : 65536 < s.size
  · rw [pathB_long s (by omega)]
    have hh : (65536 : Int) < (s.size : Int) := by omega
    go_enter Tryz.func129, Tryz.ntmps129
    go_wp2_with fail
    go_ret
    exact ⟨rfl, Below.refl _ _⟩
  have hbg : ¬ (65536 : Int) < (s.size : Int) := by omega
  have hle := pieces_len_le s
  have hpz := pieces_size s
  obtain ⟨L, hL⟩ : ∃ L, L = pieces s := ⟨_, rfl⟩
  have HP0 := l00Cut_any s
  by_cases h4 : 4 < (pieces s).length
  · rw [pathB_many s h4]
    rw [← hL] at hle h4 HP0
    have hh4 : (4 : Int) < ((L.length : Nat) : Int) := by omega
    have hd4 : decide ((4 : Int) < ((L.length : Nat) : Int)) = true := by simp; omega
    have HP : Hid _ := HP0
    clear HP0 hL hpz
    go_enter Tryz.func129, Tryz.ntmps129
    go_wp2_with fail
    refine (HP.out _ hs).mono ?_
    rintro e w1 ⟨⟨g, cap, rfl, hg, R⟩, hb⟩
    clear R
    go_wp2_with fail
    go_ret
    exact ⟨rfl, hb⟩
  by_cases h50 : 50 < s.size
  · rw [pathB_long s h50]
    rw [← hL] at hle h4 HP0
    have hh4 : ¬ (4 : Int) < ((L.length : Nat) : Int) := by omega
    have hd4 : decide ((4 : Int) < ((L.length : Nat) : Int)) = false := by simp; omega
    have hd5 : decide ((50 : Int) < (s.size : Int)) = true := by simp; omega
    have HP : Hid _ := HP0
    clear HP0 hL hpz
    go_enter Tryz.func129, Tryz.ntmps129
    go_wp2_with fail
    refine (HP.out _ hs).mono ?_
    rintro e w1 ⟨⟨g, cap, rfl, hg, R⟩, hb⟩
    clear R
    go_wp2_with fail
    go_ret
    exact ⟨rfl, hb⟩
  rw [pathB_few s h50 h4]
  rw [← hL] at hle h4 HP0 hpz ⊢
  have hh4 : ¬ (4 : Int) < ((L.length : Nat) : Int) := by omega
  have hd4 : decide ((4 : Int) < ((L.length : Nat) : Int)) = false := by simp; omega
  have hd5 : decide ((50 : Int) < (s.size : Int)) = false := by simp; omega
  obtain ⟨P, hP⟩ : ∃ P, P = L.all shortB := ⟨_, rfl⟩
  rw [← hP]
  have HPP : Hid _ := hP
  have HP : Hid _ := HP0
  have HZ : Hid _ := hpz
  clear HP0 hL hpz hP
  go_enter Tryz.func129, Tryz.ntmps129
  go_wp2_with fail
  refine (HP.out _ hs).mono ?_
  rintro e w1 ⟨⟨g, cap, rfl, hg, R⟩, hb⟩
  have HR : Hid _ := R
  clear R
  go_wp2_with fail
  go_loopw [4] (fun i wr => ∃ k : Nat, k ≤ L.length ∧ i = .int .i64 k ∧ (∀ v ∈ L.take k, shortB v = true) ∧ Below w1.heap.size w1 wr) (fun i _ => L.length - (intOf i).toNat)
  case atStart => exact ⟨0, Nat.zero_le _, rfl, fun v hv => by simp at hv, Below.refl _ _⟩
  case round =>
    obtain ⟨k, hk, rfl, hall, hbel⟩ := hrel
    have HA : Hid _ := hall
    clear hall
    by_cases hlt : k < L.length
    · have x0 := (HR.out.next hbel).cells k hlt
      rw [Nat.zero_add] at x0
      have hsl : L[k].size ≤ maxLen := by have := HZ.out L[k] (List.getElem_mem _); unfold maxLen; omega
      cases hok : shortB L[k]
      · have HK : Hid (shortB L[k] = false) := hok
        have hal := all_bad shortB L k hlt hok
        have hp := HPP.out
        rw [hal] at hp
        subst hp
        clear hok hal HPP
        go_wp2_with fail
        refine (l01Name_any _ _ hsl).mono ?_
        rintro e w2 ⟨rfl, rfl⟩
        rw [HK.out]
        go_wp2_with fail
        go_ret
        exact ⟨rfl, hb.trans ((show Below w1.heap.size w1 _ by (repeat (first | (with_reducible exact Below.refl _ _) | (with_reducible assumption) | (with_reducible apply below_drewN) | (with_reducible apply Below.drew) | ((with_reducible refine Below.setCell ?_ ?_ _); rotate_left; focus (first | (simp; done) | (simp; omega) | omega)) | ((with_reducible refine Below.alloc ?_ ?_ _); rotate_left; focus (first | (simp; done) | (simp; omega) | omega))))).mono hb.size)⟩
      · have HK : Hid (shortB L[k] = true) := hok
        clear hok
        go_wp2_with fail
        refine (l01Name_any _ _ hsl).mono ?_
        rintro e w2 ⟨rfl, rfl⟩
        rw [HK.out]
        go_wp2_with fail
        go_roundw
        case rel => exact ⟨k + 1, by omega, by go_num, takeAll _ L k hlt HA.out HK.out, by (repeat (first | (with_reducible exact Below.refl _ _) | (with_reducible assumption) | (with_reducible apply below_drewN) | (with_reducible apply Below.drew) | ((with_reducible refine Below.setCell ?_ ?_ _); rotate_left; focus (first | (simp; done) | (simp; omega) | omega)) | ((with_reducible refine Below.alloc ?_ ?_ _); rotate_left; focus (first | (simp; done) | (simp; omega) | omega))))⟩
        case measure => simp [intOf]; omega
    · have e : L.take k = L := List.take_of_length_le (by omega)
      have hall := HA.out
      rw [e] at hall
      have hal : L.all shortB = true := List.all_eq_true.mpr hall
      have hp := HPP.out
      rw [hal] at hp
      subst hp
      clear hal hall HA e HPP
      go_wp2_with fail
      go_ret
      exact ⟨rfl, hb.trans ((show Below w1.heap.size w1 _ by (repeat (first | (with_reducible exact Below.refl _ _) | (with_reducible assumption) | (with_reducible apply below_drewN) | (with_reducible apply Below.drew) | ((with_reducible refine Below.setCell ?_ ?_ _); rotate_left; focus (first | (simp; done) | (simp; omega) | omega)) | ((with_reducible refine Below.alloc ?_ ?_ _); rotate_left; focus (first | (simp; done) | (simp; omega) | omega))))).mono hb.size)⟩

end Go.Proofs.YtcggkeleaepebaaGreatDoor
