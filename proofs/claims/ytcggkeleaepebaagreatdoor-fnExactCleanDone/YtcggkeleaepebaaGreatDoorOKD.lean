/- What the specification's test of a value answers, for every value of at most 1048576 bytes. -/
import Derived.Test.YtcggkeleaepebaaGreatDoorOKC
namespace Go.Proofs.YtcggkeleaepebaaGreatDoor
open Go.RowKit
set_option linter.unusedVariables false

set_option maxRecDepth 4000 in
set_option maxHeartbeats 1500000 in
theorem l01OK_doc (d : Nat) (ih : OKAt d) (hd : d ≤ 4) (n : Int) (t : ByteArray) (w : World) (hs : t.size ≤ 1048576) :
    Calls Tryz.prog 147 #[.agg #[.int .i64 5, .int .i64 n, .string t], .int .i64 ((d : Int) + 1)] w fun e w' => e = .returned (.bool (decide (n = 0 ∧ t.size ≤ 300) && fieldsAll (fits d) em (fields t))) ∧ Below w.heap.size w w' := by
  have e5 : ((d : Int) + 1 == 0) = false := beq_eq_false_iff_ne.mpr (by omega)
  rcases Decidable.em (n = 0) with rfl | hn
  · by_cases hbig : 300 < t.size
    · have ed : decide ((0 : Int) = 0 ∧ t.size ≤ 300) = false := decide_eq_false (by omega)
      rw [ed, Bool.false_and]; clear ed
      cases hit : (fields t).isSome
      all_goals
        have HI : Hid _ := hit
        clear hit
        go_enter Tryz.func147, Tryz.ntmps147
        go_wp2_with (go_at_call 148; refine (l01Fields_any t _ hs).mono ?_; rintro e w1 ⟨⟨g, m, cap, rfl, hown0⟩, hb1⟩; clear hown0; obtain ⟨hc1, hf1⟩ := bcell hb1; rw [HI.out])
        go_ret
        exact ⟨rfl, ((Below.refl _ _).alloc (Nat.le_refl _) _).trans (hb1.mono (by simp))⟩
    · have ed : decide ((0 : Int) = 0 ∧ t.size ≤ 300) = true := decide_eq_true ⟨rfl, by omega⟩
      rw [ed, Bool.true_and]; clear ed
      have e3 : decide ((300 : Int) < (t.size : Int)) = false := by simp; omega
      cases hit : fields t with
      | none =>
        have HI : Hid ((fields t).isSome = false) := by show _ = _; rw [hit]; rfl
        clear hit
        go_enter Tryz.func147, Tryz.ntmps147
        go_wp2_with (go_at_call 148; refine (l01Fields_any t _ hs).mono ?_; rintro e w1 ⟨⟨g, m, cap, rfl, hown0⟩, hb1⟩; clear hown0; obtain ⟨hc1, hf1⟩ := bcell hb1; rw [HI.out])
        go_ret
        exact ⟨rfl, ((Below.refl _ _).alloc (Nat.le_refl _) _).trans (hb1.mono (by simp))⟩
      | some l => exact l01OK_doc_some d ih hd t w (by omega) l hit
  · have hn' : (n == 0) = false := beq_eq_false_iff_ne.mpr hn
    have hn2 : (n != 0) = true := by simp [hn]
    have ed : decide (n = 0 ∧ t.size ≤ 300) = false := decide_eq_false (by omega)
    rw [ed, Bool.false_and]; clear ed hn
    go_enter Tryz.func147, Tryz.ntmps147
    go_wp2_with (go_at_call 148; refine (l01Fields_any t _ hs).mono ?_; rintro e w1 ⟨⟨g, m, cap, rfl, hown0⟩, hb1⟩; clear hown0; obtain ⟨hc1, hf1⟩ := bcell hb1)
    go_ret
    exact ⟨rfl, ((Below.refl _ _).alloc (Nat.le_refl _) _).trans (hb1.mono (by simp))⟩

set_option maxRecDepth 4000 in
set_option maxHeartbeats 1500000 in
theorem l01OK_zero (k n : Int) (t : ByteArray) (w : World) (hs : t.size ≤ 1048576) (h4 : k = 4 ∨ k = 5) :
    Calls Tryz.prog 147 #[.agg #[.int .i64 k, .int .i64 n, .string t], .int .i64 0] w fun e w' => e = .returned (.bool false) ∧ Below w.heap.size w w' := by
  rcases h4 with rfl | rfl
  · cases hit : (items t).isSome
    all_goals
      have HI : Hid _ := hit
      clear hit
      rcases Decidable.em (n = 0) with rfl | hn
      all_goals (try have hn2 : (n != 0) = true := by simp [hn])
      all_goals (try clear hn)
      all_goals
        by_cases hbig : 300 < t.size
        all_goals
          go_enter Tryz.func147, Tryz.ntmps147
          go_wp2_with (go_at_call 163; refine (l01Items_any t _ hs).mono ?_; rintro e w1 ⟨⟨g, m, cap, rfl, hown0⟩, hb1⟩; clear hown0; obtain ⟨hc1, hf1⟩ := bcell hb1; rw [HI.out])
          go_ret
          exact ⟨rfl, ((Below.refl _ _).alloc (Nat.le_refl _) _).trans (hb1.mono (by simp))⟩
  · cases hit : (fields t).isSome
    all_goals
      have HI : Hid _ := hit
      clear hit
      rcases Decidable.em (n = 0) with rfl | hn
      all_goals (try have hn2 : (n != 0) = true := by simp [hn])
      all_goals (try clear hn)
      all_goals
        by_cases hbig : 300 < t.size
        all_goals
          go_enter Tryz.func147, Tryz.ntmps147
          go_wp2_with (go_at_call 148; refine (l01Fields_any t _ hs).mono ?_; rintro e w1 ⟨⟨g, m, cap, rfl, hown0⟩, hb1⟩; clear hown0; obtain ⟨hc1, hf1⟩ := bcell hb1; rw [HI.out])
          go_ret
          exact ⟨rfl, ((Below.refl _ _).alloc (Nat.le_refl _) _).trans (hb1.mono (by simp))⟩

theorem l01OK_at : ∀ d : Nat, d ≤ 5 → OKAt d
  | 0, _ => by
    intro k n t w hs
    by_cases h4 : k = 4 ∨ k = 5
    · rw [show fits 0 ⟨k, n, t⟩ = false from base_holder _ h4]
      exact l01OK_zero k n t w hs h4
    · exact l01OK_plain 0 k n t w hs (by omega) (by omega)
  | d + 1, hd => by
    have ih := l01OK_at d (by omega)
    intro k n t w hs
    by_cases h4 : k = 4
    · subst h4
      rw [fits_list d _ rfl]
      exact l01OK_list d ih (by omega) n t w hs
    · by_cases h5 : k = 5
      · subst h5
        rw [fits_doc d _ rfl]
        exact l01OK_doc d ih (by omega) n t w hs
      · exact l01OK_plain (d + 1) k n t w hs h4 h5

theorem ok_big (v : Val) (h : 300 < v.t.size) : okB v = false := fits_big 5 v h

set_option maxHeartbeats 400000 in
theorem specValueOK_any (k n : Int) (t : ByteArray) (w : World) (hs : t.size ≤ 1048576) :
    Calls Tryz.prog 130 #[.agg #[.int .i64 k, .int .i64 n, .string t]] w fun e w' => e = .returned (.bool (okB ⟨k, n, t⟩)) ∧ Below w.heap.size w w' := by
  by_cases hb : t.size ≤ 65536
  · go_enter Tryz.func130, Tryz.ntmps130
    go_wp2_with (go_at_call 147; refine (l01OK_at 5 (by omega) k n t _ hs).mono ?_; rintro e w1 ⟨rfl, hb1⟩)
    go_ret
    exact ⟨rfl, ((Below.refl _ _).alloc (Nat.le_refl _) _).trans (hb1.mono (by simp))⟩
  · rw [ok_big ⟨k, n, t⟩ (by show 300 < t.size; omega)]
    go_enter Tryz.func130, Tryz.ntmps130
    go_wp2_with fail
    go_ret
    exact ⟨rfl, (Below.refl _ _).alloc (Nat.le_refl _) _⟩

end Go.Proofs.YtcggkeleaepebaaGreatDoor
