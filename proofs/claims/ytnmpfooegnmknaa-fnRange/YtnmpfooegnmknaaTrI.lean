/- What the program's comparing of entries answers. -/
import Derived.Test.YtnmpfooegnmknaaTrQ
namespace Go.Proofs.Ytnmpfooegnmknaa.Tr
open Go.RowKit
set_option linter.unusedVariables false

set_option maxRecDepth 4000 in
set_option maxHeartbeats 1000000 in
theorem entryOK_any (k : ByteArray) (i : Int) (w : World) (hs : k.size ≤ 1048576) :
    Calls Try.prog 46 #[.agg #[.string k, .int .i64 i]] w fun e w' => e = .returned (.bool (entB ⟨k, i⟩)) ∧ Below w.heap.size w w' := by
  unfold entB
  simp only
  by_cases h1 : k.size ≤ 2000
  · have h1' : (k.size : Int) ≤ 2000 := by omega
    rw [decide_eq_true h1, Bool.true_and]
    cases h2 : decide (0 ≤ i) <;> cases h3 : decide (i ≤ 9999)
    all_goals
      go_enter Try.func46, Try.ntmps46
      go_wp2_with fail
      go_ret
      exact ⟨rfl, by (repeat (first | (with_reducible exact Below.refl _ _) | (with_reducible assumption) | (with_reducible apply below_drewN) | (with_reducible apply Below.drew) | ((with_reducible refine Below.setCell ?_ ?_ _); rotate_left; focus (first | (simp; done) | (simp; omega) | omega)) | ((with_reducible refine Below.alloc ?_ ?_ _); rotate_left; focus (first | (simp; done) | (simp; omega) | omega))))⟩
  · have h1' : ¬ (k.size : Int) ≤ 2000 := by omega
    rw [decide_eq_false h1, Bool.false_and]
    go_enter Try.func46, Try.ntmps46
    go_wp2_with fail
    go_ret
    exact ⟨rfl, by (repeat (first | (with_reducible exact Below.refl _ _) | (with_reducible assumption) | (with_reducible apply below_drewN) | (with_reducible apply Below.drew) | ((with_reducible refine Below.setCell ?_ ?_ _); rotate_left; focus (first | (simp; done) | (simp; omega) | omega)) | ((with_reducible refine Below.alloc ?_ ?_ _); rotate_left; focus (first | (simp; done) | (simp; omega) | omega))))⟩

set_option maxRecDepth 4000 in
set_option maxHeartbeats 1000000 in
theorem cmpInt_any (x y : Int) (w : World) : Calls Try.prog 75 #[.int .i64 x, .int .i64 y] w fun e w' => e = .returned (.int .i64 (cI x y)) ∧ w' = w := by
  by_cases h1 : x < y
  · have e : cI x y = -1 := by unfold cI Lib.compareInt; rw [if_pos h1]
    rw [e]
    go_enter Try.func75, Try.ntmps75
    go_wp2
    go_ret
    exact ⟨rfl, rfl⟩
  · by_cases h2 : y < x
    · have e : cI x y = 1 := by unfold cI Lib.compareInt; rw [if_neg h1, if_pos h2]
      rw [e]
      go_enter Try.func75, Try.ntmps75
      go_wp2
      go_ret
      exact ⟨rfl, rfl⟩
    · have e : cI x y = 0 := by unfold cI Lib.compareInt; rw [if_neg h1, if_neg h2]
      rw [e]
      go_enter Try.func75, Try.ntmps75
      go_wp2
      go_ret
      exact ⟨rfl, rfl⟩
set_option maxRecDepth 4000 in
set_option maxHeartbeats 1000000 in
theorem or_first (g c : Nat) (x : Int) (w : World) (h0 : w.cell? ⟨g, 0, none⟩ = some (.int .i64 x)) (hx : x ≠ 0) :
    Calls Try.prog 74 #[.slice (some ⟨g, 0, none⟩) 2 c] w fun e w' => e = .returned (.int .i64 x) ∧ w' = w := by
  have e0 : (x == 0) = false := beq_eq_false_iff_ne.mpr hx
  go_enter Try.func74, Try.ntmps74
  go_wp2_with fail
  refine wp_loop_rounds 1 ?_
  rw [rounds_succ]
  go_wp2_with fail
  go_ret
  exact ⟨rfl, rfl⟩
set_option maxRecDepth 4000 in
set_option maxHeartbeats 1000000 in
theorem or_second (g c : Nat) (y : Int) (w : World) (h0 : w.cell? ⟨g, 0, none⟩ = some (.int .i64 0)) (h1 : w.cell? ⟨g, 1, none⟩ = some (.int .i64 y)) (hy : y ≠ 0) :
    Calls Try.prog 74 #[.slice (some ⟨g, 0, none⟩) 2 c] w fun e w' => e = .returned (.int .i64 y) ∧ w' = w := by
  have e0 : (y == 0) = false := beq_eq_false_iff_ne.mpr hy
  go_enter Try.func74, Try.ntmps74
  go_wp2_with fail
  refine wp_loop_rounds 2 ?_
  rw [rounds_succ]
  go_wp2_with fail
  rw [rounds_succ]
  go_wp2_with fail
  go_ret
  exact ⟨rfl, rfl⟩
set_option maxRecDepth 4000 in
set_option maxHeartbeats 1000000 in
theorem or_none (g c : Nat) (w : World) (h0 : w.cell? ⟨g, 0, none⟩ = some (.int .i64 0)) (h1 : w.cell? ⟨g, 1, none⟩ = some (.int .i64 0)) :
    Calls Try.prog 74 #[.slice (some ⟨g, 0, none⟩) 2 c] w fun e w' => e = .returned (.int .i64 0) ∧ w' = w := by
  go_enter Try.func74, Try.ntmps74
  go_wp2_with fail
  refine wp_loop_rounds 3 ?_
  rw [rounds_succ]
  go_wp2_with fail
  rw [rounds_succ]
  go_wp2_with fail
  rw [rounds_succ]
  go_wp2_with fail
  go_ret
  exact ⟨rfl, rfl⟩
set_option maxRecDepth 100000 in
set_option maxHeartbeats 1000000 in
theorem cmpStr0_any (a b : ByteArray) (w : World) : Calls Try.prog 117 #[.string a, .string b] w fun e w' => e = .returned (.int .i64 (cB a b)) ∧ w' = w := by
  go_enter Try.func117, Try.ntmps117
  go_wp2
  rw [run_callFunc_extern Try.func143 (by kernel_rfl) (by kernel_rfl) (by kernel_rfl) (e := Extern.BytealgCompare.compare) (by kernel_rfl), Lib.run_compareString]
  simp only [Result.andThen]
  rw [Oper.upon_value]
  go_wp2
  go_ret
  exact ⟨rfl, rfl⟩
set_option maxHeartbeats 1000000 in
theorem cmpStr_any (a b : ByteArray) (w : World) : Calls Try.prog 81 #[.string a, .string b] w fun e w' => e = .returned (.int .i64 (cB a b)) ∧ w' = w := by
  go_enter Try.func81, Try.ntmps81
  go_wp2_with (go_at_call 117; refine (cmpStr0_any a b _).mono ?_; rintro e w1 ⟨rfl, rfl⟩)
  go_ret
  exact ⟨rfl, rfl⟩

/-- Two entries in the first two new blocks. -/
structure TwoE (w W : World) (a b : Ent) : Prop where
  bel : Below w.heap.size w W
  lt : w.heap.size + 1 < W.heap.size
  c0 : W.cell? ⟨w.heap.size, 0, none⟩ = some (.string a.key)
  c1 : W.cell? ⟨w.heap.size, 1, none⟩ = some (.int .i64 a.id)
  d0 : W.cell? ⟨w.heap.size + 1, 0, none⟩ = some (.string b.key)
  d1 : W.cell? ⟨w.heap.size + 1, 1, none⟩ = some (.int .i64 b.id)
theorem TwoE.start (w : World) (a b : Ent) (T : TypeId) : TwoE w ((w.alloc (.cells #[.string a.key, .int .i64 a.id] T)).alloc (.cells #[.string b.key, .int .i64 b.id] T)) a b :=
  ⟨((Below.refl _ _).alloc (Nat.le_refl _) _).alloc (by simp) _, by simp, by simp [go_sem], by simp [go_sem], by simp [go_sem], by simp [go_sem]⟩
theorem TwoE.step {w W W' : World} {a b : Ent} (h : TwoE w W a b) (hb : Below W.heap.size W W') : TwoE w W' a b :=
  have hl : w.heap.size < W.heap.size := Nat.lt_of_succ_lt h.lt
  ⟨h.bel.trans (hb.mono h.bel.size), Nat.lt_of_lt_of_le h.lt hb.size, (hb.cell hl).trans h.c0, (hb.cell hl).trans h.c1, (hb.cell h.lt).trans h.d0, (hb.cell h.lt).trans h.d1⟩
theorem TwoE.drawn {w V : World} {a b : Ent} {T : TypeId} (h : V = ((w.alloc (.cells #[.string a.key, .int .i64 a.id] T)).alloc (.cells #[.string b.key, .int .i64 b.id] T)).drew) : TwoE w V a b := by
  subst h
  exact (TwoE.start w a b T).step (Below.refl _ _).drew

set_option maxRecDepth 4000 in
set_option maxHeartbeats 2000000 in
theorem compareEntries_any (a b : Ent) (w : World) :
    Calls Try.prog 103 #[.agg #[.string a.key, .int .i64 a.id], .agg #[.string b.key, .int .i64 b.id]] w fun e w' => e = .returned (.int .i64 (cmpE a b)) ∧ Below w.heap.size w w' := by
  by_cases h : a.key = b.key
  · have hp0 : cB a.key b.key = 0 := (cB_zero _ _).2 h
    have HP : ∀ W : World, Calls Try.prog 81 #[.string a.key, .string b.key] W fun e w' => e = .returned (.int .i64 0) ∧ w' = W := fun W => by have := cmpStr_any a.key b.key W; rw [hp0] at this; exact this
    rw [cmpE_id a b h]
    by_cases ho : a.id = b.id
    · have ho0 : cI a.id b.id = 0 := (cI_zero _ _).2 ho
      have HQ : ∀ W : World, Calls Try.prog 75 #[.int .i64 a.id, .int .i64 b.id] W fun e w' => e = .returned (.int .i64 0) ∧ w' = W := fun W => by have := cmpInt_any a.id b.id W; rw [ho0] at this; exact this
      rw [ho0]
      clear h ho hp0 ho0
      go_enter Try.func103, Try.ntmps103
      go_wp2_with fail
      refine still_tail_at 10 (by kernel_rfl) (by kernel_rfl) ?_
      intro V hV
      have X := TwoE.drawn hV
      obtain ⟨hbw, hlt, c0, c1, d0, d1⟩ := X
      clear hV
      simp only [List.take_succ_cons, List.take_zero, List.drop_succ_cons, List.drop_zero]
      repeat still_step
      still_call (HP _)
      repeat still_step
      still_call (HQ _)
      refine wpStill_nil ?_
      go_wp2_with (go_at_call 74; refine (or_none _ _ _ (by simp [go_sem]) (by simp [go_sem])).mono ?_; rintro e w1 ⟨rfl, rfl⟩)
      go_ret
      exact ⟨rfl, by (repeat (first | (with_reducible exact Below.refl _ _) | (with_reducible assumption) | (with_reducible apply below_drewN) | (with_reducible apply Below.drew) | ((with_reducible refine Below.setCell ?_ ?_ _); rotate_left; focus (first | (simp; done) | (simp; omega) | omega)) | ((with_reducible refine Below.alloc ?_ ?_ _); rotate_left; focus (first | (simp; done) | (simp; omega) | omega))))⟩
    · have hnz : cI a.id b.id ≠ 0 := fun e => ho ((cI_zero _ _).1 e)
      have hnb : (cI a.id b.id == 0) = false := beq_eq_false_iff_ne.mpr hnz
      clear h ho hp0
      go_enter Try.func103, Try.ntmps103
      go_wp2_with fail
      refine still_tail_at 10 (by kernel_rfl) (by kernel_rfl) ?_
      intro V hV
      have X := TwoE.drawn hV
      obtain ⟨hbw, hlt, c0, c1, d0, d1⟩ := X
      clear hV
      simp only [List.take_succ_cons, List.take_zero, List.drop_succ_cons, List.drop_zero]
      repeat still_step
      still_call (HP _)
      repeat still_step
      still_call (cmpInt_any a.id b.id _)
      refine wpStill_nil ?_
      go_wp2_with (go_at_call 74; refine (or_second _ _ (cI a.id b.id) _ (by simp [go_sem]) (by simp [go_sem]) hnz).mono ?_; rintro e w1 ⟨rfl, rfl⟩)
      go_ret
      exact ⟨rfl, by (repeat (first | (with_reducible exact Below.refl _ _) | (with_reducible assumption) | (with_reducible apply below_drewN) | (with_reducible apply Below.drew) | ((with_reducible refine Below.setCell ?_ ?_ _); rotate_left; focus (first | (simp; done) | (simp; omega) | omega)) | ((with_reducible refine Below.alloc ?_ ?_ _); rotate_left; focus (first | (simp; done) | (simp; omega) | omega))))⟩
  · rw [cmpE_key a b h]
    have hnz : cB a.key b.key ≠ 0 := fun e => h ((cB_zero _ _).1 e)
    have hnb : (cB a.key b.key == 0) = false := beq_eq_false_iff_ne.mpr hnz
    clear h
    go_enter Try.func103, Try.ntmps103
    go_wp2_with fail
    refine still_tail_at 10 (by kernel_rfl) (by kernel_rfl) ?_
    intro V hV
    have X := TwoE.drawn hV
    obtain ⟨hbw, hlt, c0, c1, d0, d1⟩ := X
    clear hV
    simp only [List.take_succ_cons, List.take_zero, List.drop_succ_cons, List.drop_zero]
    repeat still_step
    still_call (cmpStr_any a.key b.key _)
    repeat still_step
    still_call (cmpInt_any a.id b.id _)
    refine wpStill_nil ?_
    go_wp2_with (go_at_call 74; refine (or_first _ _ (cB a.key b.key) _ (by simp [go_sem]) hnz).mono ?_; rintro e w1 ⟨rfl, rfl⟩)
    go_ret
    exact ⟨rfl, by (repeat (first | (with_reducible exact Below.refl _ _) | (with_reducible assumption) | (with_reducible apply below_drewN) | (with_reducible apply Below.drew) | ((with_reducible refine Below.setCell ?_ ?_ _); rotate_left; focus (first | (simp; done) | (simp; omega) | omega)) | ((with_reducible refine Below.alloc ?_ ?_ _); rotate_left; focus (first | (simp; done) | (simp; omega) | omega))))⟩

set_option maxHeartbeats 1000000 in
theorem aheadOf_any (k : ByteArray) (w : World) :
    Calls Try.prog 102 #[.string k] w fun e w' => e = .returned (.agg #[.string k, .int .i64 (-1)]) ∧ Below w.heap.size w w' := by
  go_enter Try.func102, Try.ntmps102
  go_wp2_with fail
  exact bodyPost_ret (v := .agg #[.string k, .int .i64 (-1)]) (by simp [results, Try.results102, go_sem]) rfl ⟨rfl, by (repeat (first | (with_reducible exact Below.refl _ _) | (with_reducible assumption) | (with_reducible apply below_drewN) | (with_reducible apply Below.drew) | ((with_reducible refine Below.setCell ?_ ?_ _); rotate_left; focus (first | (simp; done) | (simp; omega) | omega)) | ((with_reducible refine Below.alloc ?_ ?_ _); rotate_left; focus (first | (simp; done) | (simp; omega) | omega))))⟩

end Go.Proofs.Ytnmpfooegnmknaa.Tr
