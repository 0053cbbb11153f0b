/- What the program's single trials of a value answer, for every right value. -/
import Derived.Test.YtdchhjnmhnehiaaGreatDoorEncUQ
import Derived.Test.YtdchhjnmhnehiaaGreatDoorOrdSQ
import Derived.Test.YtdchhjnmhnehiaaGreatDoorUnder
import Derived.Test.YtdchhjnmhnehiaaGreatDoorListA
import Derived.Deep.RegionWith
import Derived.BigQuiet
namespace Go.Proofs.YtdchhjnmhnehiaaGreatDoor
open Go.RowKit
set_option linter.unusedVariables false

/-- Four cells in the first new block, three in the second. -/
structure B43 (w W : World) (a b c d x y z : Value) : Prop where
  bel : Below w.heap.size w W
  lt : w.heap.size + 1 < W.heap.size
  c0 : W.cell? ⟨w.heap.size, 0, none⟩ = some a
  c1 : W.cell? ⟨w.heap.size, 1, none⟩ = some b
  c2 : W.cell? ⟨w.heap.size, 2, none⟩ = some c
  c3 : W.cell? ⟨w.heap.size, 3, none⟩ = some d
  d0 : W.cell? ⟨w.heap.size + 1, 0, none⟩ = some x
  d1 : W.cell? ⟨w.heap.size + 1, 1, none⟩ = some y
  d2 : W.cell? ⟨w.heap.size + 1, 2, none⟩ = some z
theorem B43.start (w : World) (a b c d x y z : Value) (T U : TypeId) : B43 w ((w.alloc (.cells #[a, b, c, d] T)).alloc (.cells #[x, y, z] U)) a b c d x y z :=
  ⟨((Below.refl _ _).alloc (Nat.le_refl _) _).alloc (by simp) _, by simp, by simp [go_sem], by simp [go_sem], by simp [go_sem], by simp [go_sem], by simp [go_sem], by simp [go_sem], by simp [go_sem]⟩
theorem B43.step {w W W' : World} {a b c d x y z : Value} (h : B43 w W a b c d x y z) (hb : Below W.heap.size W W') : B43 w W' a b c d x y z :=
  have hl : w.heap.size < W.heap.size := Nat.lt_of_succ_lt h.lt
  ⟨h.bel.trans (hb.mono h.bel.size), Nat.lt_of_lt_of_le h.lt hb.size, (hb.cell hl).trans h.c0, (hb.cell hl).trans h.c1, (hb.cell hl).trans h.c2, (hb.cell hl).trans h.c3, (hb.cell h.lt).trans h.d0, (hb.cell h.lt).trans h.d1, (hb.cell h.lt).trans h.d2⟩
theorem val_eq (a b : Val) : (a.k == b.k && (a.n == b.n && a.t.toList == b.t.toList)) = decide (a = b) := by
  by_cases h : a = b
  · subst h; simp
  · rw [decide_eq_false h]
    by_cases h1 : a.k = b.k
    · by_cases h2 : a.n = b.n
      · have h3 : a.t ≠ b.t := fun e => h (val_ext h1 h2 e)
        rw [toList_ne h3]; simp
      · rw [beq_eq_false_iff_ne.mpr h2]; simp
    · rw [beq_eq_false_iff_ne.mpr h1]; simp

theorem val_ne (a b : Val) (h : a ≠ b) : ((a.k == b.k) = false) ∨ ((a.k == b.k) = true ∧ (a.n == b.n) = false) ∨ ((a.k == b.k) = true ∧ (a.n == b.n) = true ∧ (a.t.toList == b.t.toList) = false) := by
  by_cases h1 : a.k = b.k
  · by_cases h2 : a.n = b.n
    · exact .inr (.inr ⟨by simp [h1], by simp [h2], toList_ne (fun e => h (val_ext h1 h2 e))⟩)
    · exact .inr (.inl ⟨by simp [h1], beq_eq_false_iff_ne.mpr h2⟩)
  · exact .inl (beq_eq_false_iff_ne.mpr h1)

set_option maxRecDepth 4000 in
set_option maxHeartbeats 1000000 in
theorem indexVal_any (p : Option Addr) (cap : Nat) (l : List Val) (v : Val) (w : World) (hr : RowV w p l) (hl : l.length ≤ 1048576) :
    Calls Tryz.prog 138 #[.slice p l.length cap, .agg #[.int .i64 v.k, .int .i64 v.n, .string v.t]] w fun e w' => (∃ i : Int, e = .returned (.int .i64 i) ∧ decide (0 ≤ i) = l.any (fun u => decide (u = v))) ∧ Below w.heap.size w w' := by
  have X0 := Boxed.start w (.int .i64 v.k) (.int .i64 v.n) (.string v.t) 38
  have HR : Hid (RowV _ _ _) := hr.next X0.bel
  clear hr
  go_enter Tryz.func138, Tryz.ntmps138
  go_wp2_with fail
  generalize w.alloc (.cells #[.int .i64 v.k, .int .i64 v.n, .string v.t] 38) = W0 at X0 HR ⊢
  go_loopw [8] (fun i wr => ∃ k : Nat, k ≤ l.length ∧ i = .int .i64 k ∧ (∀ u ∈ l.take k, u ≠ v) ∧ Below W0.heap.size W0 wr) (fun i _ => l.length - (intOf i).toNat)
  case atStart => exact ⟨0, Nat.zero_le _, rfl, fun u hu => by simp at hu, Below.refl _ _⟩
  case round =>
    obtain ⟨k, hk, rfl, hall, hbel⟩ := hrel
    have HA : Hid _ := hall
    have X := X0.step hbel
    have a0 := X.c0
    have a1 := X.c1
    have a2 := X.c2
    have hbw := X.bel
    clear hall X
    by_cases hlt : k < l.length
    · rcases HR.out.next hbel with h0 | ⟨g, rfl, R⟩
      · subst h0; simp at hlt
      obtain ⟨x0, x1, x2⟩ := R.cells k hlt
      have hlt2 : (k : Int) < (l.length : Int) := by omega
      have hve := val_eq v l[k]
      clear R
      by_cases he : v = l[k]
      · rw [decide_eq_true he] at hve
        have hal : l.any (fun u => decide (u = v)) = true := List.any_eq_true.mpr ⟨l[k], List.getElem_mem _, by simp [he]⟩
        have HL : Hid _ := hal
        simp only [Bool.and_eq_true] at hve
        obtain ⟨q1, q2, q3⟩ := hve
        clear hal he
        go_wp2_with fail
        go_quiet (fail)
        go_wp2_with fail
        go_ret
        exact ⟨⟨k, rfl, by rw [HL.out]; exact decide_eq_true (by omega)⟩, by (repeat (first | (with_reducible exact Below.refl _ _) | (with_reducible assumption) | (with_reducible apply below_drewN) | (with_reducible apply Below.drew) | ((with_reducible refine Below.setCell ?_ ?_ _); rotate_left; focus (first | (simp; done) | (simp; omega) | omega)) | ((with_reducible refine Below.alloc ?_ ?_ _); rotate_left; focus (first | (simp; done) | (simp; omega) | omega))))⟩
      · have hne := val_ne v l[k] he
        have HE : Hid _ := he
        clear he hve
        rcases hne with q1 | ⟨q1, q2⟩ | ⟨q1, q2, q3⟩
        all_goals
          go_wp2_with fail
          go_quiet (fail)
          go_wp2_with fail
          go_roundw
          case rel =>
            refine ⟨k + 1, by omega, by go_num, ?_, by (repeat (first | (with_reducible exact Below.refl _ _) | (with_reducible assumption) | (with_reducible apply below_drewN) | (with_reducible apply Below.drew) | ((with_reducible refine Below.setCell ?_ ?_ _); rotate_left; focus (first | (simp; done) | (simp; omega) | omega)) | ((with_reducible refine Below.alloc ?_ ?_ _); rotate_left; focus (first | (simp; done) | (simp; omega) | omega))))⟩
            intro u hu
            rw [List.take_succ_eq_append_getElem hlt] at hu
            rcases List.mem_append.mp hu with h | h
            · exact HA.out u h
            · simp at h; subst h; exact fun e => HE.out e.symm
          case measure => simp [intOf]; omega
    · have hlt2 : ¬ (k : Int) < (l.length : Int) := by omega
      have hal : l.any (fun u => decide (u = v)) = false := by
        rw [Bool.eq_false_iff]; intro hh
        obtain ⟨u, hu, he⟩ := List.any_eq_true.mp hh
        have := HA.out u (by rw [List.take_of_length_le (by omega)]; exact hu)
        exact this (by simpa using he)
      have HL : Hid _ := hal
      clear hal
      go_wp2_with fail
      go_ret
      exact ⟨⟨-1, rfl, by rw [HL.out]; rfl⟩, hbw⟩

set_option maxHeartbeats 400000 in
theorem containsVal_any (p : Option Addr) (cap : Nat) (l : List Val) (v : Val) (w : World) (hr : RowV w p l) (hl : l.length ≤ 1048576) :
    Calls Tryz.prog 119 #[.slice p l.length cap, .agg #[.int .i64 v.k, .int .i64 v.n, .string v.t]] w fun e w' => e = .returned (.bool (l.any (fun u => decide (u = v)))) ∧ Below w.heap.size w w' := by
  have X0 := Boxed.start w (.int .i64 v.k) (.int .i64 v.n) (.string v.t) 38
  have HR : Hid (RowV _ _ _) := hr.next X0.bel
  clear hr
  go_enter Tryz.func119, Tryz.ntmps119
  go_wp2_with fail
  refine (indexVal_any p cap l v _ HR.out hl).mono ?_
  rintro e w1 ⟨⟨i, rfl, hi⟩, hb⟩
  have hbw := (X0.step hb).bel
  have HI : Hid _ := hi
  clear hi hb
  go_wp2_with fail
  go_ret
  exact ⟨ret_bool HI.out, hbw⟩

end Go.Proofs.YtdchhjnmhnehiaaGreatDoor
