/- What the specification's trial of one value, and of a whole document, by a term answers. -/
import Derived.Test.YtdchhjnmhnehiaaGreatDoorTermM
import Derived.Test.YtdchhjnmhnehiaaGreatDoorTermW
import Derived.Test.YtdchhjnmhnehiaaGreatDoorTrialA
import Derived.Test.YtdchhjnmhnehiaaGreatDoorOrdT
import Derived.Test.YtdchhjnmhnehiaaGreatDoorGetU
import Derived.BigQuiet
namespace Go.Proofs.YtdchhjnmhnehiaaGreatDoor
open Go.RowKit
set_option linter.unusedVariables false

/-- Five cells in the first new block, three in the second. -/
structure B53 (w W : World) (a b c d e x y z : Value) : Prop where
  bel : Below w.heap.size w W
  lt : w.heap.size + 1 < W.heap.size
  c0 : W.cell? ⟨w.heap.size, 0, none⟩ = some a
  c1 : W.cell? ⟨w.heap.size, 1, none⟩ = some b
  c2 : W.cell? ⟨w.heap.size, 2, none⟩ = some c
  c3 : W.cell? ⟨w.heap.size, 3, none⟩ = some d
  c4 : W.cell? ⟨w.heap.size, 4, none⟩ = some e
  d0 : W.cell? ⟨w.heap.size + 1, 0, none⟩ = some x
  d1 : W.cell? ⟨w.heap.size + 1, 1, none⟩ = some y
  d2 : W.cell? ⟨w.heap.size + 1, 2, none⟩ = some z
theorem B53.start (w : World) (a b c d e x y z : Value) (T U : TypeId) : B53 w ((w.alloc (.cells #[a, b, c, d, e] T)).alloc (.cells #[x, y, z] U)) a b c d e x y z :=
  ⟨((Below.refl _ _).alloc (Nat.le_refl _) _).alloc (by simp) _, by simp, by simp [go_sem], by simp [go_sem], by simp [go_sem], by simp [go_sem], by simp [go_sem], by simp [go_sem], by simp [go_sem], by simp [go_sem]⟩
theorem B53.step {w W W' : World} {a b c d e x y z : Value} (h : B53 w W a b c d e x y z) (hb : Below W.heap.size W W') : B53 w W' a b c d e x y z :=
  have hl : w.heap.size < W.heap.size := Nat.lt_of_succ_lt h.lt
  ⟨h.bel.trans (hb.mono h.bel.size), Nat.lt_of_lt_of_le h.lt hb.size, (hb.cell hl).trans h.c0, (hb.cell hl).trans h.c1, (hb.cell hl).trans h.c2, (hb.cell hl).trans h.c3, (hb.cell hl).trans h.c4, (hb.cell h.lt).trans h.d0, (hb.cell h.lt).trans h.d1, (hb.cell h.lt).trans h.d2⟩

theorem oneT_eq (c v : Val) (op : Int) (h : op = 1 ∨ op = 2) : oneT op c v = (v.k == c.k && (v.n == c.n && v.t.toList == c.t.toList)) := by unfold oneT; rw [if_pos h, val_eq]
theorem kind_eq (c v : Val) : (v.k == c.k) = decide (v.k = c.k) := by rw [Bool.eq_iff_iff]; simp

set_option maxRecDepth 8000 in
set_option maxHeartbeats 4000000 in
theorem l03One_any (op : Int) (p : ByteArray) (c v : Val) (w : World) (hop : 1 ≤ op ∧ op ≤ 10 ∧ op ≠ 8) (h7 : op = 7 → c.k = 4) (hc : okB c = true) (hv : okB v = true) :
    Calls Tryz.prog 114 #[.agg #[.int .i64 op, .string p, .int .i64 c.k, .int .i64 c.n, .string c.t], .agg #[.int .i64 v.k, .int .i64 v.n, .string v.t]] w fun e w' => e = .returned (.bool (oneT op c v)) ∧ Below w.heap.size w w' := by
  have X0 := B53.start w (.int .i64 op) (.string p) (.int .i64 c.k) (.int .i64 c.n) (.string c.t) (.int .i64 v.k) (.int .i64 v.n) (.string v.t) 85 38
  have hsc := ok_size c hc
  have hsv := ok_size v hv
  have HC : Hid (okB c = true) := hc
  have HV : Hid (okB v = true) := hv
  have H7 : Hid _ := h7
  obtain ⟨R, hR⟩ : ∃ R, R = oneT op c v := ⟨_, rfl⟩
  rw [← hR]
  have HR : Hid _ := hR
  obtain ⟨O, hO⟩ : ∃ O, O = ordV 5 v c := ⟨_, rfl⟩
  have HO : Hid _ := hO
  have HCO : Hid (∀ W : World, Calls _ _ _ W _) := fun W => l01Order_at 5 v c W (by omega) (by omega) hv hc
  rw [← hO] at HCO
  clear hc hv hR hO h7
  go_enter Tryz.func114, Tryz.ntmps114
  go_wp2_with fail
  refine (HCO.out _).mono ?_
  rintro e w1 ⟨rfl, hb⟩
  have X1 := X0.step hb
  have a0 := X1.c0
  have a2 := X1.c2
  have a3 := X1.c3
  have a4 := X1.c4
  have b0 := X1.d0
  have b1 := X1.d1
  have b2 := X1.d2
  have hbw := X1.bel
  have hz := hbw.size
  clear hb X0
  have hcs : op = 1 ∨ op = 2 ∨ op = 3 ∨ op = 4 ∨ op = 5 ∨ op = 6 ∨ op = 7 ∨ op = 9 ∨ op = 10 := by omega
  clear hop
  rcases hcs with rfl | rfl | rfl | rfl | rfl | rfl | rfl | rfl | rfl
  iterate 2
    · go_wp2_with fail
      all_goals
        go_ret
        exact ⟨ret_bool (by rw [HR.out, oneT_eq _ _ _ (by decide)]; simp [*]), hbw⟩
  iterate 4
    · have hRo := HR.out
      rw [oneT_ord _ c v (by decide), ← HO.out] at hRo
      by_cases hk : v.k = c.k
      · have ek : (v.k == c.k) = true := by simp [hk]
        rw [decide_eq_true hk, Bool.true_and] at hRo
        have HRO : Hid _ := hRo
        clear HR hRo
        go_wp2_with fail
        go_ret
        exact ⟨ret_bool (by rw [HRO.out]; simp [fitsO]), hbw⟩
      · have ek : (v.k == c.k) = false := beq_eq_false_iff_ne.mpr hk
        rw [decide_eq_false hk, Bool.false_and] at hRo
        clear HR
        subst hRo
        go_wp2_with fail
        go_ret
        exact ⟨rfl, hbw⟩
  · obtain ⟨hi, hl, _⟩ := ok_items c HC.out (H7.out rfl)
    have hRo : R = (itms c).any (fun u => decide (u = v)) := by rw [HR.out]; unfold oneT; simp
    obtain ⟨L, hL⟩ : ∃ L, L = itms c := ⟨_, rfl⟩
    rw [← hL] at hi hl hRo
    have HI : Hid _ := hi
    have HRO : Hid _ := hRo
    clear hi hL hRo HR
    go_wp2_with fail
    refine (l01Items_any c.t _ (by omega)).mono ?_
    rintro e w2 ⟨⟨g1, m, cap1, rfl, hown0⟩, hb⟩
    obtain ⟨rfl, hown1⟩ := hown0 L HI.out
    rw [HI.out]
    have X2 := X1.step hb
    have HRV : Hid (ReadV _ _ _) := ReadV.of_own hown1
    clear hown0 hown1 hb X1 a0 a2 a3 a4 b0 b1 b2 hbw hz
    go_wp2_with fail
    go_loopw [9] (fun i wr => ∃ k : Nat, k ≤ L.length ∧ i = .int .i64 k ∧ (∀ u ∈ L.take k, u ≠ v) ∧ Below w2.heap.size w2 wr) (fun i _ => L.length - (intOf i).toNat)
    case atStart => exact ⟨0, Nat.zero_le _, rfl, fun u hu => by simp at hu, Below.refl _ _⟩
    case round =>
      obtain ⟨k, hk, rfl, hall, hbel⟩ := hrel
      have HA : Hid _ := hall
      have X := X2.step hbel
      have b0 := X.d0
      have b1 := X.d1
      have b2 := X.d2
      have hbw := X.bel
      clear hall X
      by_cases hlt : k < L.length
      · have RR := HRV.out.next hbel
        obtain ⟨x0, x1, x2⟩ := RR.cells k hlt
        have hlt2 : (k : Int) < (L.length : Int) := by omega
        have hve := val_eq L[k] v
        clear RR
        by_cases he : L[k] = v
        · rw [decide_eq_true he] at hve
          have hal : L.any (fun u => decide (u = v)) = true := List.any_eq_true.mpr ⟨L[k], List.getElem_mem _, by simp [he]⟩
          have hRt := HRO.out
          rw [hal] at hRt
          subst hRt
          simp only [Bool.and_eq_true] at hve
          obtain ⟨q1, q2, q3⟩ := hve
          clear hal he HRO
          go_wp2_with fail
          go_quiet (fail)
          go_wp2_with fail
          go_ret
          exact ⟨rfl, by (repeat (first | (with_reducible exact Below.refl _ _) | (with_reducible assumption) | (with_reducible apply below_drewN) | (with_reducible apply Below.drew) | ((with_reducible refine Below.setCell ?_ ?_ _); rotate_left; focus (first | (simp; done) | (simp; omega) | omega)) | ((with_reducible refine Below.alloc ?_ ?_ _); rotate_left; focus (first | (simp; done) | (simp; omega) | omega))))⟩
        · have hne := val_ne L[k] v he
          have HE : Hid _ := he
          clear he hve
          rcases hne with q1 | ⟨q1, q2⟩ | ⟨q1, q2, q3⟩
          all_goals
            go_wp2_with fail
            go_quiet (fail)
            go_wp2_with fail
            go_roundw
            case rel =>
              refine ⟨k + 1, by omega, by go_num, ?_, by (repeat (first | (with_reducible exact Below.refl _ _) | (with_reducible assumption) | (with_reducible apply below_drewN) | (with_reducible apply Below.drew) | ((with_reducible refine Below.setCell ?_ ?_ _); rotate_left; focus (first | (simp; done) | (simp; omega) | omega)) | ((with_reducible refine Below.alloc ?_ ?_ _); rotate_left; focus (first | (simp; done) | (simp; omega) | omega))))⟩
              intro u hu
              rw [List.take_succ_eq_append_getElem hlt] at hu
              rcases List.mem_append.mp hu with h | h
              · exact HA.out u h
              · simp at h; subst h; exact HE.out
            case measure => simp [intOf]; omega
      · have hlt2 : ¬ (k : Int) < (L.length : Int) := by omega
        have hal : L.any (fun u => decide (u = v)) = false := by
          rw [Bool.eq_false_iff]; intro hh
          obtain ⟨u, hu, he⟩ := List.any_eq_true.mp hh
          have := HA.out u (by rw [List.take_of_length_le (by omega)]; exact hu)
          exact this (by simpa using he)
        have hRt := HRO.out
        rw [hal] at hRt
        subst hRt
        clear hal HRO
        go_wp2_with fail
        go_ret
        exact ⟨rfl, hbw⟩
  · go_wp2_with fail
    go_ret
    exact ⟨ret_bool (by rw [HR.out]; unfold oneT; rw [Bool.eq_iff_iff]; simp), hbw⟩
  · by_cases h4 : v.k = 4
    · obtain ⟨hi, hl, _⟩ := ok_items v HV.out h4
      have hRo : R = decide (((itms v).length : Int) = c.n) := by rw [HR.out]; unfold oneT; simp [h4]
      obtain ⟨L, hL⟩ : ∃ L, L = itms v := ⟨_, rfl⟩
      rw [← hL] at hi hl hRo
      have HI : Hid _ := hi
      have e4 : (v.k == 4) = true := by simp [h4]
      clear hi hL HR h4
      subst hRo
      go_wp2_with fail
      refine (l01Items_any v.t _ (by omega)).mono ?_
      rintro e w2 ⟨⟨g1, m, cap1, rfl, hown0⟩, hb⟩
      obtain ⟨rfl, hown1⟩ := hown0 L HI.out
      rw [HI.out]
      have X2 := X1.step hb
      have d0 := X2.d0
      have d3 := X2.c3
      have hbw2 := X2.bel
      clear hown0 hown1 hb X1 X2 a0 a2 a3 a4 b0 b1 b2 hbw hz
      go_wp2_with fail
      go_ret
      exact ⟨ret_bool (by rw [Bool.eq_iff_iff]; simp), hbw2⟩
    · have hRo : R = false := by rw [HR.out]; unfold oneT; simp [h4]
      have e4 : (v.k == 4) = false := beq_eq_false_iff_ne.mpr h4
      clear HR
      subst hRo
      go_wp2_with fail
      refine (l01Items_any v.t _ (by omega)).mono ?_
      rintro e w2 ⟨⟨g1, m, cap1, rfl, hown0⟩, hb⟩
      have X2 := X1.step hb
      have d0 := X2.d0
      have hbw2 := X2.bel
      clear hown0 hb X1 X2 a0 a2 a3 a4 b0 b1 b2 hbw hz
      go_wp2_with fail
      go_ret
      exact ⟨rfl, hbw2⟩

end Go.Proofs.YtdchhjnmhnehiaaGreatDoor
