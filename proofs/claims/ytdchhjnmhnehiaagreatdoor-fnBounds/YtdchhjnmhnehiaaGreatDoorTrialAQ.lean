/- What the program's single trials of a value answer, for every right value. -/
import Derived.Test.YtdchhjnmhnehiaaGreatDoorEncUQ
import Derived.Test.YtdchhjnmhnehiaaGreatDoorOrdSQ
import Derived.Test.YtdchhjnmhnehiaaGreatDoorUnder
import Derived.Test.YtdchhjnmhnehiaaGreatDoorListAQ
import Derived.Deep.RegionWith
import Derived.BigQuiet
import Derived.Test.YtdchhjnmhnehiaaGreatDoorSplitWQ
import Derived.Test.YtdchhjnmhnehiaaGreatDoorGetSQ
import Derived.Deep.DeepCutAuto
import Derived.Deep.RegionHeld3
import Derived.Test.YtdchhjnmhnehiaaGreatDoorLawVal
import Derived.Test.YtdchhjnmhnehiaaGreatDoorOKD
namespace Go.Proofs.YtdchhjnmhnehiaaGreatDoor
open Go.RowKit
set_option linter.unusedVariables false

/-- Four cells in the first new block, three in the second. -/
structure B43 (w W : World) (a b c d x y z : Value) : Prop where
  bel : Below w.heap.size w W
  lt : w.heap.size + 1 < W.heap.size
  c0 : W.cell? ⟨w.heap.size, 0, none⟩ = some a
  c1 : W.cell? ⟨w.heap.size, 1, none⟩ = some b
  c2 : W.cell? ⟨w.heap.size, 2, none⟩ = some c
  c3 : W.cell? ⟨w.heap.size, 3, none⟩ = some d
  d0 : W.cell? ⟨w.heap.size + 1, 0, none⟩ = some x
  d1 : W.cell? ⟨w.heap.size + 1, 1, none⟩ = some y
  d2 : W.cell? ⟨w.heap.size + 1, 2, none⟩ = some z
theorem B43.start (w : World) (a b c d x y z : Value) (T U : TypeId) : B43 w ((w.alloc (.cells #[a, b, c, d] T)).alloc (.cells #[x, y, z] U)) a b c d x y z :=
  ⟨((Below.refl _ _).alloc (Nat.le_refl _) _).alloc (by simp) _, by simp, by simp [go_sem], by simp [go_sem], by simp [go_sem], by simp [go_sem], by simp [go_sem], by simp [go_sem], by simp [go_sem]⟩
theorem B43.step {w W W' : World} {a b c d x y z : Value} (h : B43 w W a b c d x y z) (hb : Below W.heap.size W W') : B43 w W' a b c d x y z :=
  have hl : w.heap.size < W.heap.size := Nat.lt_of_succ_lt h.lt
  ⟨h.bel.trans (hb.mono h.bel.size), Nat.lt_of_lt_of_le h.lt hb.size, (hb.cell hl).trans h.c0, (hb.cell hl).trans h.c1, (hb.cell hl).trans h.c2, (hb.cell hl).trans h.c3, (hb.cell h.lt).trans h.d0, (hb.cell h.lt).trans h.d1, (hb.cell h.lt).trans h.d2⟩
theorem val_eq (a b : Val) : (a.k == b.k && (a.n == b.n && a.t.toList == b.t.toList)) = decide (a = b) := by
  by_cases h : a = b
  · subst h; simp
  · rw [decide_eq_false h]
    by_cases h1 : a.k = b.k
    · by_cases h2 : a.n = b.n
      · have h3 : a.t ≠ b.t := fun e => h (val_ext h1 h2 e)
        rw [toList_ne h3]; simp
      · rw [beq_eq_false_iff_ne.mpr h2]; simp
    · rw [beq_eq_false_iff_ne.mpr h1]; simp

theorem val_ne (a b : Val) (h : a ≠ b) : ((a.k == b.k) = false) ∨ ((a.k == b.k) = true ∧ (a.n == b.n) = false) ∨ ((a.k == b.k) = true ∧ (a.n == b.n) = true ∧ (a.t.toList == b.t.toList) = false) := by
  by_cases h1 : a.k = b.k
  · by_cases h2 : a.n = b.n
    · exact .inr (.inr ⟨by simp [h1], by simp [h2], toList_ne (fun e => h (val_ext h1 h2 e))⟩)
    · exact .inr (.inl ⟨by simp [h1], beq_eq_false_iff_ne.mpr h2⟩)
  · exact .inl (beq_eq_false_iff_ne.mpr h1)

set_option maxRecDepth 4000 in
set_option maxHeartbeats 1000000 in
theorem indexVal_any (p : Option Addr) (cap : Nat) (l : List Val) (v : Val) (w : World) (hr : RowV w p l) (hl : l.length ≤ 1048576) :
    Calls Tryz.prog 138 #[.slice p l.length cap, .agg #[.int .i64 v.k, .int .i64 v.n, .string v.t]] w fun e w' => (∃ i : Int, e = .returned (.int .i64 i) ∧ decide (0 ≤ i) = l.any (fun u => decide (u = v))) ∧ Below w.heap.size w w' := by
  have X0 := Boxed.start w (.int .i64 v.k) (.int .i64 v.n) (.string v.t) 38
  have HR : Hid (RowV _ _ _) := hr.next X0.bel
  clear hr
  go_enter Tryz.func138, Tryz.ntmps138
  go_wp2_with fail
  generalize w.alloc (.cells #[.int .i64 v.k, .int .i64 v.n, .string v.t] 38) = W0 at X0 HR ⊢
  go_loopw [8] (fun i wr => ∃ k : Nat, k ≤ l.length ∧ i = .int .i64 k ∧ (∀ u ∈ l.take k, u ≠ v) ∧ Below W0.heap.size W0 wr) (fun i _ => l.length - (intOf i).toNat)
  case atStart => exact ⟨0, Nat.zero_le _, rfl, fun u hu => by simp at hu, Below.refl _ _⟩
  case round =>
    obtain ⟨k, hk, rfl, hall, hbel⟩ := hrel
    have HA : Hid _ := hall
    have X := X0.step hbel
    have a0 := X.c0
    have a1 := X.c1
    have a2 := X.c2
    have hbw := X.bel
    clear hall X
    by_cases hlt : k < l.length
    · rcases HR.out.next hbel with h0 | ⟨g, rfl, R⟩
      · subst h0; simp at hlt
      obtain ⟨x0, x1, x2⟩ := R.cells k hlt
      have hlt2 : (k : Int) < (l.length : Int) := by omega
      have hve := val_eq v l[k]
      clear R
      by_cases he : v = l[k]
      · rw [decide_eq_true he] at hve
        have hal : l.any (fun u => decide (u = v)) = true := List.any_eq_true.mpr ⟨l[k], List.getElem_mem _, by simp [he]⟩
        have HL : Hid _ := hal
        simp only [Bool.and_eq_true] at hve
        obtain ⟨q1, q2, q3⟩ := hve
        clear hal he
        go_wp2_with fail
        go_quiet (fail)
        go_wp2_with fail
        go_ret
        exact ⟨⟨k, rfl, by rw [HL.out]; exact decide_eq_true (by omega)⟩, by (repeat (first | (with_reducible exact Below.refl _ _) | (with_reducible assumption) | (with_reducible apply below_drewN) | (with_reducible apply Below.drew) | ((with_reducible refine Below.setCell ?_ ?_ _); rotate_left; focus (first | (simp; done) | (simp; omega) | omega)) | ((with_reducible refine Below.alloc ?_ ?_ _); rotate_left; focus (first | (simp; done) | (simp; omega) | omega))))⟩
      · have hne := val_ne v l[k] he
        have HE : Hid _ := he
        clear he hve
        rcases hne with q1 | ⟨q1, q2⟩ | ⟨q1, q2, q3⟩
        all_goals
          go_wp2_with fail
          go_quiet (fail)
          go_wp2_with fail
          go_roundw
          case rel =>
            refine ⟨k + 1, by omega, by go_num, ?_, by (repeat (first | (with_reducible exact Below.refl _ _) | (with_reducible assumption) | (with_reducible apply below_drewN) | (with_reducible apply Below.drew) | ((with_reducible refine Below.setCell ?_ ?_ _); rotate_left; focus (first | (simp; done) | (simp; omega) | omega)) | ((with_reducible refine Below.alloc ?_ ?_ _); rotate_left; focus (first | (simp; done) | (simp; omega) | omega))))⟩
            intro u hu
            rw [List.take_succ_eq_append_getElem hlt] at hu
            rcases List.mem_append.mp hu with h | h
            · exact HA.out u h
            · simp at h; subst h; exact fun e => HE.out e.symm
          case measure => simp [intOf]; omega
    · have hlt2 : ¬ (k : Int) < (l.length : Int) := by omega
      have hal : l.any (fun u => decide (u = v)) = false := by
        rw [Bool.eq_false_iff]; intro hh
        obtain ⟨u, hu, he⟩ := List.any_eq_true.mp hh
        have := HA.out u (by rw [List.take_of_length_le (by omega)]; exact hu)
        exact this (by simpa using he)
      have HL : Hid _ := hal
      clear hal
      go_wp2_with fail
      go_ret
      exact ⟨⟨-1, rfl, by rw [HL.out]; rfl⟩, hbw⟩

set_option maxHeartbeats 400000 in
theorem containsVal_any (p : Option Addr) (cap : Nat) (l : List Val) (v : Val) (w : World) (hr : RowV w p l) (hl : l.length ≤ 1048576) :
    Calls Tryz.prog 119 #[.slice p l.length cap, .agg #[.int .i64 v.k, .int .i64 v.n, .string v.t]] w fun e w' => e = .returned (.bool (l.any (fun u => decide (u = v)))) ∧ Below w.heap.size w w' := by
  have X0 := Boxed.start w (.int .i64 v.k) (.int .i64 v.n) (.string v.t) 38
  have HR : Hid (RowV _ _ _) := hr.next X0.bel
  clear hr
  go_enter Tryz.func119, Tryz.ntmps119
  go_wp2_with fail
  refine (indexVal_any p cap l v _ HR.out hl).mono ?_
  rintro e w1 ⟨⟨i, rfl, hi⟩, hb⟩
  have hbw := (X0.step hb).bel
  have HI : Hid _ := hi
  clear hi hb
  go_wp2_with fail
  go_ret
  exact ⟨ret_bool HI.out, hbw⟩

end Go.Proofs.YtdchhjnmhnehiaaGreatDoor

/- What the library's search among values by one of the program's trials answers. -/
namespace Go.Proofs.YtdchhjnmhnehiaaGreatDoor
open Go.RowKit
set_option linter.unusedVariables false

end Go.Proofs.YtdchhjnmhnehiaaGreatDoor

/- What the specification's trial of one value, and of a whole document, by a term answers. -/
namespace Go.Proofs.YtdchhjnmhnehiaaGreatDoor
open Go.RowKit
set_option linter.unusedVariables false

/-- Five cells in the first new block, three in the second. -/
structure B53 (w W : World) (a b c d e x y z : Value) : Prop where
  bel : Below w.heap.size w W
  lt : w.heap.size + 1 < W.heap.size
  c0 : W.cell? ⟨w.heap.size, 0, none⟩ = some a
  c1 : W.cell? ⟨w.heap.size, 1, none⟩ = some b
  c2 : W.cell? ⟨w.heap.size, 2, none⟩ = some c
  c3 : W.cell? ⟨w.heap.size, 3, none⟩ = some d
  c4 : W.cell? ⟨w.heap.size, 4, none⟩ = some e
  d0 : W.cell? ⟨w.heap.size + 1, 0, none⟩ = some x
  d1 : W.cell? ⟨w.heap.size + 1, 1, none⟩ = some y
  d2 : W.cell? ⟨w.heap.size + 1, 2, none⟩ = some z
theorem B53.start (w : World) (a b c d e x y z : Value) (T U : TypeId) : B53 w ((w.alloc (.cells #[a, b, c, d, e] T)).alloc (.cells #[x, y, z] U)) a b c d e x y z :=
  ⟨((Below.refl _ _).alloc (Nat.le_refl _) _).alloc (by simp) _, by simp, by simp [go_sem], by simp [go_sem], by simp [go_sem], by simp [go_sem], by simp [go_sem], by simp [go_sem], by simp [go_sem], by simp [go_sem]⟩
theorem B53.step {w W W' : World} {a b c d e x y z : Value} (h : B53 w W a b c d e x y z) (hb : Below W.heap.size W W') : B53 w W' a b c d e x y z :=
  have hl : w.heap.size < W.heap.size := Nat.lt_of_succ_lt h.lt
  ⟨h.bel.trans (hb.mono h.bel.size), Nat.lt_of_lt_of_le h.lt hb.size, (hb.cell hl).trans h.c0, (hb.cell hl).trans h.c1, (hb.cell hl).trans h.c2, (hb.cell hl).trans h.c3, (hb.cell hl).trans h.c4, (hb.cell h.lt).trans h.d0, (hb.cell h.lt).trans h.d1, (hb.cell h.lt).trans h.d2⟩

theorem oneT_eq (c v : Val) (op : Int) (h : op = 1 ∨ op = 2) : oneT op c v = (v.k == c.k && (v.n == c.n && v.t.toList == c.t.toList)) := by unfold oneT; rw [if_pos h, val_eq]
theorem kind_eq (c v : Val) : (v.k == c.k) = decide (v.k = c.k) := by rw [Bool.eq_iff_iff]; simp

set_option maxRecDepth 8000 in
set_option maxHeartbeats 4000000 in
theorem l03One_any (op : Int) (p : ByteArray) (c v : Val) (w : World) (hop : 1 ≤ op ∧ op ≤ 10 ∧ op ≠ 8) (h7 : op = 7 → c.k = 4) (hc : okB c = true) (hv : okB v = true) :
    Calls Tryz.prog 114 #[.agg #[.int .i64 op, .string p, .int .i64 c.k, .int .i64 c.n, .string c.t], .agg #[.int .i64 v.k, .int .i64 v.n, .string v.t]] w fun e w' => e = .returned (.bool (oneT op c v)) ∧ Below w.heap.size w w' := by
  have X0 := B53.start w (.int .i64 op) (.string p) (.int .i64 c.k) (.int .i64 c.n) (.string c.t) (.int .i64 v.k) (.int .i64 v.n) (.string v.t) 85 38
  have hsc := ok_size c hc
  have hsv := ok_size v hv
  have HC : Hid (okB c = true) := hc
  have HV : Hid (okB v = true) := hv
  have H7 : Hid _ := h7
  obtain ⟨R, hR⟩ : ∃ R, R = oneT op c v := ⟨_, rfl⟩
  rw [← hR]
  have HR : Hid _ := hR
  obtain ⟨O, hO⟩ : ∃ O, O = ordV 5 v c := ⟨_, rfl⟩
  have HO : Hid _ := hO
  have HCO : Hid (∀ W : World, Calls _ _ _ W _) := fun W => l01Order_at 5 v c W (by omega) (by omega) hv hc
  rw [← hO] at HCO
  clear hc hv hR hO h7
  go_enter Tryz.func114, Tryz.ntmps114
  go_wp2_with fail
  refine (HCO.out _).mono ?_
  rintro e w1 ⟨rfl, hb⟩
  have X1 := X0.step hb
  have a0 := X1.c0
  have a2 := X1.c2
  have a3 := X1.c3
  have a4 := X1.c4
  have b0 := X1.d0
  have b1 := X1.d1
  have b2 := X1.d2
  have hbw := X1.bel
  have hz := hbw.size
  clear hb X0
  have hcs : op = 1 ∨ op = 2 ∨ op = 3 ∨ op = 4 ∨ op = 5 ∨ op = 6 ∨ op = 7 ∨ op = 9 ∨ op = 10 := by omega
  clear hop
  rcases hcs with rfl | rfl | rfl | rfl | rfl | rfl | rfl | rfl | rfl
  iterate 2
    · go_wp2_with fail
      all_goals
        go_ret
        exact ⟨ret_bool (by rw [HR.out, oneT_eq _ _ _ (by decide)]; simp [*]), hbw⟩
  iterate 4
    · have hRo := HR.out
      rw [oneT_ord _ c v (by decide), ← HO.out] at hRo
      by_cases hk : v.k = c.k
      · have ek : (v.k == c.k) = true := by simp [hk]
        rw [decide_eq_true hk, Bool.true_and] at hRo
        have HRO : Hid _ := hRo
        clear HR hRo
        go_wp2_with fail
        go_ret
        exact ⟨ret_bool (by rw [HRO.out]; simp [fitsO]), hbw⟩
      · have ek : (v.k == c.k) = false := beq_eq_false_iff_ne.mpr hk
        rw [decide_eq_false hk, Bool.false_and] at hRo
        clear HR
        subst hRo
        go_wp2_with fail
        go_ret
        exact ⟨rfl, hbw⟩
  · obtain ⟨hi, hl, _⟩ := ok_items c HC.out (H7.out rfl)
    have hRo : R = (itms c).any (fun u => decide (u = v)) := by rw [HR.out]; unfold oneT; simp
    obtain ⟨L, hL⟩ : ∃ L, L = itms c := ⟨_, rfl⟩
    rw [← hL] at hi hl hRo
    have HI : Hid _ := hi
    have HRO : Hid _ := hRo
    clear hi hL hRo HR
    go_wp2_with fail
    refine (l01Items_any c.t _ (by omega)).mono ?_
    rintro e w2 ⟨⟨g1, m, cap1, rfl, hown0⟩, hb⟩
    obtain ⟨rfl, hown1⟩ := hown0 L HI.out
    rw [HI.out]
    have X2 := X1.step hb
    have HRV : Hid (ReadV _ _ _) := ReadV.of_own hown1
    clear hown0 hown1 hb X1 a0 a2 a3 a4 b0 b1 b2 hbw hz
    go_wp2_with fail
    go_loopw [9] (fun i wr => ∃ k : Nat, k ≤ L.length ∧ i = .int .i64 k ∧ (∀ u ∈ L.take k, u ≠ v) ∧ Below w2.heap.size w2 wr) (fun i _ => L.length - (intOf i).toNat)
    case atStart => exact ⟨0, Nat.zero_le _, rfl, fun u hu => by simp at hu, Below.refl _ _⟩
    case round =>
      obtain ⟨k, hk, rfl, hall, hbel⟩ := hrel
      have HA : Hid _ := hall
      have X := X2.step hbel
      have b0 := X.d0
      have b1 := X.d1
      have b2 := X.d2
      have hbw := X.bel
      clear hall X
      by_cases hlt : k < L.length
      · have RR := HRV.out.next hbel
        obtain ⟨x0, x1, x2⟩ := RR.cells k hlt
        have hlt2 : (k : Int) < (L.length : Int) := by omega
        have hve := val_eq L[k] v
        clear RR
        by_cases he : L[k] = v
        · rw [decide_eq_true he] at hve
          have hal : L.any (fun u => decide (u = v)) = true := List.any_eq_true.mpr ⟨L[k], List.getElem_mem _, by simp [he]⟩
          have hRt := HRO.out
          rw [hal] at hRt
          subst hRt
          simp only [Bool.and_eq_true] at hve
          obtain ⟨q1, q2, q3⟩ := hve
          clear hal he HRO
          go_wp2_with fail
          go_quiet (fail)
          go_wp2_with fail
          go_ret
          exact ⟨rfl, by (repeat (first | (with_reducible exact Below.refl _ _) | (with_reducible assumption) | (with_reducible apply below_drewN) | (with_reducible apply Below.drew) | ((with_reducible refine Below.setCell ?_ ?_ _); rotate_left; focus (first | (simp; done) | (simp; omega) | omega)) | ((with_reducible refine Below.alloc ?_ ?_ _); rotate_left; focus (first | (simp; done) | (simp; omega) | omega))))⟩
        · have hne := val_ne L[k] v he
          have HE : Hid _ := he
          clear he hve
          rcases hne with q1 | ⟨q1, q2⟩ | ⟨q1, q2, q3⟩
          all_goals
            go_wp2_with fail
            go_quiet (fail)
            go_wp2_with fail
            go_roundw
            case rel =>
              refine ⟨k + 1, by omega, by go_num, ?_, by (repeat (first | (with_reducible exact Below.refl _ _) | (with_reducible assumption) | (with_reducible apply below_drewN) | (with_reducible apply Below.drew) | ((with_reducible refine Below.setCell ?_ ?_ _); rotate_left; focus (first | (simp; done) | (simp; omega) | omega)) | ((with_reducible refine Below.alloc ?_ ?_ _); rotate_left; focus (first | (simp; done) | (simp; omega) | omega))))⟩
              intro u hu
              rw [List.take_succ_eq_append_getElem hlt] at hu
              rcases List.mem_append.mp hu with h | h
              · exact HA.out u h
              · simp at h; subst h; exact HE.out
            case measure => simp [intOf]; omega
      · have hlt2 : ¬ (k : Int) < (L.length : Int) := by omega
        have hal : L.any (fun u => decide (u = v)) = false := by
          rw [Bool.eq_false_iff]; intro hh
          obtain ⟨u, hu, he⟩ := List.any_eq_true.mp hh
          have := HA.out u (by rw [List.take_of_length_le (by omega)]; exact hu)
          exact this (by simpa using he)
        have hRt := HRO.out
        rw [hal] at hRt
        subst hRt
        clear hal HRO
        go_wp2_with fail
        go_ret
        exact ⟨rfl, hbw⟩
  · go_wp2_with fail
    go_ret
    exact ⟨ret_bool (by rw [HR.out]; unfold oneT; rw [Bool.eq_iff_iff]; simp), hbw⟩
  · by_cases h4 : v.k = 4
    · obtain ⟨hi, hl, _⟩ := ok_items v HV.out h4
      have hRo : R = decide (((itms v).length : Int) = c.n) := by rw [HR.out]; unfold oneT; simp [h4]
      obtain ⟨L, hL⟩ : ∃ L, L = itms v := ⟨_, rfl⟩
      rw [← hL] at hi hl hRo
      have HI : Hid _ := hi
      have e4 : (v.k == 4) = true := by simp [h4]
      clear hi hL HR h4
      subst hRo
      go_wp2_with fail
      refine (l01Items_any v.t _ (by omega)).mono ?_
      rintro e w2 ⟨⟨g1, m, cap1, rfl, hown0⟩, hb⟩
      obtain ⟨rfl, hown1⟩ := hown0 L HI.out
      rw [HI.out]
      have X2 := X1.step hb
      have d0 := X2.d0
      have d3 := X2.c3
      have hbw2 := X2.bel
      clear hown0 hown1 hb X1 X2 a0 a2 a3 a4 b0 b1 b2 hbw hz
      go_wp2_with fail
      go_ret
      exact ⟨ret_bool (by rw [Bool.eq_iff_iff]; simp), hbw2⟩
    · have hRo : R = false := by rw [HR.out]; unfold oneT; simp [h4]
      have e4 : (v.k == 4) = false := beq_eq_false_iff_ne.mpr h4
      clear HR
      subst hRo
      go_wp2_with fail
      refine (l01Items_any v.t _ (by omega)).mono ?_
      rintro e w2 ⟨⟨g1, m, cap1, rfl, hown0⟩, hb⟩
      have X2 := X1.step hb
      have d0 := X2.d0
      have hbw2 := X2.bel
      clear hown0 hb X1 X2 a0 a2 a3 a4 b0 b1 b2 hbw hz
      go_wp2_with fail
      go_ret
      exact ⟨rfl, hbw2⟩

end Go.Proofs.YtdchhjnmhnehiaaGreatDoor

/- What the program's trials by a term's operation answer. -/
namespace Go.Proofs.YtdchhjnmhnehiaaGreatDoor
open Go.RowKit
set_option linter.unusedVariables false

/-- Four cells in the first new block. -/
structure Box4 (w W : World) (a b c d : Value) : Prop where
  bel : Below w.heap.size w W
  lt : w.heap.size < W.heap.size
  c0 : W.cell? ⟨w.heap.size, 0, none⟩ = some a
  c1 : W.cell? ⟨w.heap.size, 1, none⟩ = some b
  c2 : W.cell? ⟨w.heap.size, 2, none⟩ = some c
  c3 : W.cell? ⟨w.heap.size, 3, none⟩ = some d
theorem Box4.start (w : World) (a b c d : Value) (T : TypeId) : Box4 w (w.alloc (.cells #[a, b, c, d] T)) a b c d :=
  ⟨(Below.refl _ _).alloc (Nat.le_refl _) _, by simp, by simp [go_sem], by simp [go_sem], by simp [go_sem], by simp [go_sem]⟩
theorem Box4.step {w W W' : World} {a b c d : Value} (h : Box4 w W a b c d) (hb : Below W.heap.size W W') : Box4 w W' a b c d :=
  ⟨h.bel.trans (hb.mono h.bel.size), Nat.lt_of_lt_of_le h.lt hb.size, (hb.cell h.lt).trans h.c0, (hb.cell h.lt).trans h.c1, (hb.cell h.lt).trans h.c2, (hb.cell h.lt).trans h.c3⟩
theorem mk_func (fn : Fn) (first cap : Array Value) (w : World) : (Instr.makeFunc fn first cap).run Tryz.prog w = .ok (.func fn first cap) w := rfl

/-- What is held against a term that asks of values. -/
def withZ (l : List Val) : List Val := if l = [] then [⟨0, 0, em⟩] else l
theorem heldT_Z (op : Int) (l : List Val) (h : op ≠ 9) : heldT op l = withZ l := by unfold heldT withZ; rw [if_neg h]
end Go.Proofs.YtdchhjnmhnehiaaGreatDoor

/- What the program's trial of a document by a term answers, for every right term and document. -/
namespace Go.Proofs.YtdchhjnmhnehiaaGreatDoor
open Go.RowKit
set_option linter.unusedVariables false

/-- Some block holds four cells. -/
structure Lies4 (U : World) (b : Nat) (x y z t : Value) : Prop where
  lt : b < U.heap.size
  c0 : U.cell? ⟨b, 0, none⟩ = some x
  c1 : U.cell? ⟨b, 1, none⟩ = some y
  c2 : U.cell? ⟨b, 2, none⟩ = some z
  c3 : U.cell? ⟨b, 3, none⟩ = some t
theorem alloc_lt (w : World) (o : Obj) : w.heap.size < (w.alloc o).heap.size := by simp
theorem blk4 {W w1 : World} {a b c d : Value} {T : TypeId} (h : Below (W.alloc (.cells #[a, b, c, d] T)).heap.size (W.alloc (.cells #[a, b, c, d] T)) w1) :
    w1.cell? ⟨W.heap.size, 0, none⟩ = some a ∧ w1.cell? ⟨W.heap.size, 1, none⟩ = some b ∧ w1.cell? ⟨W.heap.size, 2, none⟩ = some c ∧ w1.cell? ⟨W.heap.size, 3, none⟩ = some d ∧ w1.frozen? ⟨W.heap.size, 0, none⟩ = false ∧ w1.frozen? ⟨W.heap.size, 1, none⟩ = false ∧ w1.frozen? ⟨W.heap.size, 2, none⟩ = false ∧ w1.frozen? ⟨W.heap.size, 3, none⟩ = false ∧ W.heap.size < w1.heap.size :=
  have hl := alloc_lt W (.cells #[a, b, c, d] T)
  ⟨(h.cell hl).trans (by simp [go_sem]), (h.cell hl).trans (by simp [go_sem]), (h.cell hl).trans (by simp [go_sem]), (h.cell hl).trans (by simp [go_sem]), (h.frozen hl).trans (by simp [go_sem]), (h.frozen hl).trans (by simp [go_sem]), (h.frozen hl).trans (by simp [go_sem]), (h.frozen hl).trans (by simp [go_sem]), Nat.lt_of_lt_of_le hl h.size⟩
theorem blk4d {W w1 : World} {a b c d : Value} {T : TypeId} (h : Below (W.drew.alloc (.cells #[a, b, c, d] T)).heap.size (W.drew.alloc (.cells #[a, b, c, d] T)) w1) :
    w1.cell? ⟨W.heap.size, 0, none⟩ = some a ∧ w1.cell? ⟨W.heap.size, 1, none⟩ = some b ∧ w1.cell? ⟨W.heap.size, 2, none⟩ = some c ∧ w1.cell? ⟨W.heap.size, 3, none⟩ = some d ∧ w1.frozen? ⟨W.heap.size, 0, none⟩ = false ∧ w1.frozen? ⟨W.heap.size, 1, none⟩ = false ∧ w1.frozen? ⟨W.heap.size, 2, none⟩ = false ∧ w1.frozen? ⟨W.heap.size, 3, none⟩ = false ∧ W.heap.size < w1.heap.size := blk4 (W := W.drew) h
theorem keepT {w W0 U : World} {a b c d e x y z : Value} (X : B53 w W0 a b c d e x y z) (hb : Below W0.heap.size W0 U) :
    U.cell? ⟨w.heap.size, 1, none⟩ = some b ∧ U.cell? ⟨w.heap.size, 2, none⟩ = some c ∧ U.cell? ⟨w.heap.size, 3, none⟩ = some d ∧ U.cell? ⟨w.heap.size, 4, none⟩ = some e ∧ U.cell? ⟨w.heap.size + 1, 0, none⟩ = some x ∧ U.cell? ⟨w.heap.size + 1, 1, none⟩ = some y ∧ U.cell? ⟨w.heap.size + 1, 2, none⟩ = some z :=
  have Y := X.step hb
  ⟨Y.c1, Y.c2, Y.c3, Y.c4, Y.d0, Y.d1, Y.d2⟩
theorem grown_setT {w : World} {g o : Nat} {v : Value} : w.grownBy (w.setCell ⟨g, o, none⟩ v) (some g) := by
  refine ⟨rfl, rfl, rfl, by simp [World.setCell], ?_⟩
  intro k hk hne
  have : g ≠ k := fun e => hne (by rw [e])
  simp [World.setCell, Array.getElem?_modify, this]
theorem grown_set4 {w : World} {g : Nat} {a b c d : Value} : w.grownBy ((((w.setCell ⟨g, 0, none⟩ a).setCell ⟨g, 1, none⟩ b).setCell ⟨g, 2, none⟩ c).setCell ⟨g, 3, none⟩ d) (some g) :=
  ((grown_setT.trans grown_setT).trans grown_setT).trans grown_setT
theorem RowV.far {w U : World} {q s : Option Addr} {l : List Val} {tb n c : Nat} (h : RowV w q l) (ht : w.cell? ⟨tb, 0, none⟩ = some (.slice s n c)) (hg : w.grownBy U (some tb)) : RowV U q l := by
  rcases h with h | ⟨g, hp, R⟩
  · exact .inl h
  · cases l with
    | nil => exact .inl rfl
    | cons v l =>
      refine .inr ⟨g, hp, R.grown hg (fun e => ?_)⟩
      injection e with e
      have := (R.cells 0 (by simp)).1
      rw [Nat.zero_mul, e, ht] at this
      cases this
theorem keepR {U V : World} {b a0 : Nat} {x y z t o : Value} (Y : Lies4 U b x y z t) (hl : a0 < U.heap.size) (h0 : U.cell? ⟨a0, 0, none⟩ = some o) (hb : Below U.heap.size U V) :
    V.cell? ⟨b, 0, none⟩ = some x ∧ V.cell? ⟨b, 1, none⟩ = some y ∧ V.cell? ⟨b, 2, none⟩ = some z ∧ V.cell? ⟨b, 3, none⟩ = some t ∧ V.cell? ⟨a0, 0, none⟩ = some o :=
  ⟨(hb.cell Y.lt).trans Y.c0, (hb.cell Y.lt).trans Y.c1, (hb.cell Y.lt).trans Y.c2, (hb.cell Y.lt).trans Y.c3, (hb.cell hl).trans h0⟩
theorem RowV.below {w w' : World} {p : Option Addr} {l : List Val} (h : RowV w p l) (hb : Below w.heap.size w w') : RowV w' p l := h.next hb

end Go.Proofs.YtdchhjnmhnehiaaGreatDoor

/- What the specification's trial of a document by a term answers. -/
namespace Go.Proofs.YtdchhjnmhnehiaaGreatDoor
open Go.RowKit
set_option linter.unusedVariables false

theorem lets_exists (c : Val) (L : List Val) : letsT 8 c L = (decide (0 < (L.length : Int)) == (c.n == 1)) := by
  unfold letsT; rw [if_pos rfl]; congr 1
theorem op_two (op : Int) : (op == 2) = decide (op = 2) := by rw [Bool.eq_iff_iff]; simp

set_option maxRecDepth 4000 in
set_option maxHeartbeats 1000000 in
theorem l02Values_any (v : Val) (p : ByteArray) (w : World) (hv : okB v = true) (hp : p.size ≤ 300) :
    Calls Tryz.prog 98 #[.agg #[.int .i64 v.k, .int .i64 v.n, .string v.t], .string p] w fun e w' => OutV (getP (pieces p) v) w' e ∧ Below w.heap.size w w' := by
  have X0 := Boxed.start w (.int .i64 v.k) (.int .i64 v.n) (.string v.t) 38
  have hs := ok_size v hv
  have hpl := pieces_len_le p
  have HV : Hid (okB v = true) := hv
  clear hv
  go_enter Tryz.func98, Tryz.ntmps98
  go_wp2_with fail
  go_region_with (first | (go_at_call 56; refine (l00CutC_any p _ (by omega)).mono ?_; rintro e w1 ⟨⟨g, cap, rfl, hcap, R⟩, hb⟩; have X1 := (X0.step (Below.refl _ _).drew).step hb; have HR : Hid (ReadS _ _ _ _) := R; have a0 := X1.c0; have a1 := X1.c1; have a2 := X1.c2; clear R hb) | (go_at_call 125; refine (get_at (pieces p) (by omega) 5 v g 0 cap _ HV.out hs hcap HR.out).mono ?_; rintro e w2 ⟨⟨g2, cap2, rfl, R2⟩, hb2⟩; have hbw := (X1.step hb2).bel; have HR2 : Hid (ReadV _ _ _) := R2; clear R2 hb2))
  all_goals
    go_wp2_with fail
    go_ret
    exact ⟨OutV.mk g2 cap2 rfl HR2.out, hbw⟩

set_option maxRecDepth 8000 in
set_option maxHeartbeats 4000000 in
theorem l03Term_any (op : Int) (p : ByteArray) (c doc : Val) (w : World) (hp : p.size ≤ 300) (hop : 1 ≤ op ∧ op ≤ 10) (h7 : op = 7 → c.k = 4) (hc : okB c = true) (hd : okB doc = true) :
    Calls Tryz.prog 90 #[.agg #[.int .i64 op, .string p, .int .i64 c.k, .int .i64 c.n, .string c.t], .agg #[.int .i64 doc.k, .int .i64 doc.n, .string doc.t]] w fun e w' => e = .returned (.bool (termL op p c doc)) ∧ Below w.heap.size w w' := by
  have X0 := B53.start w (.int .i64 op) (.string p) (.int .i64 c.k) (.int .i64 c.n) (.string c.t) (.int .i64 doc.k) (.int .i64 doc.n) (.string doc.t) 85 38
  have hgl := getP_len (pieces p) doc
  have hsd := ok_size doc hd
  have hLO := getP_ok (pieces p) doc hd
  have HV0 : Hid (∀ W : World, Calls _ _ _ W _) := fun W => l02Values_any doc p W hd hp
  unfold termL
  obtain ⟨L, hL⟩ : ∃ L, L = getP (pieces p) doc := ⟨_, rfl⟩
  rw [← hL] at hgl hLO HV0 ⊢
  obtain ⟨RR, hRR⟩ : ∃ RR, RR = letsT op c L := ⟨_, rfl⟩
  rw [← hRR]
  have HRR : Hid _ := hRR
  clear hRR
  have HC : Hid (okB c = true) := hc
  have H7 : Hid _ := h7
  have HLO : Hid _ := hLO
  clear hc hd hL h7 hLO
  go_enter Tryz.func90, Tryz.ntmps90
  go_wp2_with fail
  refine (HV0.out _).mono ?_
  rintro e w1 ⟨⟨g1, cap1, rfl, R1⟩, hb⟩
  have X1 := X0.step hb
  have a0 := X1.c0
  have a3 := X1.c3
  have hbw1 := X1.bel
  have HR1 : Hid (ReadV _ _ _) := R1
  clear hb X0 R1
  by_cases h8 : op = 8
  · subst h8
    go_wp2_with fail
    go_ret
    exact ⟨ret_bool (by rw [HRR.out, lets_exists]; simp), hbw1⟩
  have e8 : (op == 8) = false := beq_eq_false_iff_ne.mpr h8
  have hRo : RR = ((heldT op L).any (oneT op c) != decide (op = 2)) := by rw [HRR.out]; unfold letsT; rw [if_neg h8]
  clear HRR
  obtain ⟨M, hM⟩ : ∃ M, M = heldT op L := ⟨_, rfl⟩
  have hMO := heldT_ok op L HLO.out
  rw [← hM] at hMO hRo
  have HMO : Hid _ := hMO
  have HR : Hid _ := hRo
  have HOP : Hid (1 ≤ op ∧ op ≤ 10 ∧ op ≠ 8) := ⟨hop.1, hop.2, h8⟩
  unfold heldT at hM
  clear hRo hMO h8 hop
  by_cases hB : L = [] ∧ op ≠ 9
  · rw [if_pos hB.1, if_neg hB.2] at hM
    have hl0 : ((L.length : Int) == 0) = true := by rw [hB.1]; rfl
    have e9 : (op == 9) = false := beq_eq_false_iff_ne.mpr hB.2
    have e9' : (op != 9) = true := by simp [hB.2]
    have hMl : M.length = 1 := by rw [hM]; rfl
    have hRZ : ReadV (w1.alloc (.cells #[.int .i64 0, .int .i64 0, .string em] 38)) w1.heap.size M := by
      rw [hM]; exact ReadV.of_own (l := [⟨0, 0, em⟩]) (owns_one w1 ⟨0, 0, em⟩ (base := w1.heap.size) (Nat.le_refl _))
    have XM := X1.step ((Below.refl _ _).alloc (Nat.le_refl _) (.cells #[.int .i64 0, .int .i64 0, .string em] 38))
    have HRM : Hid (ReadV _ _ _) := hRZ
    clear HR1 hM hB hRZ X1
    go_wp2_with fail
    obtain ⟨gM, hgM⟩ : ∃ gM, gM = w1.heap.size := ⟨_, rfl⟩
    rw [← hgM] at HRM ⊢
    clear hgM
    generalize w1.alloc (.cells #[.int .i64 0, .int .i64 0, .string em] 38) = Wm at XM HRM ⊢
    go_loopw [6, 7] (fun s i wr => ∃ k : Nat, k ≤ 1 ∧ i = .int .i64 k ∧ s = .bool ((M.take k).any (oneT op c)) ∧ Below Wm.heap.size Wm wr) (fun _ i _ => 1 - (intOf i).toNat)
    case atStart => exact ⟨0, Nat.zero_le _, rfl, by simp, Below.refl _ _⟩
    case round =>
      obtain ⟨k, hk, rfl, rfl, hbel⟩ := hrel
      have Y := XM.step hbel
      have hlY : w.heap.size < wr.heap.size := Nat.lt_of_succ_lt Y.lt
      by_cases hlt : k < M.length
      · obtain rfl : k = 0 := by omega
        have RR := HRM.out.next hbel
        obtain ⟨x0, x1, x2⟩ := RR.cells 0 hlt
        simp only [Nat.zero_mul, Nat.zero_add] at x0 x1 x2
        have hgr := RR.lt
        have hlt2 : ((0 : Nat) : Int) < ((1 : Nat) : Int) := by omega
        have q0 : ∀ u : Under wr, u.x.cell? ⟨w.heap.size, 0, none⟩ = some (.int .i64 op) := fun u => (u.h.cell hlY).trans Y.c0
        have q1 : ∀ u : Under wr, u.x.cell? ⟨w.heap.size, 1, none⟩ = some (.string p) := fun u => (u.h.cell hlY).trans Y.c1
        have q2 : ∀ u : Under wr, u.x.cell? ⟨w.heap.size, 2, none⟩ = some (.int .i64 c.k) := fun u => (u.h.cell hlY).trans Y.c2
        have q3 : ∀ u : Under wr, u.x.cell? ⟨w.heap.size, 3, none⟩ = some (.int .i64 c.n) := fun u => (u.h.cell hlY).trans Y.c3
        have q4 : ∀ u : Under wr, u.x.cell? ⟨w.heap.size, 4, none⟩ = some (.string c.t) := fun u => (u.h.cell hlY).trans Y.c4
        have y0 : ∀ u : Under wr, u.x.cell? ⟨gM, 0, none⟩ = some (.int .i64 M[0].k) := fun u => (u.h.cell hgr).trans x0
        have y1 : ∀ u : Under wr, u.x.cell? ⟨gM, 1, none⟩ = some (.int .i64 M[0].n) := fun u => (u.h.cell hgr).trans x1
        have y2 : ∀ u : Under wr, u.x.cell? ⟨gM, 2, none⟩ = some (.string M[0].t) := fun u => (u.h.cell hgr).trans x2
        have hnu : Nonempty (Under wr) := ⟨⟨wr, Below.refl _ _⟩⟩
        have HC1 : Hid (∀ W : World, Calls _ _ _ W _) := fun W => l03One_any op p c M[0] W HOP.out H7.out HC.out (HMO.out M[0] (List.getElem_mem _))
        have hsucc : (M.take (0 + 1)).any (oneT op c) = ((M.take 0).any (oneT op c) || oneT op c M[0]) := by rw [List.take_succ_eq_append_getElem hlt, List.any_append]; simp
        obtain ⟨S, hS⟩ : ∃ S, S = (M.take 0).any (oneT op c) := ⟨_, rfl⟩
        obtain ⟨O, hO⟩ : ∃ O, O = oneT op c M[0] := ⟨_, rfl⟩
        rw [← hS, ← hO] at hsucc
        rw [← hS]
        rw [← hO] at HC1
        have HSU : Hid _ := hsucc
        clear hsucc hS hO RR x0 x1 x2
        cases S
        · go_wp2_with fail
          refine wp_region_under (by kernel_rfl) (by kernel_rfl) ?_
          repeat (go_big_quiet_step ((go_at_call 114; exact calls_under _ (HC1.out _))))
          refine wpQuiet_nil ?_
          rintro _ ⟨u, rfl⟩
          have hbu := hbel.trans (u.h.mono hbel.size)
          clear q0 q1 q2 q3 q4 y0 y1 y2 hnu
          go_wp2_with fail
          go_roundw
          case rel => exact ⟨0 + 1, by omega, by go_num, by rw [HSU.out]; simp, hbu⟩
          case measure => simp [intOf] <;> omega
        · go_wp2_with fail
          refine wp_region_under (by kernel_rfl) (by kernel_rfl) ?_
          repeat (go_big_quiet_step (fail))
          refine wpQuiet_nil ?_
          rintro _ ⟨u, rfl⟩
          have hbu := hbel.trans (u.h.mono hbel.size)
          clear q0 q1 q2 q3 q4 y0 y1 y2 hnu
          go_wp2_with fail
          go_roundw
          case rel => exact ⟨0 + 1, by omega, by go_num, by rw [HSU.out]; simp, hbu⟩
          case measure => simp [intOf] <;> omega
      · have hlt2 : ¬ (k : Int) < ((1 : Nat) : Int) := by omega
        have z0 := Y.c0
        have hbw := Y.bel
        have e : M.take k = M := List.take_of_length_le (by omega)
        rw [e]
        obtain ⟨S, hS⟩ : ∃ S, S = M.any (oneT op c) := ⟨_, rfl⟩
        rw [← hS]
        have hRo := HR.out
        rw [← hS] at hRo
        have HRO : Hid _ := hRo
        clear hRo HR hS Y
        go_wp2_with fail
        go_ret
        exact ⟨ret_bool (by rw [HRO.out, ← op_two]; generalize (op == 2) = b; cases S <;> cases b <;> rfl), hbw⟩
  · have hM' : M = L := by
      rw [hM]
      by_cases hL0 : L = []
      · rw [if_pos hL0, if_pos (by rcases Decidable.em (op = 9) with h | h; exact h; exact absurd ⟨hL0, h⟩ hB), hL0]
      · rw [if_neg hL0]
    clear hM
    subst hM'
    have HRM : Hid (ReadV _ _ _) := HR1.out
    obtain ⟨Wm, hWm⟩ : ∃ Wm, Wm = w1 := ⟨_, rfl⟩
    subst hWm
    obtain ⟨gM, hgM⟩ : ∃ gM, gM = g1 := ⟨_, rfl⟩
    subst hgM
    have XM := X1
    clear HR1 X1
    by_cases hL0 : M = []
    · have e9 : (op == 9) = true := by rcases Decidable.em (op = 9) with h | h; simp [h]; exact absurd ⟨hL0, h⟩ hB
      have e9' : (op != 9) = false := by rcases Decidable.em (op = 9) with h | h; simp [h]; exact absurd ⟨hL0, h⟩ hB
      have hl0 : ((M.length : Int) == 0) = true := by rw [hL0]; rfl
      clear hB hL0
      go_wp2_with fail
      go_loopw [6, 7] (fun s i wr => ∃ k : Nat, k ≤ M.length ∧ i = .int .i64 k ∧ s = .bool ((M.take k).any (oneT op c)) ∧ Below Wm.heap.size Wm wr) (fun _ i _ => M.length - (intOf i).toNat)
      case atStart => exact ⟨0, Nat.zero_le _, rfl, by simp, Below.refl _ _⟩
      case round =>
        obtain ⟨k, hk, rfl, rfl, hbel⟩ := hrel
        have Y := XM.step hbel
        have hlY : w.heap.size < wr.heap.size := Nat.lt_of_succ_lt Y.lt
        by_cases hlt : k < M.length
        · have RR := HRM.out.next hbel
          obtain ⟨x0, x1, x2⟩ := RR.cells k hlt
          have hgr := RR.lt
          have hlt2 : (k : Int) < ((M.length : Nat) : Int) := by omega
          have q0 : ∀ u : Under wr, u.x.cell? ⟨w.heap.size, 0, none⟩ = some (.int .i64 op) := fun u => (u.h.cell hlY).trans Y.c0
          have q1 : ∀ u : Under wr, u.x.cell? ⟨w.heap.size, 1, none⟩ = some (.string p) := fun u => (u.h.cell hlY).trans Y.c1
          have q2 : ∀ u : Under wr, u.x.cell? ⟨w.heap.size, 2, none⟩ = some (.int .i64 c.k) := fun u => (u.h.cell hlY).trans Y.c2
          have q3 : ∀ u : Under wr, u.x.cell? ⟨w.heap.size, 3, none⟩ = some (.int .i64 c.n) := fun u => (u.h.cell hlY).trans Y.c3
          have q4 : ∀ u : Under wr, u.x.cell? ⟨w.heap.size, 4, none⟩ = some (.string c.t) := fun u => (u.h.cell hlY).trans Y.c4
          have y0 : ∀ u : Under wr, u.x.cell? ⟨gM, k * 3, none⟩ = some (.int .i64 M[k].k) := fun u => (u.h.cell hgr).trans x0
          have y1 : ∀ u : Under wr, u.x.cell? ⟨gM, k * 3 + 1, none⟩ = some (.int .i64 M[k].n) := fun u => (u.h.cell hgr).trans x1
          have y2 : ∀ u : Under wr, u.x.cell? ⟨gM, k * 3 + 2, none⟩ = some (.string M[k].t) := fun u => (u.h.cell hgr).trans x2
          have hnu : Nonempty (Under wr) := ⟨⟨wr, Below.refl _ _⟩⟩
          have HC1 : Hid (∀ W : World, Calls _ _ _ W _) := fun W => l03One_any op p c M[k] W HOP.out H7.out HC.out (HMO.out M[k] (List.getElem_mem _))
          have hsucc : (M.take (k + 1)).any (oneT op c) = ((M.take k).any (oneT op c) || oneT op c M[k]) := by rw [List.take_succ_eq_append_getElem hlt, List.any_append]; simp
          obtain ⟨S, hS⟩ : ∃ S, S = (M.take k).any (oneT op c) := ⟨_, rfl⟩
          obtain ⟨O, hO⟩ : ∃ O, O = oneT op c M[k] := ⟨_, rfl⟩
          rw [← hS, ← hO] at hsucc
          rw [← hS]
          rw [← hO] at HC1
          have HSU : Hid _ := hsucc
          clear hsucc hS hO RR x0 x1 x2
          cases S
          · go_wp2_with fail
            refine wp_region_under (by kernel_rfl) (by kernel_rfl) ?_
            repeat (go_big_quiet_step ((go_at_call 114; exact calls_under _ (HC1.out _))))
            refine wpQuiet_nil ?_
            rintro _ ⟨u, rfl⟩
            have hbu := hbel.trans (u.h.mono hbel.size)
            clear q0 q1 q2 q3 q4 y0 y1 y2 hnu
            go_wp2_with fail
            go_roundw
            case rel => exact ⟨k + 1, by omega, by go_num, by rw [HSU.out]; simp, hbu⟩
            case measure => simp [intOf] <;> omega
          · go_wp2_with fail
            refine wp_region_under (by kernel_rfl) (by kernel_rfl) ?_
            repeat (go_big_quiet_step (fail))
            refine wpQuiet_nil ?_
            rintro _ ⟨u, rfl⟩
            have hbu := hbel.trans (u.h.mono hbel.size)
            clear q0 q1 q2 q3 q4 y0 y1 y2 hnu
            go_wp2_with fail
            go_roundw
            case rel => exact ⟨k + 1, by omega, by go_num, by rw [HSU.out]; simp, hbu⟩
            case measure => simp [intOf] <;> omega
        · have hlt2 : ¬ (k : Int) < ((M.length : Nat) : Int) := by omega
          have z0 := Y.c0
          have hbw := Y.bel
          have e : M.take k = M := List.take_of_length_le (by omega)
          rw [e]
          obtain ⟨S, hS⟩ : ∃ S, S = M.any (oneT op c) := ⟨_, rfl⟩
          rw [← hS]
          have hRo := HR.out
          rw [← hS] at hRo
          have HRO : Hid _ := hRo
          clear hRo HR hS Y
          go_wp2_with fail
          go_ret
          exact ⟨ret_bool (by rw [HRO.out, ← op_two]; generalize (op == 2) = b; cases S <;> cases b <;> rfl), hbw⟩
    · have hl0 : ((M.length : Int) == 0) = false := beq_eq_false_iff_ne.mpr (fun e => hL0 (List.eq_nil_of_length_eq_zero (by omega)))
      clear hB hL0
      go_wp2_with fail
      go_loopw [6, 7] (fun s i wr => ∃ k : Nat, k ≤ M.length ∧ i = .int .i64 k ∧ s = .bool ((M.take k).any (oneT op c)) ∧ Below Wm.heap.size Wm wr) (fun _ i _ => M.length - (intOf i).toNat)
      case atStart => exact ⟨0, Nat.zero_le _, rfl, by simp, Below.refl _ _⟩
      case round =>
        obtain ⟨k, hk, rfl, rfl, hbel⟩ := hrel
        have Y := XM.step hbel
        have hlY : w.heap.size < wr.heap.size := Nat.lt_of_succ_lt Y.lt
        by_cases hlt : k < M.length
        · have RR := HRM.out.next hbel
          obtain ⟨x0, x1, x2⟩ := RR.cells k hlt
          have hgr := RR.lt
          have hlt2 : (k : Int) < ((M.length : Nat) : Int) := by omega
          have q0 : ∀ u : Under wr, u.x.cell? ⟨w.heap.size, 0, none⟩ = some (.int .i64 op) := fun u => (u.h.cell hlY).trans Y.c0
          have q1 : ∀ u : Under wr, u.x.cell? ⟨w.heap.size, 1, none⟩ = some (.string p) := fun u => (u.h.cell hlY).trans Y.c1
          have q2 : ∀ u : Under wr, u.x.cell? ⟨w.heap.size, 2, none⟩ = some (.int .i64 c.k) := fun u => (u.h.cell hlY).trans Y.c2
          have q3 : ∀ u : Under wr, u.x.cell? ⟨w.heap.size, 3, none⟩ = some (.int .i64 c.n) := fun u => (u.h.cell hlY).trans Y.c3
          have q4 : ∀ u : Under wr, u.x.cell? ⟨w.heap.size, 4, none⟩ = some (.string c.t) := fun u => (u.h.cell hlY).trans Y.c4
          have y0 : ∀ u : Under wr, u.x.cell? ⟨gM, k * 3, none⟩ = some (.int .i64 M[k].k) := fun u => (u.h.cell hgr).trans x0
          have y1 : ∀ u : Under wr, u.x.cell? ⟨gM, k * 3 + 1, none⟩ = some (.int .i64 M[k].n) := fun u => (u.h.cell hgr).trans x1
          have y2 : ∀ u : Under wr, u.x.cell? ⟨gM, k * 3 + 2, none⟩ = some (.string M[k].t) := fun u => (u.h.cell hgr).trans x2
          have hnu : Nonempty (Under wr) := ⟨⟨wr, Below.refl _ _⟩⟩
          have HC1 : Hid (∀ W : World, Calls _ _ _ W _) := fun W => l03One_any op p c M[k] W HOP.out H7.out HC.out (HMO.out M[k] (List.getElem_mem _))
          have hsucc : (M.take (k + 1)).any (oneT op c) = ((M.take k).any (oneT op c) || oneT op c M[k]) := by rw [List.take_succ_eq_append_getElem hlt, List.any_append]; simp
          obtain ⟨S, hS⟩ : ∃ S, S = (M.take k).any (oneT op c) := ⟨_, rfl⟩
          obtain ⟨O, hO⟩ : ∃ O, O = oneT op c M[k] := ⟨_, rfl⟩
          rw [← hS, ← hO] at hsucc
          rw [← hS]
          rw [← hO] at HC1
          have HSU : Hid _ := hsucc
          clear hsucc hS hO RR x0 x1 x2
          cases S
          · go_wp2_with fail
            refine wp_region_under (by kernel_rfl) (by kernel_rfl) ?_
            repeat (go_big_quiet_step ((go_at_call 114; exact calls_under _ (HC1.out _))))
            refine wpQuiet_nil ?_
            rintro _ ⟨u, rfl⟩
            have hbu := hbel.trans (u.h.mono hbel.size)
            clear q0 q1 q2 q3 q4 y0 y1 y2 hnu
            go_wp2_with fail
            go_roundw
            case rel => exact ⟨k + 1, by omega, by go_num, by rw [HSU.out]; simp, hbu⟩
            case measure => simp [intOf] <;> omega
          · go_wp2_with fail
            refine wp_region_under (by kernel_rfl) (by kernel_rfl) ?_
            repeat (go_big_quiet_step (fail))
            refine wpQuiet_nil ?_
            rintro _ ⟨u, rfl⟩
            have hbu := hbel.trans (u.h.mono hbel.size)
            clear q0 q1 q2 q3 q4 y0 y1 y2 hnu
            go_wp2_with fail
            go_roundw
            case rel => exact ⟨k + 1, by omega, by go_num, by rw [HSU.out]; simp, hbu⟩
            case measure => simp [intOf] <;> omega
        · have hlt2 : ¬ (k : Int) < ((M.length : Nat) : Int) := by omega
          have z0 := Y.c0
          have hbw := Y.bel
          have e : M.take k = M := List.take_of_length_le (by omega)
          rw [e]
          obtain ⟨S, hS⟩ : ∃ S, S = M.any (oneT op c) := ⟨_, rfl⟩
          rw [← hS]
          have hRo := HR.out
          rw [← hS] at hRo
          have HRO : Hid _ := hRo
          clear hRo HR hS Y
          go_wp2_with fail
          go_ret
          exact ⟨ret_bool (by rw [HRO.out, ← op_two]; generalize (op == 2) = b; cases S <;> cases b <;> rfl), hbw⟩

end Go.Proofs.YtdchhjnmhnehiaaGreatDoor

/- Whether a value is a right document: what the program and the specification answer. -/
namespace Go.Proofs.YtdchhjnmhnehiaaGreatDoor
open Go.RowKit
set_option linter.unusedVariables false

theorem docB_ok (v : Val) (h : docB v = true) : okB v = true := by unfold docB at h; rw [Bool.and_eq_true] at h; exact h.2

set_option maxRecDepth 4000 in
set_option maxHeartbeats 1000000 in
theorem documentOK_any (v : Val) (w : World) (hs : v.t.size ≤ 1048576) :
    Calls Tryz.prog 36 #[.agg #[.int .i64 v.k, .int .i64 v.n, .string v.t]] w fun e w' => e = .returned (.bool (docB v)) ∧ Below w.heap.size w w' := by
  have X0 := Boxed.start w (.int .i64 v.k) (.int .i64 v.n) (.string v.t) 38
  unfold docB
  by_cases h5 : v.k = 5
  · have e5 : (v.k == 5) = true := by simp [h5]
    rw [decide_eq_true h5, Bool.true_and]
    clear h5
    go_enter Tryz.func36, Tryz.ntmps36
    go_wp2_with fail
    refine (valueOK_any v.k v.n v.t _ (by unfold maxLen; omega)).mono ?_
    rintro e w1 ⟨rfl, hb⟩
    have hbw := (X0.step hb).bel
    clear hb
    go_wp2_with fail
    go_ret
    exact ⟨rfl, hbw⟩
  · have e5 : (v.k == 5) = false := beq_eq_false_iff_ne.mpr h5
    rw [decide_eq_false h5, Bool.false_and]
    clear h5
    go_enter Tryz.func36, Tryz.ntmps36
    go_wp2_with fail
    go_ret
    exact ⟨rfl, X0.bel⟩
set_option maxRecDepth 4000 in
set_option maxHeartbeats 1000000 in
theorem l03Doc_any (v : Val) (w : World) (hs : v.t.size ≤ 1048576) :
    Calls Tryz.prog 33 #[.agg #[.int .i64 v.k, .int .i64 v.n, .string v.t]] w fun e w' => e = .returned (.bool (docB v)) ∧ Below w.heap.size w w' := by
  have X0 := Boxed.start w (.int .i64 v.k) (.int .i64 v.n) (.string v.t) 38
  have HC : Hid (∀ W : World, Calls _ _ _ W _) := fun W => specValueOK_any v.k v.n v.t W hs
  have hd : docB v = (okB v && (v.k == 5)) := by unfold docB; rw [Bool.and_comm]; congr 1
  rw [hd]
  have ho : okB ⟨v.k, v.n, v.t⟩ = okB v := rfl
  rw [ho] at HC
  clear hd ho
  obtain ⟨O, hO⟩ : ∃ O, O = okB v := ⟨_, rfl⟩
  rw [← hO] at HC ⊢
  clear hO
  cases O
  · go_enter Tryz.func33, Tryz.ntmps33
    go_wp2_with fail
    refine (HC.out _).mono ?_
    rintro e w1 ⟨rfl, hb⟩
    have hbw := (X0.step hb).bel
    clear hb
    go_wp2_with fail
    go_ret
    exact ⟨rfl, hbw⟩
  · go_enter Tryz.func33, Tryz.ntmps33
    go_wp2_with fail
    refine (HC.out _).mono ?_
    rintro e w1 ⟨rfl, hb⟩
    have X1 := X0.step hb
    have a0 := X1.c0
    have hbw := X1.bel
    clear hb
    go_wp2_with fail
    go_ret
    exact ⟨ret_bool (by simp), hbw⟩

end Go.Proofs.YtdchhjnmhnehiaaGreatDoor

/- What the two functions that hold a document to a term answer, for every term and every value. -/
namespace Go.Proofs.YtdchhjnmhnehiaaGreatDoor
open Go.RowKit
set_option linter.unusedVariables false

/-- What holding a document to a term comes to. -/
def matchP (op : Int) (p : ByteArray) (c doc : Val) : Bool × Int := if termB op p c = true ∧ docB doc = true then (termL op p c doc, 0) else (false, 1)
theorem termB_parts (op : Int) (p : ByteArray) (c : Val) (h : termB op p c = true) : p.size ≤ 50 ∧ okB c = true ∧ (1 ≤ op ∧ op ≤ 10) ∧ (op = 7 → c.k = 4) := by
  unfold termB at h
  rw [Bool.and_eq_true, Bool.and_eq_true] at h
  obtain ⟨hp, hc, ht⟩ := h
  refine ⟨?_, hc, ?_, ?_⟩
  · rcases Nat.lt_or_ge 50 p.size with h' | h'
    · rw [pathB_long p h'] at hp; cases hp
    · exact h'
  · unfold takesT at ht
    by_cases h1 : 1 ≤ op ∧ op ≤ 10
    · exact h1
    · rw [if_neg (by omega), if_neg (by omega), if_neg (by omega), if_neg (by omega), if_neg (by omega)] at ht; cases ht
  · intro h7
    subst h7
    unfold takesT at ht
    simpa using ht

end Go.Proofs.YtdchhjnmhnehiaaGreatDoor
