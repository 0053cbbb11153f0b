/- What the program's single trials of a value answer, for every right value. -/
import Derived.Test.YtkeghknceccdmaaGreatDoorEncUQ
import Derived.Test.YtkeghknceccdmaaGreatDoorOrdSQ
import Derived.Test.YtkeghknceccdmaaGreatDoorUnder
import Derived.Test.YtkeghknceccdmaaGreatDoorListAQ
import Derived.Deep.RegionWith
import Derived.BigQuiet
import Derived.Test.YtkeghknceccdmaaGreatDoorSplitWQ
import Derived.Test.YtkeghknceccdmaaGreatDoorGetSQ
namespace Go.Proofs.YtkeghknceccdmaaGreatDoor
open Go.RowKit
set_option linter.unusedVariables false

/-- Four cells in the first new block, three in the second. -/
structure B43 (w W : World) (a b c d x y z : Value) : Prop where
  bel : Below w.heap.size w W
  lt : w.heap.size + 1 < W.heap.size
  c0 : W.cell? ⟨w.heap.size, 0, none⟩ = some a
  c1 : W.cell? ⟨w.heap.size, 1, none⟩ = some b
  c2 : W.cell? ⟨w.heap.size, 2, none⟩ = some c
  c3 : W.cell? ⟨w.heap.size, 3, none⟩ = some d
  d0 : W.cell? ⟨w.heap.size + 1, 0, none⟩ = some x
  d1 : W.cell? ⟨w.heap.size + 1, 1, none⟩ = some y
  d2 : W.cell? ⟨w.heap.size + 1, 2, none⟩ = some z
theorem B43.start (w : World) (a b c d x y z : Value) (T U : TypeId) : B43 w ((w.alloc (.cells #[a, b, c, d] T)).alloc (.cells #[x, y, z] U)) a b c d x y z :=
  ⟨((Below.refl _ _).alloc (Nat.le_refl _) _).alloc (by simp) _, by simp, by simp [go_sem], by simp [go_sem], by simp [go_sem], by simp [go_sem], by simp [go_sem], by simp [go_sem], by simp [go_sem]⟩
theorem B43.step {w W W' : World} {a b c d x y z : Value} (h : B43 w W a b c d x y z) (hb : Below W.heap.size W W') : B43 w W' a b c d x y z :=
  have hl : w.heap.size < W.heap.size := Nat.lt_of_succ_lt h.lt
  ⟨h.bel.trans (hb.mono h.bel.size), Nat.lt_of_lt_of_le h.lt hb.size, (hb.cell hl).trans h.c0, (hb.cell hl).trans h.c1, (hb.cell hl).trans h.c2, (hb.cell hl).trans h.c3, (hb.cell h.lt).trans h.d0, (hb.cell h.lt).trans h.d1, (hb.cell h.lt).trans h.d2⟩
theorem val_eq (a b : Val) : (a.k == b.k && (a.n == b.n && a.t.toList == b.t.toList)) = decide (a = b) := by
  by_cases h : a = b
  · subst h; simp
  · rw [decide_eq_false h]
    by_cases h1 : a.k = b.k
    · by_cases h2 : a.n = b.n
      · have h3 : a.t ≠ b.t := fun e => h (val_ext h1 h2 e)
        rw [toList_ne h3]; simp
      · rw [beq_eq_false_iff_ne.mpr h2]; simp
    · rw [beq_eq_false_iff_ne.mpr h1]; simp

theorem val_ne (a b : Val) (h : a ≠ b) : ((a.k == b.k) = false) ∨ ((a.k == b.k) = true ∧ (a.n == b.n) = false) ∨ ((a.k == b.k) = true ∧ (a.n == b.n) = true ∧ (a.t.toList == b.t.toList) = false) := by
  by_cases h1 : a.k = b.k
  · by_cases h2 : a.n = b.n
    · exact .inr (.inr ⟨by simp [h1], by simp [h2], toList_ne (fun e => h (val_ext h1 h2 e))⟩)
    · exact .inr (.inl ⟨by simp [h1], beq_eq_false_iff_ne.mpr h2⟩)
  · exact .inl (beq_eq_false_iff_ne.mpr h1)

set_option maxRecDepth 4000 in
set_option maxHeartbeats 1000000 in
theorem isOfKind_any (p : Option Addr) (m cap : Nat) (c v : Val) (w : World) :
    Calls Tryz.prog 199 #[.agg #[.slice p m cap, .int .i64 c.k, .int .i64 c.n, .string c.t], .agg #[.int .i64 v.k, .int .i64 v.n, .string v.t]] w fun e w' => e = .returned (.bool (decide (v.k = c.n))) ∧ Below w.heap.size w w' := by
  go_enter Tryz.func199, Tryz.ntmps199
  go_wp2_with fail
  go_ret
  exact ⟨ret_bool (by rw [Bool.eq_iff_iff]; simp), by (repeat (first | (with_reducible exact Below.refl _ _) | (with_reducible assumption) | (with_reducible apply below_drewN) | (with_reducible apply Below.drew) | ((with_reducible refine Below.setCell ?_ ?_ _); rotate_left; focus (first | (simp; done) | (simp; omega) | omega)) | ((with_reducible refine Below.alloc ?_ ?_ _); rotate_left; focus (first | (simp; done) | (simp; omega) | omega))))⟩

set_option maxRecDepth 4000 in
set_option maxHeartbeats 1000000 in
theorem isWanted_any (p : Option Addr) (m cap : Nat) (c v : Val) (w : World) :
    Calls Tryz.prog 203 #[.agg #[.slice p m cap, .int .i64 c.k, .int .i64 c.n, .string c.t], .agg #[.int .i64 v.k, .int .i64 v.n, .string v.t]] w fun e w' => e = .returned (.bool (decide (v = c))) ∧ Below w.heap.size w w' := by
  rw [← val_eq]
  go_enter Tryz.func203, Tryz.ntmps203
  go_wp2_with fail
  all_goals
    go_ret
    exact ⟨ret_bool (by simp [*]), by (repeat (first | (with_reducible exact Below.refl _ _) | (with_reducible assumption) | (with_reducible apply below_drewN) | (with_reducible apply Below.drew) | ((with_reducible refine Below.setCell ?_ ?_ _); rotate_left; focus (first | (simp; done) | (simp; omega) | omega)) | ((with_reducible refine Below.alloc ?_ ?_ _); rotate_left; focus (first | (simp; done) | (simp; omega) | omega))))⟩

set_option maxRecDepth 4000 in
set_option maxHeartbeats 1000000 in
theorem isOfSize_any (p : Option Addr) (m cap : Nat) (c v : Val) (w : World) (hv : okB v = true) :
    Calls Tryz.prog 205 #[.agg #[.slice p m cap, .int .i64 c.k, .int .i64 c.n, .string c.t], .agg #[.int .i64 v.k, .int .i64 v.n, .string v.t]] w fun e w' => e = .returned (.bool (decide (v.k = 4) && decide (((itms v).length : Int) = c.n))) ∧ Below w.heap.size w w' := by
  have X0 := B43.start w (.slice p m cap) (.int .i64 c.k) (.int .i64 c.n) (.string c.t) (.int .i64 v.k) (.int .i64 v.n) (.string v.t) 174 28
  by_cases h4 : v.k = 4
  · obtain ⟨hi, hl, _⟩ := ok_items v hv h4
    have hs := ok_size v hv
    rw [decide_eq_true h4, Bool.true_and]
    obtain ⟨L, hL⟩ : ∃ L, L = itms v := ⟨_, rfl⟩
    rw [← hL] at hi hl ⊢
    have HI : Hid _ := hi
    have e4 : (v.k == 4) = true := by simp [h4]
    clear hi hL h4 hv
    go_enter Tryz.func205, Tryz.ntmps205
    go_wp2_with fail
    go_region_with (go_at_call 189; refine (itemsIn_row v.t L _ (by omega) HI.out).mono ?_; rintro e w1 ⟨⟨p1, cap1, rfl, _⟩, hb⟩; have X1 := (X0.step (Below.refl _ _).drew).step hb; have a0 := X1.c0; have a1 := X1.c1; have a2 := X1.c2; have a3 := X1.c3; have b0 := X1.d0; have b1 := X1.d1; have b2 := X1.d2)
    all_goals
      have hbw := X1.bel
      clear X1 hb
      go_wp2_with fail
      go_ret
      exact ⟨ret_bool (by rw [Bool.eq_iff_iff]; simp), hbw⟩
  · rw [decide_eq_false h4, Bool.false_and]
    have e4 : (v.k == 4) = false := beq_eq_false_iff_ne.mpr h4
    clear hv h4
    go_enter Tryz.func205, Tryz.ntmps205
    go_wp2_with fail
    go_quiet (fail)
    go_wp2_with fail
    go_ret
    exact ⟨rfl, by (repeat (first | (with_reducible exact Below.refl _ _) | (with_reducible assumption) | (with_reducible apply below_drewN) | (with_reducible apply Below.drew) | ((with_reducible refine Below.setCell ?_ ?_ _); rotate_left; focus (first | (simp; done) | (simp; omega) | omega)) | ((with_reducible refine Below.alloc ?_ ?_ _); rotate_left; focus (first | (simp; done) | (simp; omega) | omega))))⟩

set_option maxRecDepth 4000 in
set_option maxHeartbeats 1000000 in
theorem indexVal_any (p : Option Addr) (cap : Nat) (l : List Val) (v : Val) (w : World) (hr : RowV w p l) (hl : l.length ≤ 1048576) :
    Calls Tryz.prog 287 #[.slice p l.length cap, .agg #[.int .i64 v.k, .int .i64 v.n, .string v.t]] w fun e w' => (∃ i : Int, e = .returned (.int .i64 i) ∧ decide (0 ≤ i) = l.any (fun u => decide (u = v))) ∧ Below w.heap.size w w' := by
  have X0 := Boxed.start w (.int .i64 v.k) (.int .i64 v.n) (.string v.t) 28
  have HR : Hid (RowV _ _ _) := hr.next X0.bel
  clear hr
  go_enter Tryz.func287, Tryz.ntmps287
  go_wp2_with fail
  generalize w.alloc (.cells #[.int .i64 v.k, .int .i64 v.n, .string v.t] 28) = W0 at X0 HR ⊢
  go_loopw [8] (fun i wr => ∃ k : Nat, k ≤ l.length ∧ i = .int .i64 k ∧ (∀ u ∈ l.take k, u ≠ v) ∧ Below W0.heap.size W0 wr) (fun i _ => l.length - (intOf i).toNat)
  case atStart => exact ⟨0, Nat.zero_le _, rfl, fun u hu => by simp at hu, Below.refl _ _⟩
  case round =>
    obtain ⟨k, hk, rfl, hall, hbel⟩ := hrel
    have HA : Hid _ := hall
    have X := X0.step hbel
    have a0 := X.c0
    have a1 := X.c1
    have a2 := X.c2
    have hbw := X.bel
    clear hall X
    by_cases hlt : k < l.length
    · rcases HR.out.next hbel with h0 | ⟨g, rfl, R⟩
      · subst h0; simp at hlt
      obtain ⟨x0, x1, x2⟩ := R.cells k hlt
      have hlt2 : (k : Int) < (l.length : Int) := by omega
      have hve := val_eq v l[k]
      clear R
      by_cases he : v = l[k]
      · rw [decide_eq_true he] at hve
        have hal : l.any (fun u => decide (u = v)) = true := List.any_eq_true.mpr ⟨l[k], List.getElem_mem _, by simp [he]⟩
        have HL : Hid _ := hal
        simp only [Bool.and_eq_true] at hve
        obtain ⟨q1, q2, q3⟩ := hve
        clear hal he
        go_wp2_with fail
        go_quiet (fail)
        go_wp2_with fail
        go_ret
        exact ⟨⟨k, rfl, by rw [HL.out]; exact decide_eq_true (by omega)⟩, by (repeat (first | (with_reducible exact Below.refl _ _) | (with_reducible assumption) | (with_reducible apply below_drewN) | (with_reducible apply Below.drew) | ((with_reducible refine Below.setCell ?_ ?_ _); rotate_left; focus (first | (simp; done) | (simp; omega) | omega)) | ((with_reducible refine Below.alloc ?_ ?_ _); rotate_left; focus (first | (simp; done) | (simp; omega) | omega))))⟩
      · have hne := val_ne v l[k] he
        have HE : Hid _ := he
        clear he hve
        rcases hne with q1 | ⟨q1, q2⟩ | ⟨q1, q2, q3⟩
        all_goals
          go_wp2_with fail
          go_quiet (fail)
          go_wp2_with fail
          go_roundw
          case rel =>
            refine ⟨k + 1, by omega, by go_num, ?_, by (repeat (first | (with_reducible exact Below.refl _ _) | (with_reducible assumption) | (with_reducible apply below_drewN) | (with_reducible apply Below.drew) | ((with_reducible refine Below.setCell ?_ ?_ _); rotate_left; focus (first | (simp; done) | (simp; omega) | omega)) | ((with_reducible refine Below.alloc ?_ ?_ _); rotate_left; focus (first | (simp; done) | (simp; omega) | omega))))⟩
            intro u hu
            rw [List.take_succ_eq_append_getElem hlt] at hu
            rcases List.mem_append.mp hu with h | h
            · exact HA.out u h
            · simp at h; subst h; exact fun e => HE.out e.symm
          case measure => simp [intOf]; omega
    · have hlt2 : ¬ (k : Int) < (l.length : Int) := by omega
      have hal : l.any (fun u => decide (u = v)) = false := by
        rw [Bool.eq_false_iff]; intro hh
        obtain ⟨u, hu, he⟩ := List.any_eq_true.mp hh
        have := HA.out u (by rw [List.take_of_length_le (by omega)]; exact hu)
        exact this (by simpa using he)
      have HL : Hid _ := hal
      clear hal
      go_wp2_with fail
      go_ret
      exact ⟨⟨-1, rfl, by rw [HL.out]; rfl⟩, hbw⟩

set_option maxHeartbeats 400000 in
theorem containsVal_any (p : Option Addr) (cap : Nat) (l : List Val) (v : Val) (w : World) (hr : RowV w p l) (hl : l.length ≤ 1048576) :
    Calls Tryz.prog 258 #[.slice p l.length cap, .agg #[.int .i64 v.k, .int .i64 v.n, .string v.t]] w fun e w' => e = .returned (.bool (l.any (fun u => decide (u = v)))) ∧ Below w.heap.size w w' := by
  have X0 := Boxed.start w (.int .i64 v.k) (.int .i64 v.n) (.string v.t) 28
  have HR : Hid (RowV _ _ _) := hr.next X0.bel
  clear hr
  go_enter Tryz.func258, Tryz.ntmps258
  go_wp2_with fail
  refine (indexVal_any p cap l v _ HR.out hl).mono ?_
  rintro e w1 ⟨⟨i, rfl, hi⟩, hb⟩
  have hbw := (X0.step hb).bel
  have HI : Hid _ := hi
  clear hi hb
  go_wp2_with fail
  go_ret
  exact ⟨ret_bool HI.out, hbw⟩

set_option maxRecDepth 4000 in
set_option maxHeartbeats 1000000 in
theorem isItem_any (p : Option Addr) (m cap : Nat) (c v : Val) (w : World) (hc : okB c = true) (h4 : c.k = 4) :
    Calls Tryz.prog 204 #[.agg #[.slice p m cap, .int .i64 c.k, .int .i64 c.n, .string c.t], .agg #[.int .i64 v.k, .int .i64 v.n, .string v.t]] w fun e w' => e = .returned (.bool ((itms c).any (fun u => decide (u = v)))) ∧ Below w.heap.size w w' := by
  have X0 := B43.start w (.slice p m cap) (.int .i64 c.k) (.int .i64 c.n) (.string c.t) (.int .i64 v.k) (.int .i64 v.n) (.string v.t) 174 28
  obtain ⟨hi, hl, _⟩ := ok_items c hc h4
  have hs := ok_size c hc
  obtain ⟨L, hL⟩ : ∃ L, L = itms c := ⟨_, rfl⟩
  rw [← hL] at hi hl ⊢
  have HI : Hid _ := hi
  clear hi hL h4 hc
  go_enter Tryz.func204, Tryz.ntmps204
  go_wp2_with fail
  go_region_with (first | (go_at_call 189; refine (itemsIn_row c.t L _ (by omega) HI.out).mono ?_; rintro e w1 ⟨⟨p1, cap1, rfl, R1⟩, hb⟩; have X1 := (X0.step (Below.refl _ _).drew).step hb; have HR1 : Hid (RowV _ _ _) := R1; have a0 := X1.c0; have a1 := X1.c1; have a2 := X1.c2; have a3 := X1.c3; have b0 := X1.d0; have b1 := X1.d1; have b2 := X1.d2; clear R1 hb) | (go_at_call 258; refine (containsVal_any p1 cap1 L v _ HR1.out (by omega)).mono ?_; rintro e w2 ⟨rfl, hb2⟩; have X2 := X1.step hb2; clear hb2))
  all_goals
    have hbw := X2.bel
    clear X1 X2
    go_wp2_with fail
    go_ret
    exact ⟨rfl, hbw⟩

set_option maxRecDepth 4000 in
set_option maxHeartbeats 1000000 in
theorem orderFits_any (op o : Int) (w : World) (h : op = 3 ∨ op = 4 ∨ op = 5 ∨ op = 6) :
    Calls Tryz.prog 201 #[.int .i64 op, .int .i64 o] w fun e w' => e = .returned (.bool (fitsO op o)) ∧ Below w.heap.size w w' := by
  rcases h with rfl | rfl | rfl | rfl
  all_goals
    go_enter Tryz.func201, Tryz.ntmps201
    go_wp2_with fail
    go_ret
    exact ⟨ret_bool (by simp [fitsO]), by (repeat (first | (with_reducible exact Below.refl _ _) | (with_reducible assumption) | (with_reducible apply below_drewN) | (with_reducible apply Below.drew) | ((with_reducible refine Below.setCell ?_ ?_ _); rotate_left; focus (first | (simp; done) | (simp; omega) | omega)) | ((with_reducible refine Below.alloc ?_ ?_ _); rotate_left; focus (first | (simp; done) | (simp; omega) | omega))))⟩

end Go.Proofs.YtkeghknceccdmaaGreatDoor

/- What the library's search among values by one of the program's trials answers. -/
namespace Go.Proofs.YtkeghknceccdmaaGreatDoor
open Go.RowKit
set_option linter.unusedVariables false

set_option maxRecDepth 4000 in
set_option maxHeartbeats 1000000 in
theorem idx_kind (p : Option Addr) (m cap : Nat) (c : Val) (q : Option Addr) (qc : Nat) (l : List Val) (P : Val → Bool) (w : World)
    (HC : ∀ v ∈ l, ∀ W : World, Below w.heap.size w W → Calls Tryz.prog 199 #[.agg #[.slice p m cap, .int .i64 c.k, .int .i64 c.n, .string c.t], .agg #[.int .i64 v.k, .int .i64 v.n, .string v.t]] W fun e w' => e = .returned (.bool (P v)) ∧ Below W.heap.size W w') (hr : RowV w q l) (hl : l.length ≤ 1048576) :
    Calls Tryz.prog 286 #[.slice q l.length qc, .func (.func 199) #[.agg #[.slice p m cap, .int .i64 c.k, .int .i64 c.n, .string c.t]] #[]] w fun e w' => (∃ i : Int, e = .returned (.int .i64 i) ∧ decide (0 ≤ i) = l.any P) ∧ Below w.heap.size w w' := by
  have HR : Hid (RowV _ _ _) := hr
  have HF : Hid _ := HC
  clear hr HC
  go_enter Tryz.func286, Tryz.ntmps286
  go_wp2_with fail
  go_loopw [8] (fun i wr => ∃ k : Nat, k ≤ l.length ∧ i = .int .i64 k ∧ (∀ u ∈ l.take k, P u = false) ∧ Below w.heap.size w wr) (fun i _ => l.length - (intOf i).toNat)
  case atStart => exact ⟨0, Nat.zero_le _, rfl, fun u hu => by simp at hu, Below.refl _ _⟩
  case round =>
    obtain ⟨k, hk, rfl, hall, hbel⟩ := hrel
    have HA : Hid _ := hall
    clear hall
    by_cases hlt : k < l.length
    · rcases HR.out.next hbel with h0 | ⟨g, rfl, R⟩
      · subst h0; simp at hlt
      obtain ⟨x0, x1, x2⟩ := R.cells k hlt
      have hlt2 : (k : Int) < (l.length : Int) := by omega
      have HK0 := HF.out l[k] (List.getElem_mem _)
      cases hP : P l[k]
      · rw [hP] at HK0
        have HK : Hid _ := HK0
        have HPK : Hid _ := hP
        clear R hP HK0
        go_wp2_with fail
        refine (HK.out _ hbel).mono ?_
        rintro e w1 ⟨rfl, hb⟩
        have hb1 := hbel.trans (hb.mono hbel.size)
        clear hb
        go_wp2_with fail
        go_roundw
        case rel =>
          refine ⟨k + 1, by omega, by go_num, ?_, hb1⟩
          intro u hu
          rw [List.take_succ_eq_append_getElem hlt] at hu
          rcases List.mem_append.mp hu with h | h
          · exact HA.out u h
          · simp at h; subst h; exact HPK.out
        case measure => simp [intOf]; omega
      · rw [hP] at HK0
        have HK : Hid _ := HK0
        have hal : l.any P = true := List.any_eq_true.mpr ⟨l[k], List.getElem_mem _, hP⟩
        have HL : Hid _ := hal
        clear R hP HK0 hal
        go_wp2_with fail
        refine (HK.out _ hbel).mono ?_
        rintro e w1 ⟨rfl, hb⟩
        have hb1 := hbel.trans (hb.mono hbel.size)
        clear hb
        go_wp2_with fail
        go_ret
        exact ⟨⟨k, rfl, by rw [HL.out]; exact decide_eq_true (by omega)⟩, hb1⟩
    · have hlt2 : ¬ (k : Int) < (l.length : Int) := by omega
      have hal : l.any P = false := by
        rw [Bool.eq_false_iff]; intro hh
        obtain ⟨u, hu, he⟩ := List.any_eq_true.mp hh
        have := HA.out u (by rw [List.take_of_length_le (by omega)]; exact hu)
        rw [this] at he; cases he
      have HL : Hid _ := hal
      clear hal
      go_wp2_with fail
      go_ret
      exact ⟨⟨-1, rfl, by rw [HL.out]; rfl⟩, hbel⟩
set_option maxRecDepth 4000 in
set_option maxHeartbeats 1000000 in
theorem con_kind (p : Option Addr) (m cap : Nat) (c : Val) (q : Option Addr) (qc : Nat) (l : List Val) (P : Val → Bool) (w : World)
    (HC : ∀ v ∈ l, ∀ W : World, Below w.heap.size w W → Calls Tryz.prog 199 #[.agg #[.slice p m cap, .int .i64 c.k, .int .i64 c.n, .string c.t], .agg #[.int .i64 v.k, .int .i64 v.n, .string v.t]] W fun e w' => e = .returned (.bool (P v)) ∧ Below W.heap.size W w') (hr : RowV w q l) (hl : l.length ≤ 1048576) :
    Calls Tryz.prog 254 #[.slice q l.length qc, .func (.func 199) #[.agg #[.slice p m cap, .int .i64 c.k, .int .i64 c.n, .string c.t]] #[]] w fun e w' => e = .returned (.bool (l.any P)) ∧ Below w.heap.size w w' := by
  have HI : Hid (Calls _ _ _ _ _) := idx_kind p m cap c q qc l P w HC hr hl
  clear HC hr
  go_enter Tryz.func254, Tryz.ntmps254
  go_wp2_with fail
  refine HI.out.mono ?_
  rintro e w1 ⟨⟨i, rfl, hi⟩, hb⟩
  have HJ : Hid _ := hi
  clear hi HI
  go_wp2_with fail
  go_ret
  exact ⟨ret_bool HJ.out, hb⟩
set_option maxRecDepth 4000 in
set_option maxHeartbeats 1000000 in
theorem some_kind (p : Option Addr) (m cap : Nat) (c : Val) (q : Option Addr) (qc : Nat) (l : List Val) (P : Val → Bool) (k n : Int) (t : ByteArray) (w : World)
    (HC : ∀ v ∈ l, ∀ W : World, Below w.heap.size w W → Calls Tryz.prog 199 #[.agg #[.slice p m cap, .int .i64 c.k, .int .i64 c.n, .string c.t], .agg #[.int .i64 v.k, .int .i64 v.n, .string v.t]] W fun e w' => e = .returned (.bool (P v)) ∧ Below W.heap.size W w') (hr : RowV w q l) (hl : l.length ≤ 1048576) :
    Calls Tryz.prog 198 #[.agg #[.slice q l.length qc, .int .i64 k, .int .i64 n, .string t], .func (.func 199) #[.agg #[.slice p m cap, .int .i64 c.k, .int .i64 c.n, .string c.t]] #[]] w fun e w' => e = .returned (.bool (l.any P)) ∧ Below w.heap.size w w' := by
  have hb0 : Below w.heap.size w (w.alloc (.cells #[.slice q l.length qc, .int .i64 k, .int .i64 n, .string t] 169)) := (Below.refl _ _).alloc (Nat.le_refl _) _
  have HI : Hid (Calls _ _ _ _ _) := con_kind p m cap c q qc l P (w.alloc (.cells #[.slice q l.length qc, .int .i64 k, .int .i64 n, .string t] 169)) (fun v hv W hW => HC v hv W (hb0.trans (hW.mono hb0.size))) (hr.next hb0) hl
  clear HC hr
  go_enter Tryz.func198, Tryz.ntmps198
  go_wp2_with fail
  refine HI.out.mono ?_
  rintro e w1 ⟨rfl, hb⟩
  have hb1 := hb0.trans (hb.mono hb0.size)
  clear HI hb
  go_wp2_with fail
  go_ret
  exact ⟨rfl, hb1⟩

set_option maxRecDepth 4000 in
set_option maxHeartbeats 1000000 in
theorem idx_wanted (p : Option Addr) (m cap : Nat) (c : Val) (q : Option Addr) (qc : Nat) (l : List Val) (P : Val → Bool) (w : World)
    (HC : ∀ v ∈ l, ∀ W : World, Below w.heap.size w W → Calls Tryz.prog 203 #[.agg #[.slice p m cap, .int .i64 c.k, .int .i64 c.n, .string c.t], .agg #[.int .i64 v.k, .int .i64 v.n, .string v.t]] W fun e w' => e = .returned (.bool (P v)) ∧ Below W.heap.size W w') (hr : RowV w q l) (hl : l.length ≤ 1048576) :
    Calls Tryz.prog 286 #[.slice q l.length qc, .func (.func 203) #[.agg #[.slice p m cap, .int .i64 c.k, .int .i64 c.n, .string c.t]] #[]] w fun e w' => (∃ i : Int, e = .returned (.int .i64 i) ∧ decide (0 ≤ i) = l.any P) ∧ Below w.heap.size w w' := by
  have HR : Hid (RowV _ _ _) := hr
  have HF : Hid _ := HC
  clear hr HC
  go_enter Tryz.func286, Tryz.ntmps286
  go_wp2_with fail
  go_loopw [8] (fun i wr => ∃ k : Nat, k ≤ l.length ∧ i = .int .i64 k ∧ (∀ u ∈ l.take k, P u = false) ∧ Below w.heap.size w wr) (fun i _ => l.length - (intOf i).toNat)
  case atStart => exact ⟨0, Nat.zero_le _, rfl, fun u hu => by simp at hu, Below.refl _ _⟩
  case round =>
    obtain ⟨k, hk, rfl, hall, hbel⟩ := hrel
    have HA : Hid _ := hall
    clear hall
    by_cases hlt : k < l.length
    · rcases HR.out.next hbel with h0 | ⟨g, rfl, R⟩
      · subst h0; simp at hlt
      obtain ⟨x0, x1, x2⟩ := R.cells k hlt
      have hlt2 : (k : Int) < (l.length : Int) := by omega
      have HK0 := HF.out l[k] (List.getElem_mem _)
      cases hP : P l[k]
      · rw [hP] at HK0
        have HK : Hid _ := HK0
        have HPK : Hid _ := hP
        clear R hP HK0
        go_wp2_with fail
        refine (HK.out _ hbel).mono ?_
        rintro e w1 ⟨rfl, hb⟩
        have hb1 := hbel.trans (hb.mono hbel.size)
        clear hb
        go_wp2_with fail
        go_roundw
        case rel =>
          refine ⟨k + 1, by omega, by go_num, ?_, hb1⟩
          intro u hu
          rw [List.take_succ_eq_append_getElem hlt] at hu
          rcases List.mem_append.mp hu with h | h
          · exact HA.out u h
          · simp at h; subst h; exact HPK.out
        case measure => simp [intOf]; omega
      · rw [hP] at HK0
        have HK : Hid _ := HK0
        have hal : l.any P = true := List.any_eq_true.mpr ⟨l[k], List.getElem_mem _, hP⟩
        have HL : Hid _ := hal
        clear R hP HK0 hal
        go_wp2_with fail
        refine (HK.out _ hbel).mono ?_
        rintro e w1 ⟨rfl, hb⟩
        have hb1 := hbel.trans (hb.mono hbel.size)
        clear hb
        go_wp2_with fail
        go_ret
        exact ⟨⟨k, rfl, by rw [HL.out]; exact decide_eq_true (by omega)⟩, hb1⟩
    · have hlt2 : ¬ (k : Int) < (l.length : Int) := by omega
      have hal : l.any P = false := by
        rw [Bool.eq_false_iff]; intro hh
        obtain ⟨u, hu, he⟩ := List.any_eq_true.mp hh
        have := HA.out u (by rw [List.take_of_length_le (by omega)]; exact hu)
        rw [this] at he; cases he
      have HL : Hid _ := hal
      clear hal
      go_wp2_with fail
      go_ret
      exact ⟨⟨-1, rfl, by rw [HL.out]; rfl⟩, hbel⟩
set_option maxRecDepth 4000 in
set_option maxHeartbeats 1000000 in
theorem con_wanted (p : Option Addr) (m cap : Nat) (c : Val) (q : Option Addr) (qc : Nat) (l : List Val) (P : Val → Bool) (w : World)
    (HC : ∀ v ∈ l, ∀ W : World, Below w.heap.size w W → Calls Tryz.prog 203 #[.agg #[.slice p m cap, .int .i64 c.k, .int .i64 c.n, .string c.t], .agg #[.int .i64 v.k, .int .i64 v.n, .string v.t]] W fun e w' => e = .returned (.bool (P v)) ∧ Below W.heap.size W w') (hr : RowV w q l) (hl : l.length ≤ 1048576) :
    Calls Tryz.prog 254 #[.slice q l.length qc, .func (.func 203) #[.agg #[.slice p m cap, .int .i64 c.k, .int .i64 c.n, .string c.t]] #[]] w fun e w' => e = .returned (.bool (l.any P)) ∧ Below w.heap.size w w' := by
  have HI : Hid (Calls _ _ _ _ _) := idx_wanted p m cap c q qc l P w HC hr hl
  clear HC hr
  go_enter Tryz.func254, Tryz.ntmps254
  go_wp2_with fail
  refine HI.out.mono ?_
  rintro e w1 ⟨⟨i, rfl, hi⟩, hb⟩
  have HJ : Hid _ := hi
  clear hi HI
  go_wp2_with fail
  go_ret
  exact ⟨ret_bool HJ.out, hb⟩
set_option maxRecDepth 4000 in
set_option maxHeartbeats 1000000 in
theorem some_wanted (p : Option Addr) (m cap : Nat) (c : Val) (q : Option Addr) (qc : Nat) (l : List Val) (P : Val → Bool) (k n : Int) (t : ByteArray) (w : World)
    (HC : ∀ v ∈ l, ∀ W : World, Below w.heap.size w W → Calls Tryz.prog 203 #[.agg #[.slice p m cap, .int .i64 c.k, .int .i64 c.n, .string c.t], .agg #[.int .i64 v.k, .int .i64 v.n, .string v.t]] W fun e w' => e = .returned (.bool (P v)) ∧ Below W.heap.size W w') (hr : RowV w q l) (hl : l.length ≤ 1048576) :
    Calls Tryz.prog 198 #[.agg #[.slice q l.length qc, .int .i64 k, .int .i64 n, .string t], .func (.func 203) #[.agg #[.slice p m cap, .int .i64 c.k, .int .i64 c.n, .string c.t]] #[]] w fun e w' => e = .returned (.bool (l.any P)) ∧ Below w.heap.size w w' := by
  have hb0 : Below w.heap.size w (w.alloc (.cells #[.slice q l.length qc, .int .i64 k, .int .i64 n, .string t] 169)) := (Below.refl _ _).alloc (Nat.le_refl _) _
  have HI : Hid (Calls _ _ _ _ _) := con_wanted p m cap c q qc l P (w.alloc (.cells #[.slice q l.length qc, .int .i64 k, .int .i64 n, .string t] 169)) (fun v hv W hW => HC v hv W (hb0.trans (hW.mono hb0.size))) (hr.next hb0) hl
  clear HC hr
  go_enter Tryz.func198, Tryz.ntmps198
  go_wp2_with fail
  refine HI.out.mono ?_
  rintro e w1 ⟨rfl, hb⟩
  have hb1 := hb0.trans (hb.mono hb0.size)
  clear HI hb
  go_wp2_with fail
  go_ret
  exact ⟨rfl, hb1⟩

set_option maxRecDepth 4000 in
set_option maxHeartbeats 1000000 in
theorem idx_item (p : Option Addr) (m cap : Nat) (c : Val) (q : Option Addr) (qc : Nat) (l : List Val) (P : Val → Bool) (w : World)
    (HC : ∀ v ∈ l, ∀ W : World, Below w.heap.size w W → Calls Tryz.prog 204 #[.agg #[.slice p m cap, .int .i64 c.k, .int .i64 c.n, .string c.t], .agg #[.int .i64 v.k, .int .i64 v.n, .string v.t]] W fun e w' => e = .returned (.bool (P v)) ∧ Below W.heap.size W w') (hr : RowV w q l) (hl : l.length ≤ 1048576) :
    Calls Tryz.prog 286 #[.slice q l.length qc, .func (.func 204) #[.agg #[.slice p m cap, .int .i64 c.k, .int .i64 c.n, .string c.t]] #[]] w fun e w' => (∃ i : Int, e = .returned (.int .i64 i) ∧ decide (0 ≤ i) = l.any P) ∧ Below w.heap.size w w' := by
  have HR : Hid (RowV _ _ _) := hr
  have HF : Hid _ := HC
  clear hr HC
  go_enter Tryz.func286, Tryz.ntmps286
  go_wp2_with fail
  go_loopw [8] (fun i wr => ∃ k : Nat, k ≤ l.length ∧ i = .int .i64 k ∧ (∀ u ∈ l.take k, P u = false) ∧ Below w.heap.size w wr) (fun i _ => l.length - (intOf i).toNat)
  case atStart => exact ⟨0, Nat.zero_le _, rfl, fun u hu => by simp at hu, Below.refl _ _⟩
  case round =>
    obtain ⟨k, hk, rfl, hall, hbel⟩ := hrel
    have HA : Hid _ := hall
    clear hall
    by_cases hlt : k < l.length
    · rcases HR.out.next hbel with h0 | ⟨g, rfl, R⟩
      · subst h0; simp at hlt
      obtain ⟨x0, x1, x2⟩ := R.cells k hlt
      have hlt2 : (k : Int) < (l.length : Int) := by omega
      have HK0 := HF.out l[k] (List.getElem_mem _)
      cases hP : P l[k]
      · rw [hP] at HK0
        have HK : Hid _ := HK0
        have HPK : Hid _ := hP
        clear R hP HK0
        go_wp2_with fail
        refine (HK.out _ hbel).mono ?_
        rintro e w1 ⟨rfl, hb⟩
        have hb1 := hbel.trans (hb.mono hbel.size)
        clear hb
        go_wp2_with fail
        go_roundw
        case rel =>
          refine ⟨k + 1, by omega, by go_num, ?_, hb1⟩
          intro u hu
          rw [List.take_succ_eq_append_getElem hlt] at hu
          rcases List.mem_append.mp hu with h | h
          · exact HA.out u h
          · simp at h; subst h; exact HPK.out
        case measure => simp [intOf]; omega
      · rw [hP] at HK0
        have HK : Hid _ := HK0
        have hal : l.any P = true := List.any_eq_true.mpr ⟨l[k], List.getElem_mem _, hP⟩
        have HL : Hid _ := hal
        clear R hP HK0 hal
        go_wp2_with fail
        refine (HK.out _ hbel).mono ?_
        rintro e w1 ⟨rfl, hb⟩
        have hb1 := hbel.trans (hb.mono hbel.size)
        clear hb
        go_wp2_with fail
        go_ret
        exact ⟨⟨k, rfl, by rw [HL.out]; exact decide_eq_true (by omega)⟩, hb1⟩
    · have hlt2 : ¬ (k : Int) < (l.length : Int) := by omega
      have hal : l.any P = false := by
        rw [Bool.eq_false_iff]; intro hh
        obtain ⟨u, hu, he⟩ := List.any_eq_true.mp hh
        have := HA.out u (by rw [List.take_of_length_le (by omega)]; exact hu)
        rw [this] at he; cases he
      have HL : Hid _ := hal
      clear hal
      go_wp2_with fail
      go_ret
      exact ⟨⟨-1, rfl, by rw [HL.out]; rfl⟩, hbel⟩
set_option maxRecDepth 4000 in
set_option maxHeartbeats 1000000 in
theorem con_item (p : Option Addr) (m cap : Nat) (c : Val) (q : Option Addr) (qc : Nat) (l : List Val) (P : Val → Bool) (w : World)
    (HC : ∀ v ∈ l, ∀ W : World, Below w.heap.size w W → Calls Tryz.prog 204 #[.agg #[.slice p m cap, .int .i64 c.k, .int .i64 c.n, .string c.t], .agg #[.int .i64 v.k, .int .i64 v.n, .string v.t]] W fun e w' => e = .returned (.bool (P v)) ∧ Below W.heap.size W w') (hr : RowV w q l) (hl : l.length ≤ 1048576) :
    Calls Tryz.prog 254 #[.slice q l.length qc, .func (.func 204) #[.agg #[.slice p m cap, .int .i64 c.k, .int .i64 c.n, .string c.t]] #[]] w fun e w' => e = .returned (.bool (l.any P)) ∧ Below w.heap.size w w' := by
  have HI : Hid (Calls _ _ _ _ _) := idx_item p m cap c q qc l P w HC hr hl
  clear HC hr
  go_enter Tryz.func254, Tryz.ntmps254
  go_wp2_with fail
  refine HI.out.mono ?_
  rintro e w1 ⟨⟨i, rfl, hi⟩, hb⟩
  have HJ : Hid _ := hi
  clear hi HI
  go_wp2_with fail
  go_ret
  exact ⟨ret_bool HJ.out, hb⟩
set_option maxRecDepth 4000 in
set_option maxHeartbeats 1000000 in
theorem some_item (p : Option Addr) (m cap : Nat) (c : Val) (q : Option Addr) (qc : Nat) (l : List Val) (P : Val → Bool) (k n : Int) (t : ByteArray) (w : World)
    (HC : ∀ v ∈ l, ∀ W : World, Below w.heap.size w W → Calls Tryz.prog 204 #[.agg #[.slice p m cap, .int .i64 c.k, .int .i64 c.n, .string c.t], .agg #[.int .i64 v.k, .int .i64 v.n, .string v.t]] W fun e w' => e = .returned (.bool (P v)) ∧ Below W.heap.size W w') (hr : RowV w q l) (hl : l.length ≤ 1048576) :
    Calls Tryz.prog 198 #[.agg #[.slice q l.length qc, .int .i64 k, .int .i64 n, .string t], .func (.func 204) #[.agg #[.slice p m cap, .int .i64 c.k, .int .i64 c.n, .string c.t]] #[]] w fun e w' => e = .returned (.bool (l.any P)) ∧ Below w.heap.size w w' := by
  have hb0 : Below w.heap.size w (w.alloc (.cells #[.slice q l.length qc, .int .i64 k, .int .i64 n, .string t] 169)) := (Below.refl _ _).alloc (Nat.le_refl _) _
  have HI : Hid (Calls _ _ _ _ _) := con_item p m cap c q qc l P (w.alloc (.cells #[.slice q l.length qc, .int .i64 k, .int .i64 n, .string t] 169)) (fun v hv W hW => HC v hv W (hb0.trans (hW.mono hb0.size))) (hr.next hb0) hl
  clear HC hr
  go_enter Tryz.func198, Tryz.ntmps198
  go_wp2_with fail
  refine HI.out.mono ?_
  rintro e w1 ⟨rfl, hb⟩
  have hb1 := hb0.trans (hb.mono hb0.size)
  clear HI hb
  go_wp2_with fail
  go_ret
  exact ⟨rfl, hb1⟩

set_option maxRecDepth 4000 in
set_option maxHeartbeats 1000000 in
theorem idx_size (p : Option Addr) (m cap : Nat) (c : Val) (q : Option Addr) (qc : Nat) (l : List Val) (P : Val → Bool) (w : World)
    (HC : ∀ v ∈ l, ∀ W : World, Below w.heap.size w W → Calls Tryz.prog 205 #[.agg #[.slice p m cap, .int .i64 c.k, .int .i64 c.n, .string c.t], .agg #[.int .i64 v.k, .int .i64 v.n, .string v.t]] W fun e w' => e = .returned (.bool (P v)) ∧ Below W.heap.size W w') (hr : RowV w q l) (hl : l.length ≤ 1048576) :
    Calls Tryz.prog 286 #[.slice q l.length qc, .func (.func 205) #[.agg #[.slice p m cap, .int .i64 c.k, .int .i64 c.n, .string c.t]] #[]] w fun e w' => (∃ i : Int, e = .returned (.int .i64 i) ∧ decide (0 ≤ i) = l.any P) ∧ Below w.heap.size w w' := by
  have HR : Hid (RowV _ _ _) := hr
  have HF : Hid _ := HC
  clear hr HC
  go_enter Tryz.func286, Tryz.ntmps286
  go_wp2_with fail
  go_loopw [8] (fun i wr => ∃ k : Nat, k ≤ l.length ∧ i = .int .i64 k ∧ (∀ u ∈ l.take k, P u = false) ∧ Below w.heap.size w wr) (fun i _ => l.length - (intOf i).toNat)
  case atStart => exact ⟨0, Nat.zero_le _, rfl, fun u hu => by simp at hu, Below.refl _ _⟩
  case round =>
    obtain ⟨k, hk, rfl, hall, hbel⟩ := hrel
    have HA : Hid _ := hall
    clear hall
    by_cases hlt : k < l.length
    · rcases HR.out.next hbel with h0 | ⟨g, rfl, R⟩
      · subst h0; simp at hlt
      obtain ⟨x0, x1, x2⟩ := R.cells k hlt
      have hlt2 : (k : Int) < (l.length : Int) := by omega
      have HK0 := HF.out l[k] (List.getElem_mem _)
      cases hP : P l[k]
      · rw [hP] at HK0
        have HK : Hid _ := HK0
        have HPK : Hid _ := hP
        clear R hP HK0
        go_wp2_with fail
        refine (HK.out _ hbel).mono ?_
        rintro e w1 ⟨rfl, hb⟩
        have hb1 := hbel.trans (hb.mono hbel.size)
        clear hb
        go_wp2_with fail
        go_roundw
        case rel =>
          refine ⟨k + 1, by omega, by go_num, ?_, hb1⟩
          intro u hu
          rw [List.take_succ_eq_append_getElem hlt] at hu
          rcases List.mem_append.mp hu with h | h
          · exact HA.out u h
          · simp at h; subst h; exact HPK.out
        case measure => simp [intOf]; omega
      · rw [hP] at HK0
        have HK : Hid _ := HK0
        have hal : l.any P = true := List.any_eq_true.mpr ⟨l[k], List.getElem_mem _, hP⟩
        have HL : Hid _ := hal
        clear R hP HK0 hal
        go_wp2_with fail
        refine (HK.out _ hbel).mono ?_
        rintro e w1 ⟨rfl, hb⟩
        have hb1 := hbel.trans (hb.mono hbel.size)
        clear hb
        go_wp2_with fail
        go_ret
        exact ⟨⟨k, rfl, by rw [HL.out]; exact decide_eq_true (by omega)⟩, hb1⟩
    · have hlt2 : ¬ (k : Int) < (l.length : Int) := by omega
      have hal : l.any P = false := by
        rw [Bool.eq_false_iff]; intro hh
        obtain ⟨u, hu, he⟩ := List.any_eq_true.mp hh
        have := HA.out u (by rw [List.take_of_length_le (by omega)]; exact hu)
        rw [this] at he; cases he
      have HL : Hid _ := hal
      clear hal
      go_wp2_with fail
      go_ret
      exact ⟨⟨-1, rfl, by rw [HL.out]; rfl⟩, hbel⟩
set_option maxRecDepth 4000 in
set_option maxHeartbeats 1000000 in
theorem con_size (p : Option Addr) (m cap : Nat) (c : Val) (q : Option Addr) (qc : Nat) (l : List Val) (P : Val → Bool) (w : World)
    (HC : ∀ v ∈ l, ∀ W : World, Below w.heap.size w W → Calls Tryz.prog 205 #[.agg #[.slice p m cap, .int .i64 c.k, .int .i64 c.n, .string c.t], .agg #[.int .i64 v.k, .int .i64 v.n, .string v.t]] W fun e w' => e = .returned (.bool (P v)) ∧ Below W.heap.size W w') (hr : RowV w q l) (hl : l.length ≤ 1048576) :
    Calls Tryz.prog 254 #[.slice q l.length qc, .func (.func 205) #[.agg #[.slice p m cap, .int .i64 c.k, .int .i64 c.n, .string c.t]] #[]] w fun e w' => e = .returned (.bool (l.any P)) ∧ Below w.heap.size w w' := by
  have HI : Hid (Calls _ _ _ _ _) := idx_size p m cap c q qc l P w HC hr hl
  clear HC hr
  go_enter Tryz.func254, Tryz.ntmps254
  go_wp2_with fail
  refine HI.out.mono ?_
  rintro e w1 ⟨⟨i, rfl, hi⟩, hb⟩
  have HJ : Hid _ := hi
  clear hi HI
  go_wp2_with fail
  go_ret
  exact ⟨ret_bool HJ.out, hb⟩
set_option maxRecDepth 4000 in
set_option maxHeartbeats 1000000 in
theorem some_size (p : Option Addr) (m cap : Nat) (c : Val) (q : Option Addr) (qc : Nat) (l : List Val) (P : Val → Bool) (k n : Int) (t : ByteArray) (w : World)
    (HC : ∀ v ∈ l, ∀ W : World, Below w.heap.size w W → Calls Tryz.prog 205 #[.agg #[.slice p m cap, .int .i64 c.k, .int .i64 c.n, .string c.t], .agg #[.int .i64 v.k, .int .i64 v.n, .string v.t]] W fun e w' => e = .returned (.bool (P v)) ∧ Below W.heap.size W w') (hr : RowV w q l) (hl : l.length ≤ 1048576) :
    Calls Tryz.prog 198 #[.agg #[.slice q l.length qc, .int .i64 k, .int .i64 n, .string t], .func (.func 205) #[.agg #[.slice p m cap, .int .i64 c.k, .int .i64 c.n, .string c.t]] #[]] w fun e w' => e = .returned (.bool (l.any P)) ∧ Below w.heap.size w w' := by
  have hb0 : Below w.heap.size w (w.alloc (.cells #[.slice q l.length qc, .int .i64 k, .int .i64 n, .string t] 169)) := (Below.refl _ _).alloc (Nat.le_refl _) _
  have HI : Hid (Calls _ _ _ _ _) := con_size p m cap c q qc l P (w.alloc (.cells #[.slice q l.length qc, .int .i64 k, .int .i64 n, .string t] 169)) (fun v hv W hW => HC v hv W (hb0.trans (hW.mono hb0.size))) (hr.next hb0) hl
  clear HC hr
  go_enter Tryz.func198, Tryz.ntmps198
  go_wp2_with fail
  refine HI.out.mono ?_
  rintro e w1 ⟨rfl, hb⟩
  have hb1 := hb0.trans (hb.mono hb0.size)
  clear HI hb
  go_wp2_with fail
  go_ret
  exact ⟨rfl, hb1⟩

set_option maxRecDepth 4000 in
set_option maxHeartbeats 1000000 in
theorem idx_ord (b1 b2 : Nat) (q : Option Addr) (qc : Nat) (l : List Val) (P : Val → Bool) (w : World)
    (HC : ∀ v ∈ l, ∀ W : World, Below w.heap.size w W → Calls Tryz.prog 200 #[.agg #[.int .i64 v.k, .int .i64 v.n, .string v.t], .pointer (some ⟨b1, 0, none⟩), .pointer (some ⟨b2, 0, none⟩)] W fun e w' => e = .returned (.bool (P v)) ∧ Below W.heap.size W w') (hr : RowV w q l) (hl : l.length ≤ 1048576) :
    Calls Tryz.prog 286 #[.slice q l.length qc, .func (.func 200) #[] #[.pointer (some ⟨b1, 0, none⟩), .pointer (some ⟨b2, 0, none⟩)]] w fun e w' => (∃ i : Int, e = .returned (.int .i64 i) ∧ decide (0 ≤ i) = l.any P) ∧ Below w.heap.size w w' := by
  have HR : Hid (RowV _ _ _) := hr
  have HF : Hid _ := HC
  clear hr HC
  go_enter Tryz.func286, Tryz.ntmps286
  go_wp2_with fail
  go_loopw [8] (fun i wr => ∃ k : Nat, k ≤ l.length ∧ i = .int .i64 k ∧ (∀ u ∈ l.take k, P u = false) ∧ Below w.heap.size w wr) (fun i _ => l.length - (intOf i).toNat)
  case atStart => exact ⟨0, Nat.zero_le _, rfl, fun u hu => by simp at hu, Below.refl _ _⟩
  case round =>
    obtain ⟨k, hk, rfl, hall, hbel⟩ := hrel
    have HA : Hid _ := hall
    clear hall
    by_cases hlt : k < l.length
    · rcases HR.out.next hbel with h0 | ⟨g, rfl, R⟩
      · subst h0; simp at hlt
      obtain ⟨x0, x1, x2⟩ := R.cells k hlt
      have hlt2 : (k : Int) < (l.length : Int) := by omega
      have HK0 := HF.out l[k] (List.getElem_mem _)
      cases hP : P l[k]
      · rw [hP] at HK0
        have HK : Hid _ := HK0
        have HPK : Hid _ := hP
        clear R hP HK0
        go_wp2_with fail
        refine (HK.out _ hbel).mono ?_
        rintro e w1 ⟨rfl, hb⟩
        have hb1 := hbel.trans (hb.mono hbel.size)
        clear hb
        go_wp2_with fail
        go_roundw
        case rel =>
          refine ⟨k + 1, by omega, by go_num, ?_, hb1⟩
          intro u hu
          rw [List.take_succ_eq_append_getElem hlt] at hu
          rcases List.mem_append.mp hu with h | h
          · exact HA.out u h
          · simp at h; subst h; exact HPK.out
        case measure => simp [intOf]; omega
      · rw [hP] at HK0
        have HK : Hid _ := HK0
        have hal : l.any P = true := List.any_eq_true.mpr ⟨l[k], List.getElem_mem _, hP⟩
        have HL : Hid _ := hal
        clear R hP HK0 hal
        go_wp2_with fail
        refine (HK.out _ hbel).mono ?_
        rintro e w1 ⟨rfl, hb⟩
        have hb1 := hbel.trans (hb.mono hbel.size)
        clear hb
        go_wp2_with fail
        go_ret
        exact ⟨⟨k, rfl, by rw [HL.out]; exact decide_eq_true (by omega)⟩, hb1⟩
    · have hlt2 : ¬ (k : Int) < (l.length : Int) := by omega
      have hal : l.any P = false := by
        rw [Bool.eq_false_iff]; intro hh
        obtain ⟨u, hu, he⟩ := List.any_eq_true.mp hh
        have := HA.out u (by rw [List.take_of_length_le (by omega)]; exact hu)
        rw [this] at he; cases he
      have HL : Hid _ := hal
      clear hal
      go_wp2_with fail
      go_ret
      exact ⟨⟨-1, rfl, by rw [HL.out]; rfl⟩, hbel⟩
set_option maxRecDepth 4000 in
set_option maxHeartbeats 1000000 in
theorem con_ord (b1 b2 : Nat) (q : Option Addr) (qc : Nat) (l : List Val) (P : Val → Bool) (w : World)
    (HC : ∀ v ∈ l, ∀ W : World, Below w.heap.size w W → Calls Tryz.prog 200 #[.agg #[.int .i64 v.k, .int .i64 v.n, .string v.t], .pointer (some ⟨b1, 0, none⟩), .pointer (some ⟨b2, 0, none⟩)] W fun e w' => e = .returned (.bool (P v)) ∧ Below W.heap.size W w') (hr : RowV w q l) (hl : l.length ≤ 1048576) :
    Calls Tryz.prog 254 #[.slice q l.length qc, .func (.func 200) #[] #[.pointer (some ⟨b1, 0, none⟩), .pointer (some ⟨b2, 0, none⟩)]] w fun e w' => e = .returned (.bool (l.any P)) ∧ Below w.heap.size w w' := by
  have HI : Hid (Calls _ _ _ _ _) := idx_ord b1 b2 q qc l P w HC hr hl
  clear HC hr
  go_enter Tryz.func254, Tryz.ntmps254
  go_wp2_with fail
  refine HI.out.mono ?_
  rintro e w1 ⟨⟨i, rfl, hi⟩, hb⟩
  have HJ : Hid _ := hi
  clear hi HI
  go_wp2_with fail
  go_ret
  exact ⟨ret_bool HJ.out, hb⟩
set_option maxRecDepth 4000 in
set_option maxHeartbeats 1000000 in
theorem some_ord (b1 b2 : Nat) (q : Option Addr) (qc : Nat) (l : List Val) (P : Val → Bool) (k n : Int) (t : ByteArray) (w : World)
    (HC : ∀ v ∈ l, ∀ W : World, Below w.heap.size w W → Calls Tryz.prog 200 #[.agg #[.int .i64 v.k, .int .i64 v.n, .string v.t], .pointer (some ⟨b1, 0, none⟩), .pointer (some ⟨b2, 0, none⟩)] W fun e w' => e = .returned (.bool (P v)) ∧ Below W.heap.size W w') (hr : RowV w q l) (hl : l.length ≤ 1048576) :
    Calls Tryz.prog 198 #[.agg #[.slice q l.length qc, .int .i64 k, .int .i64 n, .string t], .func (.func 200) #[] #[.pointer (some ⟨b1, 0, none⟩), .pointer (some ⟨b2, 0, none⟩)]] w fun e w' => e = .returned (.bool (l.any P)) ∧ Below w.heap.size w w' := by
  have hb0 : Below w.heap.size w (w.alloc (.cells #[.slice q l.length qc, .int .i64 k, .int .i64 n, .string t] 169)) := (Below.refl _ _).alloc (Nat.le_refl _) _
  have HI : Hid (Calls _ _ _ _ _) := con_ord b1 b2 q qc l P (w.alloc (.cells #[.slice q l.length qc, .int .i64 k, .int .i64 n, .string t] 169)) (fun v hv W hW => HC v hv W (hb0.trans (hW.mono hb0.size))) (hr.next hb0) hl
  clear HC hr
  go_enter Tryz.func198, Tryz.ntmps198
  go_wp2_with fail
  refine HI.out.mono ?_
  rintro e w1 ⟨rfl, hb⟩
  have hb1 := hb0.trans (hb.mono hb0.size)
  clear HI hb
  go_wp2_with fail
  go_ret
  exact ⟨rfl, hb1⟩

end Go.Proofs.YtkeghknceccdmaaGreatDoor

/- What the specification's trial of one value, and of a whole document, by a term answers. -/
namespace Go.Proofs.YtkeghknceccdmaaGreatDoor
open Go.RowKit
set_option linter.unusedVariables false

/-- Five cells in the first new block, three in the second. -/
structure B53 (w W : World) (a b c d e x y z : Value) : Prop where
  bel : Below w.heap.size w W
  lt : w.heap.size + 1 < W.heap.size
  c0 : W.cell? ⟨w.heap.size, 0, none⟩ = some a
  c1 : W.cell? ⟨w.heap.size, 1, none⟩ = some b
  c2 : W.cell? ⟨w.heap.size, 2, none⟩ = some c
  c3 : W.cell? ⟨w.heap.size, 3, none⟩ = some d
  c4 : W.cell? ⟨w.heap.size, 4, none⟩ = some e
  d0 : W.cell? ⟨w.heap.size + 1, 0, none⟩ = some x
  d1 : W.cell? ⟨w.heap.size + 1, 1, none⟩ = some y
  d2 : W.cell? ⟨w.heap.size + 1, 2, none⟩ = some z
theorem B53.start (w : World) (a b c d e x y z : Value) (T U : TypeId) : B53 w ((w.alloc (.cells #[a, b, c, d, e] T)).alloc (.cells #[x, y, z] U)) a b c d e x y z :=
  ⟨((Below.refl _ _).alloc (Nat.le_refl _) _).alloc (by simp) _, by simp, by simp [go_sem], by simp [go_sem], by simp [go_sem], by simp [go_sem], by simp [go_sem], by simp [go_sem], by simp [go_sem], by simp [go_sem]⟩
theorem B53.step {w W W' : World} {a b c d e x y z : Value} (h : B53 w W a b c d e x y z) (hb : Below W.heap.size W W') : B53 w W' a b c d e x y z :=
  have hl : w.heap.size < W.heap.size := Nat.lt_of_succ_lt h.lt
  ⟨h.bel.trans (hb.mono h.bel.size), Nat.lt_of_lt_of_le h.lt hb.size, (hb.cell hl).trans h.c0, (hb.cell hl).trans h.c1, (hb.cell hl).trans h.c2, (hb.cell hl).trans h.c3, (hb.cell hl).trans h.c4, (hb.cell h.lt).trans h.d0, (hb.cell h.lt).trans h.d1, (hb.cell h.lt).trans h.d2⟩

theorem oneT_eq (c v : Val) (op : Int) (h : op = 1 ∨ op = 2) : oneT op c v = (v.k == c.k && (v.n == c.n && v.t.toList == c.t.toList)) := by unfold oneT; rw [if_pos h, val_eq]
theorem kind_eq (c v : Val) : (v.k == c.k) = decide (v.k = c.k) := by rw [Bool.eq_iff_iff]; simp

set_option maxRecDepth 8000 in
set_option maxHeartbeats 4000000 in
theorem l03One_any (op : Int) (p : ByteArray) (c v : Val) (w : World) (hop : 1 ≤ op ∧ op ≤ 10 ∧ op ≠ 8) (h7 : op = 7 → c.k = 4) (hc : okB c = true) (hv : okB v = true) :
    Calls Tryz.prog 322 #[.agg #[.int .i64 op, .string p, .int .i64 c.k, .int .i64 c.n, .string c.t], .agg #[.int .i64 v.k, .int .i64 v.n, .string v.t]] w fun e w' => e = .returned (.bool (oneT op c v)) ∧ Below w.heap.size w w' := by
  have X0 := B53.start w (.int .i64 op) (.string p) (.int .i64 c.k) (.int .i64 c.n) (.string c.t) (.int .i64 v.k) (.int .i64 v.n) (.string v.t) 34 28
  have hsc := ok_size c hc
  have hsv := ok_size v hv
  have HC : Hid (okB c = true) := hc
  have HV : Hid (okB v = true) := hv
  have H7 : Hid _ := h7
  obtain ⟨R, hR⟩ : ∃ R, R = oneT op c v := ⟨_, rfl⟩
  rw [← hR]
  have HR : Hid _ := hR
  obtain ⟨O, hO⟩ : ∃ O, O = ordV 5 v c := ⟨_, rfl⟩
  have HO : Hid _ := hO
  have HCO : Hid (∀ W : World, Calls _ _ _ W _) := fun W => l01Order_at 5 v c W (by omega) (by omega) hv hc
  rw [← hO] at HCO
  clear hc hv hR hO h7
  go_enter Tryz.func322, Tryz.ntmps322
  go_wp2_with fail
  refine (HCO.out _).mono ?_
  rintro e w1 ⟨rfl, hb⟩
  have X1 := X0.step hb
  have a0 := X1.c0
  have a2 := X1.c2
  have a3 := X1.c3
  have a4 := X1.c4
  have b0 := X1.d0
  have b1 := X1.d1
  have b2 := X1.d2
  have hbw := X1.bel
  have hz := hbw.size
  clear hb X0
  have hcs : op = 1 ∨ op = 2 ∨ op = 3 ∨ op = 4 ∨ op = 5 ∨ op = 6 ∨ op = 7 ∨ op = 9 ∨ op = 10 := by omega
  clear hop
  rcases hcs with rfl | rfl | rfl | rfl | rfl | rfl | rfl | rfl | rfl
  iterate 2
    · go_wp2_with fail
      all_goals
        go_ret
        exact ⟨ret_bool (by rw [HR.out, oneT_eq _ _ _ (by decide)]; simp [*]), hbw⟩
  iterate 4
    · have hRo := HR.out
      rw [oneT_ord _ c v (by decide), ← HO.out] at hRo
      by_cases hk : v.k = c.k
      · have ek : (v.k == c.k) = true := by simp [hk]
        rw [decide_eq_true hk, Bool.true_and] at hRo
        have HRO : Hid _ := hRo
        clear HR hRo
        go_wp2_with fail
        go_ret
        exact ⟨ret_bool (by rw [HRO.out]; simp [fitsO]), hbw⟩
      · have ek : (v.k == c.k) = false := beq_eq_false_iff_ne.mpr hk
        rw [decide_eq_false hk, Bool.false_and] at hRo
        clear HR
        subst hRo
        go_wp2_with fail
        go_ret
        exact ⟨rfl, hbw⟩
  · obtain ⟨hi, hl, _⟩ := ok_items c HC.out (H7.out rfl)
    have hRo : R = (itms c).any (fun u => decide (u = v)) := by rw [HR.out]; unfold oneT; simp
    obtain ⟨L, hL⟩ : ∃ L, L = itms c := ⟨_, rfl⟩
    rw [← hL] at hi hl hRo
    have HI : Hid _ := hi
    have HRO : Hid _ := hRo
    clear hi hL hRo HR
    go_wp2_with fail
    refine (l01Items_any c.t _ (by omega)).mono ?_
    rintro e w2 ⟨⟨g1, m, cap1, rfl, hown0⟩, hb⟩
    obtain ⟨rfl, hown1⟩ := hown0 L HI.out
    rw [HI.out]
    have X2 := X1.step hb
    have HRV : Hid (ReadV _ _ _) := ReadV.of_own hown1
    clear hown0 hown1 hb X1 a0 a2 a3 a4 b0 b1 b2 hbw hz
    go_wp2_with fail
    go_loopw [9] (fun i wr => ∃ k : Nat, k ≤ L.length ∧ i = .int .i64 k ∧ (∀ u ∈ L.take k, u ≠ v) ∧ Below w2.heap.size w2 wr) (fun i _ => L.length - (intOf i).toNat)
    case atStart => exact ⟨0, Nat.zero_le _, rfl, fun u hu => by simp at hu, Below.refl _ _⟩
    case round =>
      obtain ⟨k, hk, rfl, hall, hbel⟩ := hrel
      have HA : Hid _ := hall
      have X := X2.step hbel
      have b0 := X.d0
      have b1 := X.d1
      have b2 := X.d2
      have hbw := X.bel
      clear hall X
      by_cases hlt : k < L.length
      · have RR := HRV.out.next hbel
        obtain ⟨x0, x1, x2⟩ := RR.cells k hlt
        have hlt2 : (k : Int) < (L.length : Int) := by omega
        have hve := val_eq L[k] v
        clear RR
        by_cases he : L[k] = v
        · rw [decide_eq_true he] at hve
          have hal : L.any (fun u => decide (u = v)) = true := List.any_eq_true.mpr ⟨L[k], List.getElem_mem _, by simp [he]⟩
          have hRt := HRO.out
          rw [hal] at hRt
          subst hRt
          simp only [Bool.and_eq_true] at hve
          obtain ⟨q1, q2, q3⟩ := hve
          clear hal he HRO
          go_wp2_with fail
          go_quiet (fail)
          go_wp2_with fail
          go_ret
          exact ⟨rfl, by (repeat (first | (with_reducible exact Below.refl _ _) | (with_reducible assumption) | (with_reducible apply below_drewN) | (with_reducible apply Below.drew) | ((with_reducible refine Below.setCell ?_ ?_ _); rotate_left; focus (first | (simp; done) | (simp; omega) | omega)) | ((with_reducible refine Below.alloc ?_ ?_ _); rotate_left; focus (first | (simp; done) | (simp; omega) | omega))))⟩
        · have hne := val_ne L[k] v he
          have HE : Hid _ := he
          clear he hve
          rcases hne with q1 | ⟨q1, q2⟩ | ⟨q1, q2, q3⟩
          all_goals
            go_wp2_with fail
            go_quiet (fail)
            go_wp2_with fail
            go_roundw
            case rel =>
              refine ⟨k + 1, by omega, by go_num, ?_, by (repeat (first | (with_reducible exact Below.refl _ _) | (with_reducible assumption) | (with_reducible apply below_drewN) | (with_reducible apply Below.drew) | ((with_reducible refine Below.setCell ?_ ?_ _); rotate_left; focus (first | (simp; done) | (simp; omega) | omega)) | ((with_reducible refine Below.alloc ?_ ?_ _); rotate_left; focus (first | (simp; done) | (simp; omega) | omega))))⟩
              intro u hu
              rw [List.take_succ_eq_append_getElem hlt] at hu
              rcases List.mem_append.mp hu with h | h
              · exact HA.out u h
              · simp at h; subst h; exact HE.out
            case measure => simp [intOf]; omega
      · have hlt2 : ¬ (k : Int) < (L.length : Int) := by omega
        have hal : L.any (fun u => decide (u = v)) = false := by
          rw [Bool.eq_false_iff]; intro hh
          obtain ⟨u, hu, he⟩ := List.any_eq_true.mp hh
          have := HA.out u (by rw [List.take_of_length_le (by omega)]; exact hu)
          exact this (by simpa using he)
        have hRt := HRO.out
        rw [hal] at hRt
        subst hRt
        clear hal HRO
        go_wp2_with fail
        go_ret
        exact ⟨rfl, hbw⟩
  · go_wp2_with fail
    go_ret
    exact ⟨ret_bool (by rw [HR.out]; unfold oneT; rw [Bool.eq_iff_iff]; simp), hbw⟩
  · by_cases h4 : v.k = 4
    · obtain ⟨hi, hl, _⟩ := ok_items v HV.out h4
      have hRo : R = decide (((itms v).length : Int) = c.n) := by rw [HR.out]; unfold oneT; simp [h4]
      obtain ⟨L, hL⟩ : ∃ L, L = itms v := ⟨_, rfl⟩
      rw [← hL] at hi hl hRo
      have HI : Hid _ := hi
      have e4 : (v.k == 4) = true := by simp [h4]
      clear hi hL HR h4
      subst hRo
      go_wp2_with fail
      refine (l01Items_any v.t _ (by omega)).mono ?_
      rintro e w2 ⟨⟨g1, m, cap1, rfl, hown0⟩, hb⟩
      obtain ⟨rfl, hown1⟩ := hown0 L HI.out
      rw [HI.out]
      have X2 := X1.step hb
      have d0 := X2.d0
      have d3 := X2.c3
      have hbw2 := X2.bel
      clear hown0 hown1 hb X1 X2 a0 a2 a3 a4 b0 b1 b2 hbw hz
      go_wp2_with fail
      go_ret
      exact ⟨ret_bool (by rw [Bool.eq_iff_iff]; simp), hbw2⟩
    · have hRo : R = false := by rw [HR.out]; unfold oneT; simp [h4]
      have e4 : (v.k == 4) = false := beq_eq_false_iff_ne.mpr h4
      clear HR
      subst hRo
      go_wp2_with fail
      refine (l01Items_any v.t _ (by omega)).mono ?_
      rintro e w2 ⟨⟨g1, m, cap1, rfl, hown0⟩, hb⟩
      have X2 := X1.step hb
      have d0 := X2.d0
      have hbw2 := X2.bel
      clear hown0 hb X1 X2 a0 a2 a3 a4 b0 b1 b2 hbw hz
      go_wp2_with fail
      go_ret
      exact ⟨rfl, hbw2⟩

end Go.Proofs.YtkeghknceccdmaaGreatDoor

/- What the program's trials by a term's operation answer. -/
namespace Go.Proofs.YtkeghknceccdmaaGreatDoor
open Go.RowKit
set_option linter.unusedVariables false

/-- Four cells in the first new block. -/
structure Box4 (w W : World) (a b c d : Value) : Prop where
  bel : Below w.heap.size w W
  lt : w.heap.size < W.heap.size
  c0 : W.cell? ⟨w.heap.size, 0, none⟩ = some a
  c1 : W.cell? ⟨w.heap.size, 1, none⟩ = some b
  c2 : W.cell? ⟨w.heap.size, 2, none⟩ = some c
  c3 : W.cell? ⟨w.heap.size, 3, none⟩ = some d
theorem Box4.start (w : World) (a b c d : Value) (T : TypeId) : Box4 w (w.alloc (.cells #[a, b, c, d] T)) a b c d :=
  ⟨(Below.refl _ _).alloc (Nat.le_refl _) _, by simp, by simp [go_sem], by simp [go_sem], by simp [go_sem], by simp [go_sem]⟩
theorem Box4.step {w W W' : World} {a b c d : Value} (h : Box4 w W a b c d) (hb : Below W.heap.size W W') : Box4 w W' a b c d :=
  ⟨h.bel.trans (hb.mono h.bel.size), Nat.lt_of_lt_of_le h.lt hb.size, (hb.cell h.lt).trans h.c0, (hb.cell h.lt).trans h.c1, (hb.cell h.lt).trans h.c2, (hb.cell h.lt).trans h.c3⟩
theorem mk_func (fn : Fn) (first cap : Array Value) (w : World) : (Instr.makeFunc fn first cap).run Tryz.prog w = .ok (.func fn first cap) w := rfl

/-- What is held against a term that asks of values. -/
def withZ (l : List Val) : List Val := if l = [] then [⟨0, 0, em⟩] else l
theorem heldT_Z (op : Int) (l : List Val) (h : op ≠ 9) : heldT op l = withZ l := by unfold heldT withZ; rw [if_neg h]
set_option maxRecDepth 4000 in
set_option maxHeartbeats 1000000 in
theorem withNull_any (q : Option Addr) (qc : Nat) (l : List Val) (c : Val) (w : World) (hr : RowV w q l) :
    Calls Tryz.prog 127 #[.agg #[.slice q l.length qc, .int .i64 c.k, .int .i64 c.n, .string c.t]] w fun e w' => (∃ q' qc', e = .returned (.agg #[.slice q' (withZ l).length qc', .int .i64 c.k, .int .i64 c.n, .string c.t]) ∧ RowV w' q' (withZ l)) ∧ Below w.heap.size w w' := by
  by_cases h0 : l = []
  · subst h0
    have e : withZ [] = [⟨0, 0, em⟩] := rfl
    rw [e]
    clear e hr
    go_enter Tryz.func127, Tryz.ntmps127
    go_wp2_with fail
    refine bodyPost_ret (v := .agg #[.slice (some ⟨w.heap.size + 2, 0, none⟩) 1 1, .int .i64 c.k, .int .i64 c.n, .string c.t]) (by simp [results, Tryz.results127, go_sem, *]) rfl ⟨⟨_, _, rfl, .inr ⟨w.heap.size + 2, rfl, ?_⟩⟩, by (repeat (first | (with_reducible exact Below.refl _ _) | (with_reducible assumption) | (with_reducible apply below_drewN) | (with_reducible apply Below.drew) | ((with_reducible refine Below.setCell ?_ ?_ _); rotate_left; focus (first | (simp; done) | (simp; omega) | omega)) | ((with_reducible refine Below.alloc ?_ ?_ _); rotate_left; focus (first | (simp; done) | (simp; omega) | omega))))⟩
    refine ⟨by simp, fun i hi => ?_⟩
    obtain rfl : i = 0 := by simpa using hi
    exact ⟨by simp [go_sem], by simp [go_sem], by simp [go_sem]⟩
  · have e : withZ l = l := by unfold withZ; rw [if_neg h0]
    rw [e]
    have hl0 : ((l.length : Int) == 0) = false := beq_eq_false_iff_ne.mpr (fun e => h0 (List.eq_nil_of_length_eq_zero (by omega)))
    have HR : Hid (RowV _ _ _) := hr
    clear e hr h0
    go_enter Tryz.func127, Tryz.ntmps127
    go_wp2_with fail
    refine bodyPost_ret (v := .agg #[.slice q l.length qc, .int .i64 c.k, .int .i64 c.n, .string c.t]) (by simp [results, Tryz.results127, go_sem, *]) rfl ⟨⟨_, _, rfl, HR.out.next ?_⟩, ?_⟩
    all_goals (repeat (first | (with_reducible exact Below.refl _ _) | (with_reducible assumption) | (with_reducible apply below_drewN) | (with_reducible apply Below.drew) | ((with_reducible refine Below.setCell ?_ ?_ _); rotate_left; focus (first | (simp; done) | (simp; omega) | omega)) | ((with_reducible refine Below.alloc ?_ ?_ _); rotate_left; focus (first | (simp; done) | (simp; omega) | omega))))

set_option maxRecDepth 4000 in
set_option maxHeartbeats 1000000 in
theorem presence_exists (q : Option Addr) (qc : Nat) (l : List Val) (c : Val) (w : World) :
    Calls Tryz.prog 126 #[.agg #[.slice q l.length qc, .int .i64 c.k, .int .i64 c.n, .string c.t], .int .i64 8] w fun e w' => e = .returned (.bool (decide (0 < (l.length : Int)) == decide (c.n = 1))) ∧ Below w.heap.size w w' := by
  have hn1 : decide (c.n = 1) = (c.n == 1) := by rw [Bool.eq_iff_iff]; simp
  rw [hn1]
  clear hn1
  go_enter Tryz.func126, Tryz.ntmps126
  go_wp2_with fail
  go_ret
  exact ⟨ret_bool (by simp), by (repeat (first | (with_reducible exact Below.refl _ _) | (with_reducible assumption) | (with_reducible apply below_drewN) | (with_reducible apply Below.drew) | ((with_reducible refine Below.setCell ?_ ?_ _); rotate_left; focus (first | (simp; done) | (simp; omega) | omega)) | ((with_reducible refine Below.alloc ?_ ?_ _); rotate_left; focus (first | (simp; done) | (simp; omega) | omega))))⟩

set_option maxRecDepth 4000 in
set_option maxHeartbeats 1000000 in
theorem presence_type (q : Option Addr) (qc : Nat) (l : List Val) (c : Val) (w : World) (hr : RowV w q l) (hl : l.length ≤ 1048576) :
    Calls Tryz.prog 126 #[.agg #[.slice q l.length qc, .int .i64 c.k, .int .i64 c.n, .string c.t], .int .i64 9] w fun e w' => e = .returned (.bool (l.any (oneT 9 c))) ∧ Below w.heap.size w w' := by
  have X0 := Box4.start w (.slice q l.length qc) (.int .i64 c.k) (.int .i64 c.n) (.string c.t) 171
  have e9 : oneT 9 c = fun v => decide (v.k = c.n) := by funext v; simp [oneT]
  rw [e9]
  have HI : Hid (Calls _ _ _ _ _) := some_kind q l.length qc c q qc l (fun v => decide (v.k = c.n)) c.k c.n c.t (w.alloc (.cells #[.slice q l.length qc, .int .i64 c.k, .int .i64 c.n, .string c.t] 171)) (fun v hv W hW => isOfKind_any q l.length qc c v W) (hr.next X0.bel) hl
  have hmf := mk_func
  clear hr e9
  go_enter Tryz.func126, Tryz.ntmps126
  go_wp2_with fail
  refine HI.out.mono ?_
  rintro e w1 ⟨rfl, hb⟩
  have hbw := (X0.step hb).bel
  clear HI hb
  go_wp2_with fail
  go_ret
  exact ⟨rfl, hbw⟩

set_option maxRecDepth 4000 in
set_option maxHeartbeats 1000000 in
theorem value_lets (op : Int) (hop : op = 1 ∨ op = 2 ∨ op = 7 ∨ op = 10) (q : Option Addr) (qc : Nat) (l : List Val) (c : Val) (w : World) (hc : okB c = true) (h7 : op = 7 → c.k = 4) (hall : ∀ v ∈ l, okB v = true) (hr : RowV w q l) (hl : l.length ≤ 1048576) :
    Calls Tryz.prog 129 #[.agg #[.slice q l.length qc, .int .i64 c.k, .int .i64 c.n, .string c.t], .int .i64 op] w fun e w' => e = .returned (.bool (l.any (oneT op c) != decide (op = 2))) ∧ Below w.heap.size w w' := by
  have X0 := Box4.start w (.slice q l.length qc) (.int .i64 c.k) (.int .i64 c.n) (.string c.t) 174
  have hr0 := hr.next X0.bel
  have hmf := mk_func
  rcases hop with rfl | rfl | rfl | rfl
  · have e1 : oneT 1 c = fun v => decide (v = c) := by funext v; simp [oneT]
    rw [e1]
    have HI : Hid (Calls _ _ _ _ _) := some_wanted q l.length qc c q qc l (fun v => decide (v = c)) c.k c.n c.t (w.alloc (.cells #[.slice q l.length qc, .int .i64 c.k, .int .i64 c.n, .string c.t] 174)) (fun v hv W hW => isWanted_any q l.length qc c v W) hr0 hl
    obtain ⟨R, hR⟩ : ∃ R, R = l.any (fun v => decide (v = c)) := ⟨_, rfl⟩
    rw [← hR] at HI ⊢
    clear hr hr0 e1 hall h7 hc hR
    go_enter Tryz.func129, Tryz.ntmps129
    go_wp2_with fail
    refine HI.out.mono ?_
    rintro e w1 ⟨rfl, hb⟩
    have hbw := (X0.step hb).bel
    clear HI hb
    go_wp2_with fail
    go_ret
    exact ⟨ret_bool (by simp), hbw⟩
  · have e1 : oneT 2 c = fun v => decide (v = c) := by funext v; simp [oneT]
    rw [e1]
    have HI : Hid (Calls _ _ _ _ _) := some_wanted q l.length qc c q qc l (fun v => decide (v = c)) c.k c.n c.t (w.alloc (.cells #[.slice q l.length qc, .int .i64 c.k, .int .i64 c.n, .string c.t] 174)) (fun v hv W hW => isWanted_any q l.length qc c v W) hr0 hl
    obtain ⟨R, hR⟩ : ∃ R, R = l.any (fun v => decide (v = c)) := ⟨_, rfl⟩
    rw [← hR] at HI ⊢
    clear hr hr0 e1 hall h7 hc hR
    go_enter Tryz.func129, Tryz.ntmps129
    go_wp2_with fail
    refine HI.out.mono ?_
    rintro e w1 ⟨rfl, hb⟩
    have hbw := (X0.step hb).bel
    clear HI hb
    go_wp2_with fail
    go_ret
    exact ⟨ret_bool (by simp), hbw⟩
  · have e1 : oneT 7 c = fun v => (itms c).any (fun u => decide (u = v)) := by funext v; simp [oneT]
    rw [e1]
    have HI : Hid (Calls _ _ _ _ _) := some_item q l.length qc c q qc l (fun v => (itms c).any (fun u => decide (u = v))) c.k c.n c.t (w.alloc (.cells #[.slice q l.length qc, .int .i64 c.k, .int .i64 c.n, .string c.t] 174)) (fun v hv W hW => isItem_any q l.length qc c v W hc (h7 rfl)) hr0 hl
    obtain ⟨R, hR⟩ : ∃ R, R = l.any (fun v => (itms c).any (fun u => decide (u = v))) := ⟨_, rfl⟩
    rw [← hR] at HI ⊢
    clear hr hr0 e1 hall h7 hc hR
    go_enter Tryz.func129, Tryz.ntmps129
    go_wp2_with fail
    refine HI.out.mono ?_
    rintro e w1 ⟨rfl, hb⟩
    have hbw := (X0.step hb).bel
    clear HI hb
    go_wp2_with fail
    go_ret
    exact ⟨ret_bool (by simp), hbw⟩
  · have e1 : oneT 10 c = fun v => decide (v.k = 4) && decide (((itms v).length : Int) = c.n) := by funext v; simp [oneT]
    rw [e1]
    have HI : Hid (Calls _ _ _ _ _) := some_size q l.length qc c q qc l (fun v => decide (v.k = 4) && decide (((itms v).length : Int) = c.n)) c.k c.n c.t (w.alloc (.cells #[.slice q l.length qc, .int .i64 c.k, .int .i64 c.n, .string c.t] 174)) (fun v hv W hW => isOfSize_any q l.length qc c v W (hall v hv)) hr0 hl
    obtain ⟨R, hR⟩ : ∃ R, R = l.any (fun v => decide (v.k = 4) && decide (((itms v).length : Int) = c.n)) := ⟨_, rfl⟩
    rw [← hR] at HI ⊢
    clear hr hr0 e1 hall h7 hc hR
    go_enter Tryz.func129, Tryz.ntmps129
    go_wp2_with fail
    refine HI.out.mono ?_
    rintro e w1 ⟨rfl, hb⟩
    have hbw := (X0.step hb).bel
    clear HI hb
    go_wp2_with fail
    go_ret
    exact ⟨ret_bool (by simp), hbw⟩

set_option maxRecDepth 4000 in
set_option maxHeartbeats 2000000 in
theorem orderOne_any (op : Int) (hop : op = 3 ∨ op = 4 ∨ op = 5 ∨ op = 6) (c v : Val) (b1 b2 : Nat) (w : World) (hc : okB c = true) (hv : okB v = true) (l1 : b1 < w.heap.size) (l2 : b2 < w.heap.size)
    (c1 : w.cell? ⟨b1, 1, none⟩ = some (.int .i64 c.k)) (c2 : w.cell? ⟨b1, 2, none⟩ = some (.int .i64 c.n)) (c3 : w.cell? ⟨b1, 3, none⟩ = some (.string c.t)) (d0 : w.cell? ⟨b2, 0, none⟩ = some (.int .i64 op)) :
    Calls Tryz.prog 200 #[.agg #[.int .i64 v.k, .int .i64 v.n, .string v.t], .pointer (some ⟨b1, 0, none⟩), .pointer (some ⟨b2, 0, none⟩)] w fun e w' => e = .returned (.bool (oneT op c v)) ∧ Below w.heap.size w w' := by
  have X0 := Boxed.start w (.int .i64 v.k) (.int .i64 v.n) (.string v.t) 28
  have hsc := ok_size c hc
  have hsv := ok_size v hv
  obtain ⟨W0, hW0⟩ : ∃ W0, W0 = w.alloc (.cells #[.int .i64 v.k, .int .i64 v.n, .string v.t] 28) := ⟨_, rfl⟩
  rw [← hW0] at X0
  have k1 : b1 < W0.heap.size := Nat.lt_of_lt_of_le l1 X0.bel.size
  have k2 : b2 < W0.heap.size := Nat.lt_of_lt_of_le l2 X0.bel.size
  have q1 : ∀ u : Under W0, u.x.cell? ⟨b1, 1, none⟩ = some (.int .i64 c.k) := fun u => (u.h.cell k1).trans ((X0.bel.cell l1).trans c1)
  have q2 : ∀ u : Under W0, u.x.cell? ⟨b1, 2, none⟩ = some (.int .i64 c.n) := fun u => (u.h.cell k1).trans ((X0.bel.cell l1).trans c2)
  have q3 : ∀ u : Under W0, u.x.cell? ⟨b1, 3, none⟩ = some (.string c.t) := fun u => (u.h.cell k1).trans ((X0.bel.cell l1).trans c3)
  have q4 : ∀ u : Under W0, u.x.cell? ⟨b2, 0, none⟩ = some (.int .i64 op) := fun u => (u.h.cell k2).trans ((X0.bel.cell l2).trans d0)
  have r0 : ∀ u : Under W0, u.x.cell? ⟨w.heap.size, 0, none⟩ = some (.int .i64 v.k) := fun u => (u.h.cell X0.lt).trans X0.c0
  have r1 : ∀ u : Under W0, u.x.cell? ⟨w.heap.size, 1, none⟩ = some (.int .i64 v.n) := fun u => (u.h.cell X0.lt).trans X0.c1
  have r2 : ∀ u : Under W0, u.x.cell? ⟨w.heap.size, 2, none⟩ = some (.string v.t) := fun u => (u.h.cell X0.lt).trans X0.c2
  have hnu : Nonempty (Under W0) := ⟨⟨W0, Below.refl _ _⟩⟩
  have HCV : Hid (∀ W : World, Calls _ _ _ W _) := fun W => compare_at 5 v c W (by omega) (by omega) hv hc
  have HCF : Hid (∀ W : World, Calls _ _ _ W _) := fun W => orderFits_any op (ordV 5 v c) W hop
  have hone := oneT_ord op c v hop
  have hbw0 := X0.bel
  clear c1 c2 c3 d0 hc hv hop
  by_cases hk : v.k = c.k
  · have ek : (v.k == c.k) = true := by simp [hk]
    rw [decide_eq_true hk, Bool.true_and] at hone
    rw [hone]
    clear hone hk X0
    go_enter Tryz.func200, Tryz.ntmps200
    go_wp2_with fail
    rw [← hW0]
    clear hW0
    refine wp_region_under (by kernel_rfl) (by kernel_rfl) ?_
    repeat (go_big_quiet_step ((first | (go_at_call 202; exact calls_under _ (HCV.out _)) | (go_at_call 201; exact calls_under _ (HCF.out _)))))
    refine wpQuiet_nil ?_
    rintro _ ⟨u, rfl⟩
    have hbu := hbw0.trans (u.h.mono hbw0.size)
    go_wp2_with fail
    go_ret
    exact ⟨rfl, hbu⟩
  · have ek : (v.k == c.k) = false := beq_eq_false_iff_ne.mpr hk
    rw [decide_eq_false hk, Bool.false_and] at hone
    rw [hone]
    clear hone hk X0
    go_enter Tryz.func200, Tryz.ntmps200
    go_wp2_with fail
    rw [← hW0]
    clear hW0
    refine wp_region_under (by kernel_rfl) (by kernel_rfl) ?_
    repeat (go_big_quiet_step (fail))
    refine wpQuiet_nil ?_
    rintro _ ⟨u, rfl⟩
    have hbu := hbw0.trans (u.h.mono hbw0.size)
    go_wp2_with fail
    go_ret
    exact ⟨rfl, hbu⟩

set_option maxRecDepth 4000 in
set_option maxHeartbeats 1000000 in
theorem order_lets (op : Int) (hop : op = 3 ∨ op = 4 ∨ op = 5 ∨ op = 6) (q : Option Addr) (qc : Nat) (l : List Val) (c : Val) (w : World) (hc : okB c = true) (hall : ∀ v ∈ l, okB v = true) (hr : RowV w q l) (hl : l.length ≤ 1048576) :
    Calls Tryz.prog 128 #[.agg #[.slice q l.length qc, .int .i64 c.k, .int .i64 c.n, .string c.t], .int .i64 op] w fun e w' => e = .returned (.bool (l.any (oneT op c) != decide (op = 2))) ∧ Below w.heap.size w w' := by
  have X0 := (Box4.start w (.slice q l.length qc) (.int .i64 c.k) (.int .i64 c.n) (.string c.t) 173).step ((Below.refl _ _).alloc (Nat.le_refl _) (.cells #[.int .i64 op] 3))
  have hr0 := hr.next X0.bel
  have hmf := mk_func
  have h2 : decide (op = 2) = false := decide_eq_false (by omega)
  rw [h2]
  have hd : ((w.alloc (.cells #[.slice q l.length qc, .int .i64 c.k, .int .i64 c.n, .string c.t] 173)).alloc (.cells #[.int .i64 op] 3)).cell? ⟨w.heap.size + 1, 0, none⟩ = some (.int .i64 op) := by simp [go_sem]
  have hlt : w.heap.size + 1 < ((w.alloc (.cells #[.slice q l.length qc, .int .i64 c.k, .int .i64 c.n, .string c.t] 173)).alloc (.cells #[.int .i64 op] 3)).heap.size := by simp
  have HI : Hid (Calls _ _ _ _ _) := some_ord w.heap.size (w.heap.size + 1) q qc l (oneT op c) c.k c.n c.t ((w.alloc (.cells #[.slice q l.length qc, .int .i64 c.k, .int .i64 c.n, .string c.t] 173)).alloc (.cells #[.int .i64 op] 3)) (fun v hv W hW => orderOne_any op hop c v w.heap.size (w.heap.size + 1) W hc (hall v hv) (Nat.lt_of_lt_of_le X0.lt hW.size) (Nat.lt_of_lt_of_le hlt hW.size) ((hW.cell X0.lt).trans X0.c1) ((hW.cell X0.lt).trans X0.c2) ((hW.cell X0.lt).trans X0.c3) ((hW.cell hlt).trans hd)) hr0 hl
  obtain ⟨R, hR⟩ : ∃ R, R = l.any (oneT op c) := ⟨_, rfl⟩
  rw [← hR] at HI ⊢
  clear hr hr0 hall hc hR hd hop
  go_enter Tryz.func128, Tryz.ntmps128
  go_wp2_with fail
  refine HI.out.mono ?_
  rintro e w1 ⟨rfl, hb⟩
  have hbw := (X0.step hb).bel
  clear HI hb
  go_wp2_with fail
  go_ret
  exact ⟨ret_bool (by simp), hbw⟩

end Go.Proofs.YtkeghknceccdmaaGreatDoor
