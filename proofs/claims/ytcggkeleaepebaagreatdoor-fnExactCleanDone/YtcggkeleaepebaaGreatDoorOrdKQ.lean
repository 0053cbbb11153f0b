/- What the program's order of values answers, for every two right values. -/
import Derived.Test.YtcggkeleaepebaaGreatDoorDocBQ
import Derived.Test.YtcggkeleaepebaaGreatDoorOwnQ
import Derived.Deep.RegionWith
import Derived.Test.YtcggkeleaepebaaGreatDoorUnder
import Derived.BigQuiet
import Derived.Test.YtcggkeleaepebaaGreatDoorTermW
import Derived.Test.YtcggkeleaepebaaGreatDoorGetTQ
import Derived.Deep.DeepCutAuto
import Derived.Deep.RegionHeld3
namespace Go.Proofs.YtcggkeleaepebaaGreatDoor
open Go.RowKit
set_option linter.unusedVariables false

set_option maxRecDepth 4000 in
set_option maxHeartbeats 4000000 in
theorem compare_list (d : Nat) (ih : compareAt d) (n : Int) (t t' : ByteArray) (la lb : List Val) (w : World) (hs : t.size ≤ 1048576) (hs' : t'.size ≤ 1048576) (h : t ≠ t') (hi : items t = some la) (hi' : items t' = some lb)
    (hall : ∀ u ∈ la, fits d u = true ∧ u.t.size ≤ 1048576) (hall' : ∀ u ∈ lb, fits d u = true ∧ u.t.size ≤ 1048576) (hla : la.length ≤ 1048576) (hlb : lb.length ≤ 1048576) :
    Calls Tryz.prog 195 #[.agg #[.int .i64 4, .int .i64 n, .string t], .agg #[.int .i64 4, .int .i64 n, .string t']] w fun e w' => e = .returned (.int .i64 (lexG (ordV d) la lb)) ∧ Below w.heap.size w w' := by
  have hb := toList_ne h
  have hk0 : ∀ x : Int, cI x x = 0 := fun x => (cI_zero _ _).mpr rfl
  have HK0 : ∀ (x : Int) (W : World), Calls Tryz.prog 209 #[.int .i64 x, .int .i64 x] W fun e w' => e = .returned (.int .i64 0) ∧ w' = W := fun x W => by have := cmpInt_any x x W; rw [hk0] at this; exact this
  have HK : Hid _ := HK0
  have HI : Hid _ := hi
  have HI' : Hid _ := hi'
  have HA : Hid _ := hall
  have HA' : Hid _ := hall'
  have HIH : Hid (compareAt d) := ih
  clear HK0 hk0 hi hi' hall hall' ih h
  go_enter Tryz.func195, Tryz.ntmps195
  go_wp2_with fail
  refine still_tail_at 10 (by kernel_rfl) (by kernel_rfl) ?_
  intro V hV
  have X := Two.drawn hV
  have Y : ∀ o, Two w (V.alloc o) (.int .i64 4) (.int .i64 n) (.string t) (.int .i64 4) (.int .i64 n) (.string t') := fun o => X.step ((Below.refl _ _).alloc (Nat.le_refl _) o)
  have HY : Hid _ := Y
  have a0 : ∀ o, (V.alloc o).cell? ⟨w.heap.size, 0, none⟩ = some (.int .i64 4) := fun o => (Y o).c0
  obtain ⟨hbw, hlt, c0, c1, c2, d0, d1, d2⟩ := X
  clear hV Y
  simp only [List.take_succ_cons, List.take_zero, List.drop_succ_cons, List.drop_zero]
  repeat still_step
  still_call (HK.out 4 _)
  repeat still_step
  still_call (HK.out n _)
  refine wpStill_nil ?_
  go_wp2_with (go_at_call 208; refine (or_none _ _ _ (by simp [go_sem]) (by simp [go_sem])).mono ?_; rintro e w1 ⟨rfl, rfl⟩)
  have Z := HY.out (.cells #[.int .i64 0, .int .i64 0] 3)
  generalize V.alloc (.cells #[.int .i64 0, .int .i64 0] 3) = W at Z ⊢
  have hbw0 := Z.bel
  have g2 := Z.c2
  have f2 := Z.d2
  clear a0 HY hbw hlt c0 c1 c2 d0 d1 d2
  have hlt0 := Z.lt
  have Z1 := Z.step (Below.refl _ _).drew
  clear Z
  go_region_with (first | (go_at_call_of 205 (Value.string t); refine (itemsIn_row t la _ hs HI.out).mono ?_; rintro e w1 ⟨⟨p, c, rfl, RA⟩, hb1⟩; have X1 := Two.step (by assumption) hb1; have g2 := X1.c2; have f2 := X1.d2) | (go_at_call_of 205 (Value.string t'); refine (itemsIn_row t' lb _ hs' HI'.out).mono ?_; rintro e w2 ⟨⟨p', c', rfl, RB⟩, hb2⟩; have X2 := Two.step (by assumption) hb2; have g2 := X2.c2; have f2 := X2.d2; have RA2 := RowV.next RA hb2) | (go_at_call 210; refine (compareRows d HIH.out _ _ _ _ la lb _ RA2 RB hla hlb HA.out HA'.out).mono ?_; rintro e w3 ⟨rfl, hb3⟩; have X3 := X2.step hb3))
  all_goals go_wp2_with fail
  all_goals go_ret
  all_goals exact ⟨rfl, X3.bel⟩

set_option maxRecDepth 4000 in
set_option maxHeartbeats 4000000 in
theorem compare_doc (d : Nat) (ih : compareAt d) (n : Int) (t t' : ByteArray) (la lb : List Fld) (w : World) (hs : t.size ≤ 1048576) (hs' : t'.size ≤ 1048576) (h : t ≠ t') (hi : fields t = some la) (hi' : fields t' = some lb)
    (hall : ∀ f ∈ la, fits d f.v = true ∧ f.v.t.size ≤ 1048576) (hall' : ∀ f ∈ lb, fits d f.v = true ∧ f.v.t.size ≤ 1048576) (hla : la.length ≤ 1048576) (hlb : lb.length ≤ 1048576) :
    Calls Tryz.prog 195 #[.agg #[.int .i64 5, .int .i64 n, .string t], .agg #[.int .i64 5, .int .i64 n, .string t']] w fun e w' => e = .returned (.int .i64 (lexG (cF (ordV d)) la lb)) ∧ Below w.heap.size w w' := by
  have hb := toList_ne h
  have hk0 : ∀ x : Int, cI x x = 0 := fun x => (cI_zero _ _).mpr rfl
  have HK0 : ∀ (x : Int) (W : World), Calls Tryz.prog 209 #[.int .i64 x, .int .i64 x] W fun e w' => e = .returned (.int .i64 0) ∧ w' = W := fun x W => by have := cmpInt_any x x W; rw [hk0] at this; exact this
  have HK : Hid _ := HK0
  have HI : Hid _ := hi
  have HI' : Hid _ := hi'
  have HA : Hid _ := hall
  have HA' : Hid _ := hall'
  have HIH : Hid (compareAt d) := ih
  clear HK0 hk0 hi hi' hall hall' ih h
  go_enter Tryz.func195, Tryz.ntmps195
  go_wp2_with fail
  refine still_tail_at 10 (by kernel_rfl) (by kernel_rfl) ?_
  intro V hV
  have X := Two.drawn hV
  have Y : ∀ o, Two w (V.alloc o) (.int .i64 5) (.int .i64 n) (.string t) (.int .i64 5) (.int .i64 n) (.string t') := fun o => X.step ((Below.refl _ _).alloc (Nat.le_refl _) o)
  have HY : Hid _ := Y
  have a0 : ∀ o, (V.alloc o).cell? ⟨w.heap.size, 0, none⟩ = some (.int .i64 5) := fun o => (Y o).c0
  obtain ⟨hbw, hlt, c0, c1, c2, d0, d1, d2⟩ := X
  clear hV Y
  simp only [List.take_succ_cons, List.take_zero, List.drop_succ_cons, List.drop_zero]
  repeat still_step
  still_call (HK.out 5 _)
  repeat still_step
  still_call (HK.out n _)
  refine wpStill_nil ?_
  go_wp2_with (go_at_call 208; refine (or_none _ _ _ (by simp [go_sem]) (by simp [go_sem])).mono ?_; rintro e w1 ⟨rfl, rfl⟩)
  have Z := HY.out (.cells #[.int .i64 0, .int .i64 0] 3)
  generalize V.alloc (.cells #[.int .i64 0, .int .i64 0] 3) = W at Z ⊢
  have hbw0 := Z.bel
  have g2 := Z.c2
  have f2 := Z.d2
  clear a0 HY hbw hlt c0 c1 c2 d0 d1 d2
  have hlt0 := Z.lt
  have Z1 := Z.step (Below.refl _ _).drew
  clear Z
  go_region_with (first | (go_at_call_of 158 (Value.string t); refine (fieldsIn_row t la _ hs HI.out).mono ?_; rintro e w1 ⟨⟨p, c, rfl, RA⟩, hb1⟩; have X1 := Two.step (by assumption) hb1; have g2 := X1.c2; have f2 := X1.d2) | (go_at_call_of 158 (Value.string t'); refine (fieldsIn_row t' lb _ hs' HI'.out).mono ?_; rintro e w2 ⟨⟨p', c', rfl, RB⟩, hb2⟩; have X2 := Two.step (by assumption) hb2; have g2 := X2.c2; have f2 := X2.d2; have RA2 := RowF.next RA hb2) | (go_at_call 211; refine (compareRowsF d HIH.out _ _ _ _ la lb _ RA2 RB hla hlb HA.out HA'.out).mono ?_; rintro e w3 ⟨rfl, hb3⟩; have X3 := X2.step hb3))
  all_goals go_wp2_with fail
  all_goals go_ret
  all_goals exact ⟨rfl, X3.bel⟩

theorem compare_at : ∀ d : Nat, compareAt d
  | d => by
    intro a b w hs hs' ha hb
    by_cases he : a = b
    · subst he; rw [ordV_refl]; exact compare_same a.k a.n a.t w
    · by_cases hk : a.k = b.k
      · by_cases hn : a.n = b.n
        · have ht : a.t ≠ b.t := fun e => he (val_ext hk hn e)
          by_cases h4 : a.k = 4
          · obtain ⟨e, la, rfl, ia, _, _, alla⟩ := fits_items h4 ha
            obtain ⟨e2, lb, hee, ib, _, _, allb⟩ := fits_items (hk ▸ h4) hb
            have : e2 = e := by omega
            subst this
            have n1 := (items_len a.t.size a.t la (Nat.le_refl _) ia).1
            have n2 := (items_len b.t.size b.t lb (Nat.le_refl _) ib).1
            rw [ordV_list e2 a b la lb hk hn h4 ia ib, ← hk, ← hn, h4]
            exact compare_list e2 (compare_at e2) a.n a.t b.t la lb w hs hs' ht ia ib (fun u hu => ⟨(alla u hu).1, Nat.le_trans (alla u hu).2 hs⟩) (fun u hu => ⟨(allb u hu).1, Nat.le_trans (allb u hu).2 hs'⟩) (by omega) (by omega)
          · by_cases h5 : a.k = 5
            · obtain ⟨e, la, rfl, ia, _, _, _, alla⟩ := fits_fields h5 ha
              obtain ⟨e2, lb, hee, ib, _, _, _, allb⟩ := fits_fields (hk ▸ h5) hb
              have : e2 = e := by omega
              subst this
              have n1 := (fields_len a.t.size a.t la (Nat.le_refl _) ia).1
              have n2 := (fields_len b.t.size b.t lb (Nat.le_refl _) ib).1
              rw [ordV_doc e2 a b la lb hk hn h5 ia ib, ← hk, ← hn, h5]
              exact compare_doc e2 (compare_at e2) a.n a.t b.t la lb w hs hs' ht ia ib (fun u hu => ⟨(alla u hu).1, Nat.le_trans (alla u hu).2.1 hs⟩) (fun u hu => ⟨(allb u hu).1, Nat.le_trans (allb u hu).2.1 hs'⟩) (by omega) (by omega)
            · rw [ordV_t d a b hk hn h4 h5, ← hk, ← hn]
              exact compare_t a.k a.n a.t b.t w ht h4 h5
        · rw [ordV_n d a b hk hn, ← hk]; exact compare_n a.k a.n b.n a.t b.t w hn
      · rw [ordV_k d a b hk]; exact compare_k a.k a.n b.k b.n a.t b.t w hk

end Go.Proofs.YtcggkeleaepebaaGreatDoor

/- What the program's single trials of a value answer, for every right value. -/
namespace Go.Proofs.YtcggkeleaepebaaGreatDoor
open Go.RowKit
set_option linter.unusedVariables false

/-- Four cells in the first new block, three in the second. -/
structure B43 (w W : World) (a b c d x y z : Value) : Prop where
  bel : Below w.heap.size w W
  lt : w.heap.size + 1 < W.heap.size
  c0 : W.cell? ⟨w.heap.size, 0, none⟩ = some a
  c1 : W.cell? ⟨w.heap.size, 1, none⟩ = some b
  c2 : W.cell? ⟨w.heap.size, 2, none⟩ = some c
  c3 : W.cell? ⟨w.heap.size, 3, none⟩ = some d
  d0 : W.cell? ⟨w.heap.size + 1, 0, none⟩ = some x
  d1 : W.cell? ⟨w.heap.size + 1, 1, none⟩ = some y
  d2 : W.cell? ⟨w.heap.size + 1, 2, none⟩ = some z
theorem B43.start (w : World) (a b c d x y z : Value) (T U : TypeId) : B43 w ((w.alloc (.cells #[a, b, c, d] T)).alloc (.cells #[x, y, z] U)) a b c d x y z :=
  ⟨((Below.refl _ _).alloc (Nat.le_refl _) _).alloc (by simp) _, by simp, by simp [go_sem], by simp [go_sem], by simp [go_sem], by simp [go_sem], by simp [go_sem], by simp [go_sem], by simp [go_sem]⟩
theorem B43.step {w W W' : World} {a b c d x y z : Value} (h : B43 w W a b c d x y z) (hb : Below W.heap.size W W') : B43 w W' a b c d x y z :=
  have hl : w.heap.size < W.heap.size := Nat.lt_of_succ_lt h.lt
  ⟨h.bel.trans (hb.mono h.bel.size), Nat.lt_of_lt_of_le h.lt hb.size, (hb.cell hl).trans h.c0, (hb.cell hl).trans h.c1, (hb.cell hl).trans h.c2, (hb.cell hl).trans h.c3, (hb.cell h.lt).trans h.d0, (hb.cell h.lt).trans h.d1, (hb.cell h.lt).trans h.d2⟩
theorem val_eq (a b : Val) : (a.k == b.k && (a.n == b.n && a.t.toList == b.t.toList)) = decide (a = b) := by
  by_cases h : a = b
  · subst h; simp
  · rw [decide_eq_false h]
    by_cases h1 : a.k = b.k
    · by_cases h2 : a.n = b.n
      · have h3 : a.t ≠ b.t := fun e => h (val_ext h1 h2 e)
        rw [toList_ne h3]; simp
      · rw [beq_eq_false_iff_ne.mpr h2]; simp
    · rw [beq_eq_false_iff_ne.mpr h1]; simp

theorem val_ne (a b : Val) (h : a ≠ b) : ((a.k == b.k) = false) ∨ ((a.k == b.k) = true ∧ (a.n == b.n) = false) ∨ ((a.k == b.k) = true ∧ (a.n == b.n) = true ∧ (a.t.toList == b.t.toList) = false) := by
  by_cases h1 : a.k = b.k
  · by_cases h2 : a.n = b.n
    · exact .inr (.inr ⟨by simp [h1], by simp [h2], toList_ne (fun e => h (val_ext h1 h2 e))⟩)
    · exact .inr (.inl ⟨by simp [h1], beq_eq_false_iff_ne.mpr h2⟩)
  · exact .inl (beq_eq_false_iff_ne.mpr h1)

set_option maxRecDepth 4000 in
set_option maxHeartbeats 1000000 in
theorem isOfKind_any (p : Option Addr) (m cap : Nat) (c v : Val) (w : World) :
    Calls Tryz.prog 192 #[.agg #[.slice p m cap, .int .i64 c.k, .int .i64 c.n, .string c.t], .agg #[.int .i64 v.k, .int .i64 v.n, .string v.t]] w fun e w' => e = .returned (.bool (decide (v.k = c.n))) ∧ Below w.heap.size w w' := by
  go_enter Tryz.func192, Tryz.ntmps192
  go_wp2_with fail
  go_ret
  exact ⟨ret_bool (by rw [Bool.eq_iff_iff]; simp), by (repeat (first | (with_reducible exact Below.refl _ _) | (with_reducible assumption) | (with_reducible apply below_drewN) | (with_reducible apply Below.drew) | ((with_reducible refine Below.setCell ?_ ?_ _); rotate_left; focus (first | (simp; done) | (simp; omega) | omega)) | ((with_reducible refine Below.alloc ?_ ?_ _); rotate_left; focus (first | (simp; done) | (simp; omega) | omega))))⟩

set_option maxRecDepth 4000 in
set_option maxHeartbeats 1000000 in
theorem isWanted_any (p : Option Addr) (m cap : Nat) (c v : Val) (w : World) :
    Calls Tryz.prog 196 #[.agg #[.slice p m cap, .int .i64 c.k, .int .i64 c.n, .string c.t], .agg #[.int .i64 v.k, .int .i64 v.n, .string v.t]] w fun e w' => e = .returned (.bool (decide (v = c))) ∧ Below w.heap.size w w' := by
  rw [← val_eq]
  go_enter Tryz.func196, Tryz.ntmps196
  go_wp2_with fail
  all_goals
    go_ret
    exact ⟨ret_bool (by simp [*]), by (repeat (first | (with_reducible exact Below.refl _ _) | (with_reducible assumption) | (with_reducible apply below_drewN) | (with_reducible apply Below.drew) | ((with_reducible refine Below.setCell ?_ ?_ _); rotate_left; focus (first | (simp; done) | (simp; omega) | omega)) | ((with_reducible refine Below.alloc ?_ ?_ _); rotate_left; focus (first | (simp; done) | (simp; omega) | omega))))⟩

set_option maxRecDepth 4000 in
set_option maxHeartbeats 1000000 in
theorem isOfSize_any (p : Option Addr) (m cap : Nat) (c v : Val) (w : World) (hv : okB v = true) :
    Calls Tryz.prog 198 #[.agg #[.slice p m cap, .int .i64 c.k, .int .i64 c.n, .string c.t], .agg #[.int .i64 v.k, .int .i64 v.n, .string v.t]] w fun e w' => e = .returned (.bool (decide (v.k = 4) && decide (((itms v).length : Int) = c.n))) ∧ Below w.heap.size w w' := by
  have X0 := B43.start w (.slice p m cap) (.int .i64 c.k) (.int .i64 c.n) (.string c.t) (.int .i64 v.k) (.int .i64 v.n) (.string v.t) 209 82
  by_cases h4 : v.k = 4
  · obtain ⟨hi, hl, _⟩ := ok_items v hv h4
    have hs := ok_size v hv
    rw [decide_eq_true h4, Bool.true_and]
    obtain ⟨L, hL⟩ : ∃ L, L = itms v := ⟨_, rfl⟩
    rw [← hL] at hi hl ⊢
    have HI : Hid _ := hi
    have e4 : (v.k == 4) = true := by simp [h4]
    clear hi hL h4 hv
    go_enter Tryz.func198, Tryz.ntmps198
    go_wp2_with fail
    go_region_with (go_at_call 205; refine (itemsIn_row v.t L _ (by omega) HI.out).mono ?_; rintro e w1 ⟨⟨p1, cap1, rfl, _⟩, hb⟩; have X1 := (X0.step (Below.refl _ _).drew).step hb; have a0 := X1.c0; have a1 := X1.c1; have a2 := X1.c2; have a3 := X1.c3; have b0 := X1.d0; have b1 := X1.d1; have b2 := X1.d2)
    all_goals
      have hbw := X1.bel
      clear X1 hb
      go_wp2_with fail
      go_ret
      exact ⟨ret_bool (by rw [Bool.eq_iff_iff]; simp), hbw⟩
  · rw [decide_eq_false h4, Bool.false_and]
    have e4 : (v.k == 4) = false := beq_eq_false_iff_ne.mpr h4
    clear hv h4
    go_enter Tryz.func198, Tryz.ntmps198
    go_wp2_with fail
    go_quiet (fail)
    go_wp2_with fail
    go_ret
    exact ⟨rfl, by (repeat (first | (with_reducible exact Below.refl _ _) | (with_reducible assumption) | (with_reducible apply below_drewN) | (with_reducible apply Below.drew) | ((with_reducible refine Below.setCell ?_ ?_ _); rotate_left; focus (first | (simp; done) | (simp; omega) | omega)) | ((with_reducible refine Below.alloc ?_ ?_ _); rotate_left; focus (first | (simp; done) | (simp; omega) | omega))))⟩

set_option maxRecDepth 4000 in
set_option maxHeartbeats 1000000 in
theorem indexVal_any (p : Option Addr) (cap : Nat) (l : List Val) (v : Val) (w : World) (hr : RowV w p l) (hl : l.length ≤ 1048576) :
    Calls Tryz.prog 221 #[.slice p l.length cap, .agg #[.int .i64 v.k, .int .i64 v.n, .string v.t]] w fun e w' => (∃ i : Int, e = .returned (.int .i64 i) ∧ decide (0 ≤ i) = l.any (fun u => decide (u = v))) ∧ Below w.heap.size w w' := by
  have X0 := Boxed.start w (.int .i64 v.k) (.int .i64 v.n) (.string v.t) 82
  have HR : Hid (RowV _ _ _) := hr.next X0.bel
  clear hr
  go_enter Tryz.func221, Tryz.ntmps221
  go_wp2_with fail
  generalize w.alloc (.cells #[.int .i64 v.k, .int .i64 v.n, .string v.t] 82) = W0 at X0 HR ⊢
  go_loopw [8] (fun i wr => ∃ k : Nat, k ≤ l.length ∧ i = .int .i64 k ∧ (∀ u ∈ l.take k, u ≠ v) ∧ Below W0.heap.size W0 wr) (fun i _ => l.length - (intOf i).toNat)
  case atStart => exact ⟨0, Nat.zero_le _, rfl, fun u hu => by simp at hu, Below.refl _ _⟩
  case round =>
    obtain ⟨k, hk, rfl, hall, hbel⟩ := hrel
    have HA : Hid _ := hall
    have X := X0.step hbel
    have a0 := X.c0
    have a1 := X.c1
    have a2 := X.c2
    have hbw := X.bel
    clear hall X
    by_cases hlt : k < l.length
    · rcases HR.out.next hbel with h0 | ⟨g, rfl, R⟩
      · subst h0; simp at hlt
      obtain ⟨x0, x1, x2⟩ := R.cells k hlt
      have hlt2 : (k : Int) < (l.length : Int) := by omega
      have hve := val_eq v l[k]
      clear R
      by_cases he : v = l[k]
      · rw [decide_eq_true he] at hve
        have hal : l.any (fun u => decide (u = v)) = true := List.any_eq_true.mpr ⟨l[k], List.getElem_mem _, by simp [he]⟩
        have HL : Hid _ := hal
        simp only [Bool.and_eq_true] at hve
        obtain ⟨q1, q2, q3⟩ := hve
        clear hal he
        go_wp2_with fail
        go_quiet (fail)
        go_wp2_with fail
        go_ret
        exact ⟨⟨k, rfl, by rw [HL.out]; exact decide_eq_true (by omega)⟩, by (repeat (first | (with_reducible exact Below.refl _ _) | (with_reducible assumption) | (with_reducible apply below_drewN) | (with_reducible apply Below.drew) | ((with_reducible refine Below.setCell ?_ ?_ _); rotate_left; focus (first | (simp; done) | (simp; omega) | omega)) | ((with_reducible refine Below.alloc ?_ ?_ _); rotate_left; focus (first | (simp; done) | (simp; omega) | omega))))⟩
      · have hne := val_ne v l[k] he
        have HE : Hid _ := he
        clear he hve
        rcases hne with q1 | ⟨q1, q2⟩ | ⟨q1, q2, q3⟩
        all_goals
          go_wp2_with fail
          go_quiet (fail)
          go_wp2_with fail
          go_roundw
          case rel =>
            refine ⟨k + 1, by omega, by go_num, ?_, by (repeat (first | (with_reducible exact Below.refl _ _) | (with_reducible assumption) | (with_reducible apply below_drewN) | (with_reducible apply Below.drew) | ((with_reducible refine Below.setCell ?_ ?_ _); rotate_left; focus (first | (simp; done) | (simp; omega) | omega)) | ((with_reducible refine Below.alloc ?_ ?_ _); rotate_left; focus (first | (simp; done) | (simp; omega) | omega))))⟩
            intro u hu
            rw [List.take_succ_eq_append_getElem hlt] at hu
            rcases List.mem_append.mp hu with h | h
            · exact HA.out u h
            · simp at h; subst h; exact fun e => HE.out e.symm
          case measure => simp [intOf]; omega
    · have hlt2 : ¬ (k : Int) < (l.length : Int) := by omega
      have hal : l.any (fun u => decide (u = v)) = false := by
        rw [Bool.eq_false_iff]; intro hh
        obtain ⟨u, hu, he⟩ := List.any_eq_true.mp hh
        have := HA.out u (by rw [List.take_of_length_le (by omega)]; exact hu)
        exact this (by simpa using he)
      have HL : Hid _ := hal
      clear hal
      go_wp2_with fail
      go_ret
      exact ⟨⟨-1, rfl, by rw [HL.out]; rfl⟩, hbw⟩

set_option maxHeartbeats 400000 in
theorem containsVal_any (p : Option Addr) (cap : Nat) (l : List Val) (v : Val) (w : World) (hr : RowV w p l) (hl : l.length ≤ 1048576) :
    Calls Tryz.prog 213 #[.slice p l.length cap, .agg #[.int .i64 v.k, .int .i64 v.n, .string v.t]] w fun e w' => e = .returned (.bool (l.any (fun u => decide (u = v)))) ∧ Below w.heap.size w w' := by
  have X0 := Boxed.start w (.int .i64 v.k) (.int .i64 v.n) (.string v.t) 82
  have HR : Hid (RowV _ _ _) := hr.next X0.bel
  clear hr
  go_enter Tryz.func213, Tryz.ntmps213
  go_wp2_with fail
  refine (indexVal_any p cap l v _ HR.out hl).mono ?_
  rintro e w1 ⟨⟨i, rfl, hi⟩, hb⟩
  have hbw := (X0.step hb).bel
  have HI : Hid _ := hi
  clear hi hb
  go_wp2_with fail
  go_ret
  exact ⟨ret_bool HI.out, hbw⟩

set_option maxRecDepth 4000 in
set_option maxHeartbeats 1000000 in
theorem isItem_any (p : Option Addr) (m cap : Nat) (c v : Val) (w : World) (hc : okB c = true) (h4 : c.k = 4) :
    Calls Tryz.prog 197 #[.agg #[.slice p m cap, .int .i64 c.k, .int .i64 c.n, .string c.t], .agg #[.int .i64 v.k, .int .i64 v.n, .string v.t]] w fun e w' => e = .returned (.bool ((itms c).any (fun u => decide (u = v)))) ∧ Below w.heap.size w w' := by
  have X0 := B43.start w (.slice p m cap) (.int .i64 c.k) (.int .i64 c.n) (.string c.t) (.int .i64 v.k) (.int .i64 v.n) (.string v.t) 209 82
  obtain ⟨hi, hl, _⟩ := ok_items c hc h4
  have hs := ok_size c hc
  obtain ⟨L, hL⟩ : ∃ L, L = itms c := ⟨_, rfl⟩
  rw [← hL] at hi hl ⊢
  have HI : Hid _ := hi
  clear hi hL h4 hc
  go_enter Tryz.func197, Tryz.ntmps197
  go_wp2_with fail
  go_region_with (first | (go_at_call 205; refine (itemsIn_row c.t L _ (by omega) HI.out).mono ?_; rintro e w1 ⟨⟨p1, cap1, rfl, R1⟩, hb⟩; have X1 := (X0.step (Below.refl _ _).drew).step hb; have HR1 : Hid (RowV _ _ _) := R1; have a0 := X1.c0; have a1 := X1.c1; have a2 := X1.c2; have a3 := X1.c3; have b0 := X1.d0; have b1 := X1.d1; have b2 := X1.d2; clear R1 hb) | (go_at_call 213; refine (containsVal_any p1 cap1 L v _ HR1.out (by omega)).mono ?_; rintro e w2 ⟨rfl, hb2⟩; have X2 := X1.step hb2; clear hb2))
  all_goals
    have hbw := X2.bel
    clear X1 X2
    go_wp2_with fail
    go_ret
    exact ⟨rfl, hbw⟩

set_option maxRecDepth 4000 in
set_option maxHeartbeats 1000000 in
theorem orderFits_any (op o : Int) (w : World) (h : op = 3 ∨ op = 4 ∨ op = 5 ∨ op = 6) :
    Calls Tryz.prog 194 #[.int .i64 op, .int .i64 o] w fun e w' => e = .returned (.bool (fitsO op o)) ∧ Below w.heap.size w w' := by
  rcases h with rfl | rfl | rfl | rfl
  all_goals
    go_enter Tryz.func194, Tryz.ntmps194
    go_wp2_with fail
    go_ret
    exact ⟨ret_bool (by simp [fitsO]), by (repeat (first | (with_reducible exact Below.refl _ _) | (with_reducible assumption) | (with_reducible apply below_drewN) | (with_reducible apply Below.drew) | ((with_reducible refine Below.setCell ?_ ?_ _); rotate_left; focus (first | (simp; done) | (simp; omega) | omega)) | ((with_reducible refine Below.alloc ?_ ?_ _); rotate_left; focus (first | (simp; done) | (simp; omega) | omega))))⟩

end Go.Proofs.YtcggkeleaepebaaGreatDoor

/- What the library's search among values by one of the program's trials answers. -/
namespace Go.Proofs.YtcggkeleaepebaaGreatDoor
open Go.RowKit
set_option linter.unusedVariables false

set_option maxRecDepth 4000 in
set_option maxHeartbeats 1000000 in
theorem idx_kind (p : Option Addr) (m cap : Nat) (c : Val) (q : Option Addr) (qc : Nat) (l : List Val) (P : Val → Bool) (w : World)
    (HC : ∀ v ∈ l, ∀ W : World, Below w.heap.size w W → Calls Tryz.prog 192 #[.agg #[.slice p m cap, .int .i64 c.k, .int .i64 c.n, .string c.t], .agg #[.int .i64 v.k, .int .i64 v.n, .string v.t]] W fun e w' => e = .returned (.bool (P v)) ∧ Below W.heap.size W w') (hr : RowV w q l) (hl : l.length ≤ 1048576) :
    Calls Tryz.prog 219 #[.slice q l.length qc, .func (.func 192) #[.agg #[.slice p m cap, .int .i64 c.k, .int .i64 c.n, .string c.t]] #[]] w fun e w' => (∃ i : Int, e = .returned (.int .i64 i) ∧ decide (0 ≤ i) = l.any P) ∧ Below w.heap.size w w' := by
  have HR : Hid (RowV _ _ _) := hr
  have HF : Hid _ := HC
  clear hr HC
  go_enter Tryz.func219, Tryz.ntmps219
  go_wp2_with fail
  go_loopw [8] (fun i wr => ∃ k : Nat, k ≤ l.length ∧ i = .int .i64 k ∧ (∀ u ∈ l.take k, P u = false) ∧ Below w.heap.size w wr) (fun i _ => l.length - (intOf i).toNat)
  case atStart => exact ⟨0, Nat.zero_le _, rfl, fun u hu => by simp at hu, Below.refl _ _⟩
  case round =>
    obtain ⟨k, hk, rfl, hall, hbel⟩ := hrel
    have HA : Hid _ := hall
    clear hall
    by_cases hlt : k < l.length
    · rcases HR.out.next hbel with h0 | ⟨g, rfl, R⟩
      · subst h0; simp at hlt
      obtain ⟨x0, x1, x2⟩ := R.cells k hlt
      have hlt2 : (k : Int) < (l.length : Int) := by omega
      have HK0 := HF.out l[k] (List.getElem_mem _)
      cases hP : P l[k]
      · rw [hP] at HK0
        have HK : Hid _ := HK0
        have HPK : Hid _ := hP
        clear R hP HK0
        go_wp2_with fail
        refine (HK.out _ hbel).mono ?_
        rintro e w1 ⟨rfl, hb⟩
        have hb1 := hbel.trans (hb.mono hbel.size)
        clear hb
        go_wp2_with fail
        go_roundw
        case rel =>
          refine ⟨k + 1, by omega, by go_num, ?_, hb1⟩
          intro u hu
          rw [List.take_succ_eq_append_getElem hlt] at hu
          rcases List.mem_append.mp hu with h | h
          · exact HA.out u h
          · simp at h; subst h; exact HPK.out
        case measure => simp [intOf]; omega
      · rw [hP] at HK0
        have HK : Hid _ := HK0
        have hal : l.any P = true := List.any_eq_true.mpr ⟨l[k], List.getElem_mem _, hP⟩
        have HL : Hid _ := hal
        clear R hP HK0 hal
        go_wp2_with fail
        refine (HK.out _ hbel).mono ?_
        rintro e w1 ⟨rfl, hb⟩
        have hb1 := hbel.trans (hb.mono hbel.size)
        clear hb
        go_wp2_with fail
        go_ret
        exact ⟨⟨k, rfl, by rw [HL.out]; exact decide_eq_true (by omega)⟩, hb1⟩
    · have hlt2 : ¬ (k : Int) < (l.length : Int) := by omega
      have hal : l.any P = false := by
        rw [Bool.eq_false_iff]; intro hh
        obtain ⟨u, hu, he⟩ := List.any_eq_true.mp hh
        have := HA.out u (by rw [List.take_of_length_le (by omega)]; exact hu)
        rw [this] at he; cases he
      have HL : Hid _ := hal
      clear hal
      go_wp2_with fail
      go_ret
      exact ⟨⟨-1, rfl, by rw [HL.out]; rfl⟩, hbel⟩
set_option maxRecDepth 4000 in
set_option maxHeartbeats 1000000 in
theorem con_kind (p : Option Addr) (m cap : Nat) (c : Val) (q : Option Addr) (qc : Nat) (l : List Val) (P : Val → Bool) (w : World)
    (HC : ∀ v ∈ l, ∀ W : World, Below w.heap.size w W → Calls Tryz.prog 192 #[.agg #[.slice p m cap, .int .i64 c.k, .int .i64 c.n, .string c.t], .agg #[.int .i64 v.k, .int .i64 v.n, .string v.t]] W fun e w' => e = .returned (.bool (P v)) ∧ Below W.heap.size W w') (hr : RowV w q l) (hl : l.length ≤ 1048576) :
    Calls Tryz.prog 207 #[.slice q l.length qc, .func (.func 192) #[.agg #[.slice p m cap, .int .i64 c.k, .int .i64 c.n, .string c.t]] #[]] w fun e w' => e = .returned (.bool (l.any P)) ∧ Below w.heap.size w w' := by
  have HI : Hid (Calls _ _ _ _ _) := idx_kind p m cap c q qc l P w HC hr hl
  clear HC hr
  go_enter Tryz.func207, Tryz.ntmps207
  go_wp2_with fail
  refine HI.out.mono ?_
  rintro e w1 ⟨⟨i, rfl, hi⟩, hb⟩
  have HJ : Hid _ := hi
  clear hi HI
  go_wp2_with fail
  go_ret
  exact ⟨ret_bool HJ.out, hb⟩
set_option maxRecDepth 4000 in
set_option maxHeartbeats 1000000 in
theorem some_kind (p : Option Addr) (m cap : Nat) (c : Val) (q : Option Addr) (qc : Nat) (l : List Val) (P : Val → Bool) (k n : Int) (t : ByteArray) (w : World)
    (HC : ∀ v ∈ l, ∀ W : World, Below w.heap.size w W → Calls Tryz.prog 192 #[.agg #[.slice p m cap, .int .i64 c.k, .int .i64 c.n, .string c.t], .agg #[.int .i64 v.k, .int .i64 v.n, .string v.t]] W fun e w' => e = .returned (.bool (P v)) ∧ Below W.heap.size W w') (hr : RowV w q l) (hl : l.length ≤ 1048576) :
    Calls Tryz.prog 191 #[.agg #[.slice q l.length qc, .int .i64 k, .int .i64 n, .string t], .func (.func 192) #[.agg #[.slice p m cap, .int .i64 c.k, .int .i64 c.n, .string c.t]] #[]] w fun e w' => e = .returned (.bool (l.any P)) ∧ Below w.heap.size w w' := by
  have hb0 : Below w.heap.size w (w.alloc (.cells #[.slice q l.length qc, .int .i64 k, .int .i64 n, .string t] 204)) := (Below.refl _ _).alloc (Nat.le_refl _) _
  have HI : Hid (Calls _ _ _ _ _) := con_kind p m cap c q qc l P (w.alloc (.cells #[.slice q l.length qc, .int .i64 k, .int .i64 n, .string t] 204)) (fun v hv W hW => HC v hv W (hb0.trans (hW.mono hb0.size))) (hr.next hb0) hl
  clear HC hr
  go_enter Tryz.func191, Tryz.ntmps191
  go_wp2_with fail
  refine HI.out.mono ?_
  rintro e w1 ⟨rfl, hb⟩
  have hb1 := hb0.trans (hb.mono hb0.size)
  clear HI hb
  go_wp2_with fail
  go_ret
  exact ⟨rfl, hb1⟩

set_option maxRecDepth 4000 in
set_option maxHeartbeats 1000000 in
theorem idx_wanted (p : Option Addr) (m cap : Nat) (c : Val) (q : Option Addr) (qc : Nat) (l : List Val) (P : Val → Bool) (w : World)
    (HC : ∀ v ∈ l, ∀ W : World, Below w.heap.size w W → Calls Tryz.prog 196 #[.agg #[.slice p m cap, .int .i64 c.k, .int .i64 c.n, .string c.t], .agg #[.int .i64 v.k, .int .i64 v.n, .string v.t]] W fun e w' => e = .returned (.bool (P v)) ∧ Below W.heap.size W w') (hr : RowV w q l) (hl : l.length ≤ 1048576) :
    Calls Tryz.prog 219 #[.slice q l.length qc, .func (.func 196) #[.agg #[.slice p m cap, .int .i64 c.k, .int .i64 c.n, .string c.t]] #[]] w fun e w' => (∃ i : Int, e = .returned (.int .i64 i) ∧ decide (0 ≤ i) = l.any P) ∧ Below w.heap.size w w' := by
  have HR : Hid (RowV _ _ _) := hr
  have HF : Hid _ := HC
  clear hr HC
  go_enter Tryz.func219, Tryz.ntmps219
  go_wp2_with fail
  go_loopw [8] (fun i wr => ∃ k : Nat, k ≤ l.length ∧ i = .int .i64 k ∧ (∀ u ∈ l.take k, P u = false) ∧ Below w.heap.size w wr) (fun i _ => l.length - (intOf i).toNat)
  case atStart => exact ⟨0, Nat.zero_le _, rfl, fun u hu => by simp at hu, Below.refl _ _⟩
  case round =>
    obtain ⟨k, hk, rfl, hall, hbel⟩ := hrel
    have HA : Hid _ := hall
    clear hall
    by_cases hlt : k < l.length
    · rcases HR.out.next hbel with h0 | ⟨g, rfl, R⟩
      · subst h0; simp at hlt
      obtain ⟨x0, x1, x2⟩ := R.cells k hlt
      have hlt2 : (k : Int) < (l.length : Int) := by omega
      have HK0 := HF.out l[k] (List.getElem_mem _)
      cases hP : P l[k]
      · rw [hP] at HK0
        have HK : Hid _ := HK0
        have HPK : Hid _ := hP
        clear R hP HK0
        go_wp2_with fail
        refine (HK.out _ hbel).mono ?_
        rintro e w1 ⟨rfl, hb⟩
        have hb1 := hbel.trans (hb.mono hbel.size)
        clear hb
        go_wp2_with fail
        go_roundw
        case rel =>
          refine ⟨k + 1, by omega, by go_num, ?_, hb1⟩
          intro u hu
          rw [List.take_succ_eq_append_getElem hlt] at hu
          rcases List.mem_append.mp hu with h | h
          · exact HA.out u h
          · simp at h; subst h; exact HPK.out
        case measure => simp [intOf]; omega
      · rw [hP] at HK0
        have HK : Hid _ := HK0
        have hal : l.any P = true := List.any_eq_true.mpr ⟨l[k], List.getElem_mem _, hP⟩
        have HL : Hid _ := hal
        clear R hP HK0 hal
        go_wp2_with fail
        refine (HK.out _ hbel).mono ?_
        rintro e w1 ⟨rfl, hb⟩
        have hb1 := hbel.trans (hb.mono hbel.size)
        clear hb
        go_wp2_with fail
        go_ret
        exact ⟨⟨k, rfl, by rw [HL.out]; exact decide_eq_true (by omega)⟩, hb1⟩
    · have hlt2 : ¬ (k : Int) < (l.length : Int) := by omega
      have hal : l.any P = false := by
        rw [Bool.eq_false_iff]; intro hh
        obtain ⟨u, hu, he⟩ := List.any_eq_true.mp hh
        have := HA.out u (by rw [List.take_of_length_le (by omega)]; exact hu)
        rw [this] at he; cases he
      have HL : Hid _ := hal
      clear hal
      go_wp2_with fail
      go_ret
      exact ⟨⟨-1, rfl, by rw [HL.out]; rfl⟩, hbel⟩
set_option maxRecDepth 4000 in
set_option maxHeartbeats 1000000 in
theorem con_wanted (p : Option Addr) (m cap : Nat) (c : Val) (q : Option Addr) (qc : Nat) (l : List Val) (P : Val → Bool) (w : World)
    (HC : ∀ v ∈ l, ∀ W : World, Below w.heap.size w W → Calls Tryz.prog 196 #[.agg #[.slice p m cap, .int .i64 c.k, .int .i64 c.n, .string c.t], .agg #[.int .i64 v.k, .int .i64 v.n, .string v.t]] W fun e w' => e = .returned (.bool (P v)) ∧ Below W.heap.size W w') (hr : RowV w q l) (hl : l.length ≤ 1048576) :
    Calls Tryz.prog 207 #[.slice q l.length qc, .func (.func 196) #[.agg #[.slice p m cap, .int .i64 c.k, .int .i64 c.n, .string c.t]] #[]] w fun e w' => e = .returned (.bool (l.any P)) ∧ Below w.heap.size w w' := by
  have HI : Hid (Calls _ _ _ _ _) := idx_wanted p m cap c q qc l P w HC hr hl
  clear HC hr
  go_enter Tryz.func207, Tryz.ntmps207
  go_wp2_with fail
  refine HI.out.mono ?_
  rintro e w1 ⟨⟨i, rfl, hi⟩, hb⟩
  have HJ : Hid _ := hi
  clear hi HI
  go_wp2_with fail
  go_ret
  exact ⟨ret_bool HJ.out, hb⟩
set_option maxRecDepth 4000 in
set_option maxHeartbeats 1000000 in
theorem some_wanted (p : Option Addr) (m cap : Nat) (c : Val) (q : Option Addr) (qc : Nat) (l : List Val) (P : Val → Bool) (k n : Int) (t : ByteArray) (w : World)
    (HC : ∀ v ∈ l, ∀ W : World, Below w.heap.size w W → Calls Tryz.prog 196 #[.agg #[.slice p m cap, .int .i64 c.k, .int .i64 c.n, .string c.t], .agg #[.int .i64 v.k, .int .i64 v.n, .string v.t]] W fun e w' => e = .returned (.bool (P v)) ∧ Below W.heap.size W w') (hr : RowV w q l) (hl : l.length ≤ 1048576) :
    Calls Tryz.prog 191 #[.agg #[.slice q l.length qc, .int .i64 k, .int .i64 n, .string t], .func (.func 196) #[.agg #[.slice p m cap, .int .i64 c.k, .int .i64 c.n, .string c.t]] #[]] w fun e w' => e = .returned (.bool (l.any P)) ∧ Below w.heap.size w w' := by
  have hb0 : Below w.heap.size w (w.alloc (.cells #[.slice q l.length qc, .int .i64 k, .int .i64 n, .string t] 204)) := (Below.refl _ _).alloc (Nat.le_refl _) _
  have HI : Hid (Calls _ _ _ _ _) := con_wanted p m cap c q qc l P (w.alloc (.cells #[.slice q l.length qc, .int .i64 k, .int .i64 n, .string t] 204)) (fun v hv W hW => HC v hv W (hb0.trans (hW.mono hb0.size))) (hr.next hb0) hl
  clear HC hr
  go_enter Tryz.func191, Tryz.ntmps191
  go_wp2_with fail
  refine HI.out.mono ?_
  rintro e w1 ⟨rfl, hb⟩
  have hb1 := hb0.trans (hb.mono hb0.size)
  clear HI hb
  go_wp2_with fail
  go_ret
  exact ⟨rfl, hb1⟩

set_option maxRecDepth 4000 in
set_option maxHeartbeats 1000000 in
theorem idx_item (p : Option Addr) (m cap : Nat) (c : Val) (q : Option Addr) (qc : Nat) (l : List Val) (P : Val → Bool) (w : World)
    (HC : ∀ v ∈ l, ∀ W : World, Below w.heap.size w W → Calls Tryz.prog 197 #[.agg #[.slice p m cap, .int .i64 c.k, .int .i64 c.n, .string c.t], .agg #[.int .i64 v.k, .int .i64 v.n, .string v.t]] W fun e w' => e = .returned (.bool (P v)) ∧ Below W.heap.size W w') (hr : RowV w q l) (hl : l.length ≤ 1048576) :
    Calls Tryz.prog 219 #[.slice q l.length qc, .func (.func 197) #[.agg #[.slice p m cap, .int .i64 c.k, .int .i64 c.n, .string c.t]] #[]] w fun e w' => (∃ i : Int, e = .returned (.int .i64 i) ∧ decide (0 ≤ i) = l.any P) ∧ Below w.heap.size w w' := by
  have HR : Hid (RowV _ _ _) := hr
  have HF : Hid _ := HC
  clear hr HC
  go_enter Tryz.func219, Tryz.ntmps219
  go_wp2_with fail
  go_loopw [8] (fun i wr => ∃ k : Nat, k ≤ l.length ∧ i = .int .i64 k ∧ (∀ u ∈ l.take k, P u = false) ∧ Below w.heap.size w wr) (fun i _ => l.length - (intOf i).toNat)
  case atStart => exact ⟨0, Nat.zero_le _, rfl, fun u hu => by simp at hu, Below.refl _ _⟩
  case round =>
    obtain ⟨k, hk, rfl, hall, hbel⟩ := hrel
    have HA : Hid _ := hall
    clear hall
    by_cases hlt : k < l.length
    · rcases HR.out.next hbel with h0 | ⟨g, rfl, R⟩
      · subst h0; simp at hlt
      obtain ⟨x0, x1, x2⟩ := R.cells k hlt
      have hlt2 : (k : Int) < (l.length : Int) := by omega
      have HK0 := HF.out l[k] (List.getElem_mem _)
      cases hP : P l[k]
      · rw [hP] at HK0
        have HK : Hid _ := HK0
        have HPK : Hid _ := hP
        clear R hP HK0
        go_wp2_with fail
        refine (HK.out _ hbel).mono ?_
        rintro e w1 ⟨rfl, hb⟩
        have hb1 := hbel.trans (hb.mono hbel.size)
        clear hb
        go_wp2_with fail
        go_roundw
        case rel =>
          refine ⟨k + 1, by omega, by go_num, ?_, hb1⟩
          intro u hu
          rw [List.take_succ_eq_append_getElem hlt] at hu
          rcases List.mem_append.mp hu with h | h
          · exact HA.out u h
          · simp at h; subst h; exact HPK.out
        case measure => simp [intOf]; omega
      · rw [hP] at HK0
        have HK : Hid _ := HK0
        have hal : l.any P = true := List.any_eq_true.mpr ⟨l[k], List.getElem_mem _, hP⟩
        have HL : Hid _ := hal
        clear R hP HK0 hal
        go_wp2_with fail
        refine (HK.out _ hbel).mono ?_
        rintro e w1 ⟨rfl, hb⟩
        have hb1 := hbel.trans (hb.mono hbel.size)
        clear hb
        go_wp2_with fail
        go_ret
        exact ⟨⟨k, rfl, by rw [HL.out]; exact decide_eq_true (by omega)⟩, hb1⟩
    · have hlt2 : ¬ (k : Int) < (l.length : Int) := by omega
      have hal : l.any P = false := by
        rw [Bool.eq_false_iff]; intro hh
        obtain ⟨u, hu, he⟩ := List.any_eq_true.mp hh
        have := HA.out u (by rw [List.take_of_length_le (by omega)]; exact hu)
        rw [this] at he; cases he
      have HL : Hid _ := hal
      clear hal
      go_wp2_with fail
      go_ret
      exact ⟨⟨-1, rfl, by rw [HL.out]; rfl⟩, hbel⟩
set_option maxRecDepth 4000 in
set_option maxHeartbeats 1000000 in
theorem con_item (p : Option Addr) (m cap : Nat) (c : Val) (q : Option Addr) (qc : Nat) (l : List Val) (P : Val → Bool) (w : World)
    (HC : ∀ v ∈ l, ∀ W : World, Below w.heap.size w W → Calls Tryz.prog 197 #[.agg #[.slice p m cap, .int .i64 c.k, .int .i64 c.n, .string c.t], .agg #[.int .i64 v.k, .int .i64 v.n, .string v.t]] W fun e w' => e = .returned (.bool (P v)) ∧ Below W.heap.size W w') (hr : RowV w q l) (hl : l.length ≤ 1048576) :
    Calls Tryz.prog 207 #[.slice q l.length qc, .func (.func 197) #[.agg #[.slice p m cap, .int .i64 c.k, .int .i64 c.n, .string c.t]] #[]] w fun e w' => e = .returned (.bool (l.any P)) ∧ Below w.heap.size w w' := by
  have HI : Hid (Calls _ _ _ _ _) := idx_item p m cap c q qc l P w HC hr hl
  clear HC hr
  go_enter Tryz.func207, Tryz.ntmps207
  go_wp2_with fail
  refine HI.out.mono ?_
  rintro e w1 ⟨⟨i, rfl, hi⟩, hb⟩
  have HJ : Hid _ := hi
  clear hi HI
  go_wp2_with fail
  go_ret
  exact ⟨ret_bool HJ.out, hb⟩
set_option maxRecDepth 4000 in
set_option maxHeartbeats 1000000 in
theorem some_item (p : Option Addr) (m cap : Nat) (c : Val) (q : Option Addr) (qc : Nat) (l : List Val) (P : Val → Bool) (k n : Int) (t : ByteArray) (w : World)
    (HC : ∀ v ∈ l, ∀ W : World, Below w.heap.size w W → Calls Tryz.prog 197 #[.agg #[.slice p m cap, .int .i64 c.k, .int .i64 c.n, .string c.t], .agg #[.int .i64 v.k, .int .i64 v.n, .string v.t]] W fun e w' => e = .returned (.bool (P v)) ∧ Below W.heap.size W w') (hr : RowV w q l) (hl : l.length ≤ 1048576) :
    Calls Tryz.prog 191 #[.agg #[.slice q l.length qc, .int .i64 k, .int .i64 n, .string t], .func (.func 197) #[.agg #[.slice p m cap, .int .i64 c.k, .int .i64 c.n, .string c.t]] #[]] w fun e w' => e = .returned (.bool (l.any P)) ∧ Below w.heap.size w w' := by
  have hb0 : Below w.heap.size w (w.alloc (.cells #[.slice q l.length qc, .int .i64 k, .int .i64 n, .string t] 204)) := (Below.refl _ _).alloc (Nat.le_refl _) _
  have HI : Hid (Calls _ _ _ _ _) := con_item p m cap c q qc l P (w.alloc (.cells #[.slice q l.length qc, .int .i64 k, .int .i64 n, .string t] 204)) (fun v hv W hW => HC v hv W (hb0.trans (hW.mono hb0.size))) (hr.next hb0) hl
  clear HC hr
  go_enter Tryz.func191, Tryz.ntmps191
  go_wp2_with fail
  refine HI.out.mono ?_
  rintro e w1 ⟨rfl, hb⟩
  have hb1 := hb0.trans (hb.mono hb0.size)
  clear HI hb
  go_wp2_with fail
  go_ret
  exact ⟨rfl, hb1⟩

set_option maxRecDepth 4000 in
set_option maxHeartbeats 1000000 in
theorem idx_size (p : Option Addr) (m cap : Nat) (c : Val) (q : Option Addr) (qc : Nat) (l : List Val) (P : Val → Bool) (w : World)
    (HC : ∀ v ∈ l, ∀ W : World, Below w.heap.size w W → Calls Tryz.prog 198 #[.agg #[.slice p m cap, .int .i64 c.k, .int .i64 c.n, .string c.t], .agg #[.int .i64 v.k, .int .i64 v.n, .string v.t]] W fun e w' => e = .returned (.bool (P v)) ∧ Below W.heap.size W w') (hr : RowV w q l) (hl : l.length ≤ 1048576) :
    Calls Tryz.prog 219 #[.slice q l.length qc, .func (.func 198) #[.agg #[.slice p m cap, .int .i64 c.k, .int .i64 c.n, .string c.t]] #[]] w fun e w' => (∃ i : Int, e = .returned (.int .i64 i) ∧ decide (0 ≤ i) = l.any P) ∧ Below w.heap.size w w' := by
  have HR : Hid (RowV _ _ _) := hr
  have HF : Hid _ := HC
  clear hr HC
  go_enter Tryz.func219, Tryz.ntmps219
  go_wp2_with fail
  go_loopw [8] (fun i wr => ∃ k : Nat, k ≤ l.length ∧ i = .int .i64 k ∧ (∀ u ∈ l.take k, P u = false) ∧ Below w.heap.size w wr) (fun i _ => l.length - (intOf i).toNat)
  case atStart => exact ⟨0, Nat.zero_le _, rfl, fun u hu => by simp at hu, Below.refl _ _⟩
  case round =>
    obtain ⟨k, hk, rfl, hall, hbel⟩ := hrel
    have HA : Hid _ := hall
    clear hall
    by_cases hlt : k < l.length
    · rcases HR.out.next hbel with h0 | ⟨g, rfl, R⟩
      · subst h0; simp at hlt
      obtain ⟨x0, x1, x2⟩ := R.cells k hlt
      have hlt2 : (k : Int) < (l.length : Int) := by omega
      have HK0 := HF.out l[k] (List.getElem_mem _)
      cases hP : P l[k]
      · rw [hP] at HK0
        have HK : Hid _ := HK0
        have HPK : Hid _ := hP
        clear R hP HK0
        go_wp2_with fail
        refine (HK.out _ hbel).mono ?_
        rintro e w1 ⟨rfl, hb⟩
        have hb1 := hbel.trans (hb.mono hbel.size)
        clear hb
        go_wp2_with fail
        go_roundw
        case rel =>
          refine ⟨k + 1, by omega, by go_num, ?_, hb1⟩
          intro u hu
          rw [List.take_succ_eq_append_getElem hlt] at hu
          rcases List.mem_append.mp hu with h | h
          · exact HA.out u h
          · simp at h; subst h; exact HPK.out
        case measure => simp [intOf]; omega
      · rw [hP] at HK0
        have HK : Hid _ := HK0
        have hal : l.any P = true := List.any_eq_true.mpr ⟨l[k], List.getElem_mem _, hP⟩
        have HL : Hid _ := hal
        clear R hP HK0 hal
        go_wp2_with fail
        refine (HK.out _ hbel).mono ?_
        rintro e w1 ⟨rfl, hb⟩
        have hb1 := hbel.trans (hb.mono hbel.size)
        clear hb
        go_wp2_with fail
        go_ret
        exact ⟨⟨k, rfl, by rw [HL.out]; exact decide_eq_true (by omega)⟩, hb1⟩
    · have hlt2 : ¬ (k : Int) < (l.length : Int) := by omega
      have hal : l.any P = false := by
        rw [Bool.eq_false_iff]; intro hh
        obtain ⟨u, hu, he⟩ := List.any_eq_true.mp hh
        have := HA.out u (by rw [List.take_of_length_le (by omega)]; exact hu)
        rw [this] at he; cases he
      have HL : Hid _ := hal
      clear hal
      go_wp2_with fail
      go_ret
      exact ⟨⟨-1, rfl, by rw [HL.out]; rfl⟩, hbel⟩
set_option maxRecDepth 4000 in
set_option maxHeartbeats 1000000 in
theorem con_size (p : Option Addr) (m cap : Nat) (c : Val) (q : Option Addr) (qc : Nat) (l : List Val) (P : Val → Bool) (w : World)
    (HC : ∀ v ∈ l, ∀ W : World, Below w.heap.size w W → Calls Tryz.prog 198 #[.agg #[.slice p m cap, .int .i64 c.k, .int .i64 c.n, .string c.t], .agg #[.int .i64 v.k, .int .i64 v.n, .string v.t]] W fun e w' => e = .returned (.bool (P v)) ∧ Below W.heap.size W w') (hr : RowV w q l) (hl : l.length ≤ 1048576) :
    Calls Tryz.prog 207 #[.slice q l.length qc, .func (.func 198) #[.agg #[.slice p m cap, .int .i64 c.k, .int .i64 c.n, .string c.t]] #[]] w fun e w' => e = .returned (.bool (l.any P)) ∧ Below w.heap.size w w' := by
  have HI : Hid (Calls _ _ _ _ _) := idx_size p m cap c q qc l P w HC hr hl
  clear HC hr
  go_enter Tryz.func207, Tryz.ntmps207
  go_wp2_with fail
  refine HI.out.mono ?_
  rintro e w1 ⟨⟨i, rfl, hi⟩, hb⟩
  have HJ : Hid _ := hi
  clear hi HI
  go_wp2_with fail
  go_ret
  exact ⟨ret_bool HJ.out, hb⟩
set_option maxRecDepth 4000 in
set_option maxHeartbeats 1000000 in
theorem some_size (p : Option Addr) (m cap : Nat) (c : Val) (q : Option Addr) (qc : Nat) (l : List Val) (P : Val → Bool) (k n : Int) (t : ByteArray) (w : World)
    (HC : ∀ v ∈ l, ∀ W : World, Below w.heap.size w W → Calls Tryz.prog 198 #[.agg #[.slice p m cap, .int .i64 c.k, .int .i64 c.n, .string c.t], .agg #[.int .i64 v.k, .int .i64 v.n, .string v.t]] W fun e w' => e = .returned (.bool (P v)) ∧ Below W.heap.size W w') (hr : RowV w q l) (hl : l.length ≤ 1048576) :
    Calls Tryz.prog 191 #[.agg #[.slice q l.length qc, .int .i64 k, .int .i64 n, .string t], .func (.func 198) #[.agg #[.slice p m cap, .int .i64 c.k, .int .i64 c.n, .string c.t]] #[]] w fun e w' => e = .returned (.bool (l.any P)) ∧ Below w.heap.size w w' := by
  have hb0 : Below w.heap.size w (w.alloc (.cells #[.slice q l.length qc, .int .i64 k, .int .i64 n, .string t] 204)) := (Below.refl _ _).alloc (Nat.le_refl _) _
  have HI : Hid (Calls _ _ _ _ _) := con_size p m cap c q qc l P (w.alloc (.cells #[.slice q l.length qc, .int .i64 k, .int .i64 n, .string t] 204)) (fun v hv W hW => HC v hv W (hb0.trans (hW.mono hb0.size))) (hr.next hb0) hl
  clear HC hr
  go_enter Tryz.func191, Tryz.ntmps191
  go_wp2_with fail
  refine HI.out.mono ?_
  rintro e w1 ⟨rfl, hb⟩
  have hb1 := hb0.trans (hb.mono hb0.size)
  clear HI hb
  go_wp2_with fail
  go_ret
  exact ⟨rfl, hb1⟩

set_option maxRecDepth 4000 in
set_option maxHeartbeats 1000000 in
theorem idx_ord (b1 b2 : Nat) (q : Option Addr) (qc : Nat) (l : List Val) (P : Val → Bool) (w : World)
    (HC : ∀ v ∈ l, ∀ W : World, Below w.heap.size w W → Calls Tryz.prog 193 #[.agg #[.int .i64 v.k, .int .i64 v.n, .string v.t], .pointer (some ⟨b1, 0, none⟩), .pointer (some ⟨b2, 0, none⟩)] W fun e w' => e = .returned (.bool (P v)) ∧ Below W.heap.size W w') (hr : RowV w q l) (hl : l.length ≤ 1048576) :
    Calls Tryz.prog 219 #[.slice q l.length qc, .func (.func 193) #[] #[.pointer (some ⟨b1, 0, none⟩), .pointer (some ⟨b2, 0, none⟩)]] w fun e w' => (∃ i : Int, e = .returned (.int .i64 i) ∧ decide (0 ≤ i) = l.any P) ∧ Below w.heap.size w w' := by
  have HR : Hid (RowV _ _ _) := hr
  have HF : Hid _ := HC
  clear hr HC
  go_enter Tryz.func219, Tryz.ntmps219
  go_wp2_with fail
  go_loopw [8] (fun i wr => ∃ k : Nat, k ≤ l.length ∧ i = .int .i64 k ∧ (∀ u ∈ l.take k, P u = false) ∧ Below w.heap.size w wr) (fun i _ => l.length - (intOf i).toNat)
  case atStart => exact ⟨0, Nat.zero_le _, rfl, fun u hu => by simp at hu, Below.refl _ _⟩
  case round =>
    obtain ⟨k, hk, rfl, hall, hbel⟩ := hrel
    have HA : Hid _ := hall
    clear hall
    by_cases hlt : k < l.length
    · rcases HR.out.next hbel with h0 | ⟨g, rfl, R⟩
      · subst h0; simp at hlt
      obtain ⟨x0, x1, x2⟩ := R.cells k hlt
      have hlt2 : (k : Int) < (l.length : Int) := by omega
      have HK0 := HF.out l[k] (List.getElem_mem _)
      cases hP : P l[k]
      · rw [hP] at HK0
        have HK : Hid _ := HK0
        have HPK : Hid _ := hP
        clear R hP HK0
        go_wp2_with fail
        refine (HK.out _ hbel).mono ?_
        rintro e w1 ⟨rfl, hb⟩
        have hb1 := hbel.trans (hb.mono hbel.size)
        clear hb
        go_wp2_with fail
        go_roundw
        case rel =>
          refine ⟨k + 1, by omega, by go_num, ?_, hb1⟩
          intro u hu
          rw [List.take_succ_eq_append_getElem hlt] at hu
          rcases List.mem_append.mp hu with h | h
          · exact HA.out u h
          · simp at h; subst h; exact HPK.out
        case measure => simp [intOf]; omega
      · rw [hP] at HK0
        have HK : Hid _ := HK0
        have hal : l.any P = true := List.any_eq_true.mpr ⟨l[k], List.getElem_mem _, hP⟩
        have HL : Hid _ := hal
        clear R hP HK0 hal
        go_wp2_with fail
        refine (HK.out _ hbel).mono ?_
        rintro e w1 ⟨rfl, hb⟩
        have hb1 := hbel.trans (hb.mono hbel.size)
        clear hb
        go_wp2_with fail
        go_ret
        exact ⟨⟨k, rfl, by rw [HL.out]; exact decide_eq_true (by omega)⟩, hb1⟩
    · have hlt2 : ¬ (k : Int) < (l.length : Int) := by omega
      have hal : l.any P = false := by
        rw [Bool.eq_false_iff]; intro hh
        obtain ⟨u, hu, he⟩ := List.any_eq_true.mp hh
        have := HA.out u (by rw [List.take_of_length_le (by omega)]; exact hu)
        rw [this] at he; cases he
      have HL : Hid _ := hal
      clear hal
      go_wp2_with fail
      go_ret
      exact ⟨⟨-1, rfl, by rw [HL.out]; rfl⟩, hbel⟩
set_option maxRecDepth 4000 in
set_option maxHeartbeats 1000000 in
theorem con_ord (b1 b2 : Nat) (q : Option Addr) (qc : Nat) (l : List Val) (P : Val → Bool) (w : World)
    (HC : ∀ v ∈ l, ∀ W : World, Below w.heap.size w W → Calls Tryz.prog 193 #[.agg #[.int .i64 v.k, .int .i64 v.n, .string v.t], .pointer (some ⟨b1, 0, none⟩), .pointer (some ⟨b2, 0, none⟩)] W fun e w' => e = .returned (.bool (P v)) ∧ Below W.heap.size W w') (hr : RowV w q l) (hl : l.length ≤ 1048576) :
    Calls Tryz.prog 207 #[.slice q l.length qc, .func (.func 193) #[] #[.pointer (some ⟨b1, 0, none⟩), .pointer (some ⟨b2, 0, none⟩)]] w fun e w' => e = .returned (.bool (l.any P)) ∧ Below w.heap.size w w' := by
  have HI : Hid (Calls _ _ _ _ _) := idx_ord b1 b2 q qc l P w HC hr hl
  clear HC hr
  go_enter Tryz.func207, Tryz.ntmps207
  go_wp2_with fail
  refine HI.out.mono ?_
  rintro e w1 ⟨⟨i, rfl, hi⟩, hb⟩
  have HJ : Hid _ := hi
  clear hi HI
  go_wp2_with fail
  go_ret
  exact ⟨ret_bool HJ.out, hb⟩
set_option maxRecDepth 4000 in
set_option maxHeartbeats 1000000 in
theorem some_ord (b1 b2 : Nat) (q : Option Addr) (qc : Nat) (l : List Val) (P : Val → Bool) (k n : Int) (t : ByteArray) (w : World)
    (HC : ∀ v ∈ l, ∀ W : World, Below w.heap.size w W → Calls Tryz.prog 193 #[.agg #[.int .i64 v.k, .int .i64 v.n, .string v.t], .pointer (some ⟨b1, 0, none⟩), .pointer (some ⟨b2, 0, none⟩)] W fun e w' => e = .returned (.bool (P v)) ∧ Below W.heap.size W w') (hr : RowV w q l) (hl : l.length ≤ 1048576) :
    Calls Tryz.prog 191 #[.agg #[.slice q l.length qc, .int .i64 k, .int .i64 n, .string t], .func (.func 193) #[] #[.pointer (some ⟨b1, 0, none⟩), .pointer (some ⟨b2, 0, none⟩)]] w fun e w' => e = .returned (.bool (l.any P)) ∧ Below w.heap.size w w' := by
  have hb0 : Below w.heap.size w (w.alloc (.cells #[.slice q l.length qc, .int .i64 k, .int .i64 n, .string t] 204)) := (Below.refl _ _).alloc (Nat.le_refl _) _
  have HI : Hid (Calls _ _ _ _ _) := con_ord b1 b2 q qc l P (w.alloc (.cells #[.slice q l.length qc, .int .i64 k, .int .i64 n, .string t] 204)) (fun v hv W hW => HC v hv W (hb0.trans (hW.mono hb0.size))) (hr.next hb0) hl
  clear HC hr
  go_enter Tryz.func191, Tryz.ntmps191
  go_wp2_with fail
  refine HI.out.mono ?_
  rintro e w1 ⟨rfl, hb⟩
  have hb1 := hb0.trans (hb.mono hb0.size)
  clear HI hb
  go_wp2_with fail
  go_ret
  exact ⟨rfl, hb1⟩

end Go.Proofs.YtcggkeleaepebaaGreatDoor

/- What the specification's trial of one value, and of a whole document, by a term answers. -/
namespace Go.Proofs.YtcggkeleaepebaaGreatDoor
open Go.RowKit
set_option linter.unusedVariables false

/-- Five cells in the first new block, three in the second. -/
structure B53 (w W : World) (a b c d e x y z : Value) : Prop where
  bel : Below w.heap.size w W
  lt : w.heap.size + 1 < W.heap.size
  c0 : W.cell? ⟨w.heap.size, 0, none⟩ = some a
  c1 : W.cell? ⟨w.heap.size, 1, none⟩ = some b
  c2 : W.cell? ⟨w.heap.size, 2, none⟩ = some c
  c3 : W.cell? ⟨w.heap.size, 3, none⟩ = some d
  c4 : W.cell? ⟨w.heap.size, 4, none⟩ = some e
  d0 : W.cell? ⟨w.heap.size + 1, 0, none⟩ = some x
  d1 : W.cell? ⟨w.heap.size + 1, 1, none⟩ = some y
  d2 : W.cell? ⟨w.heap.size + 1, 2, none⟩ = some z
theorem B53.start (w : World) (a b c d e x y z : Value) (T U : TypeId) : B53 w ((w.alloc (.cells #[a, b, c, d, e] T)).alloc (.cells #[x, y, z] U)) a b c d e x y z :=
  ⟨((Below.refl _ _).alloc (Nat.le_refl _) _).alloc (by simp) _, by simp, by simp [go_sem], by simp [go_sem], by simp [go_sem], by simp [go_sem], by simp [go_sem], by simp [go_sem], by simp [go_sem], by simp [go_sem]⟩
theorem B53.step {w W W' : World} {a b c d e x y z : Value} (h : B53 w W a b c d e x y z) (hb : Below W.heap.size W W') : B53 w W' a b c d e x y z :=
  have hl : w.heap.size < W.heap.size := Nat.lt_of_succ_lt h.lt
  ⟨h.bel.trans (hb.mono h.bel.size), Nat.lt_of_lt_of_le h.lt hb.size, (hb.cell hl).trans h.c0, (hb.cell hl).trans h.c1, (hb.cell hl).trans h.c2, (hb.cell hl).trans h.c3, (hb.cell hl).trans h.c4, (hb.cell h.lt).trans h.d0, (hb.cell h.lt).trans h.d1, (hb.cell h.lt).trans h.d2⟩

theorem oneT_eq (c v : Val) (op : Int) (h : op = 1 ∨ op = 2) : oneT op c v = (v.k == c.k && (v.n == c.n && v.t.toList == c.t.toList)) := by unfold oneT; rw [if_pos h, val_eq]
theorem kind_eq (c v : Val) : (v.k == c.k) = decide (v.k = c.k) := by rw [Bool.eq_iff_iff]; simp

set_option maxRecDepth 8000 in
set_option maxHeartbeats 4000000 in
theorem l03One_any (op : Int) (p : ByteArray) (c v : Val) (w : World) (hop : 1 ≤ op ∧ op ≤ 10 ∧ op ≠ 8) (h7 : op = 7 → c.k = 4) (hc : okB c = true) (hv : okB v = true) :
    Calls Tryz.prog 150 #[.agg #[.int .i64 op, .string p, .int .i64 c.k, .int .i64 c.n, .string c.t], .agg #[.int .i64 v.k, .int .i64 v.n, .string v.t]] w fun e w' => e = .returned (.bool (oneT op c v)) ∧ Below w.heap.size w w' := by
  have X0 := B53.start w (.int .i64 op) (.string p) (.int .i64 c.k) (.int .i64 c.n) (.string c.t) (.int .i64 v.k) (.int .i64 v.n) (.string v.t) 144 82
  have hsc := ok_size c hc
  have hsv := ok_size v hv
  have HC : Hid (okB c = true) := hc
  have HV : Hid (okB v = true) := hv
  have H7 : Hid _ := h7
  obtain ⟨R, hR⟩ : ∃ R, R = oneT op c v := ⟨_, rfl⟩
  rw [← hR]
  have HR : Hid _ := hR
  obtain ⟨O, hO⟩ : ∃ O, O = ordV 5 v c := ⟨_, rfl⟩
  have HO : Hid _ := hO
  have HCO : Hid (∀ W : World, Calls _ _ _ W _) := fun W => l01Order_at 5 v c W (by omega) (by omega) hv hc
  rw [← hO] at HCO
  clear hc hv hR hO h7
  go_enter Tryz.func150, Tryz.ntmps150
  go_wp2_with fail
  refine (HCO.out _).mono ?_
  rintro e w1 ⟨rfl, hb⟩
  have X1 := X0.step hb
  have a0 := X1.c0
  have a2 := X1.c2
  have a3 := X1.c3
  have a4 := X1.c4
  have b0 := X1.d0
  have b1 := X1.d1
  have b2 := X1.d2
  have hbw := X1.bel
  have hz := hbw.size
  clear hb X0
  have hcs : op = 1 ∨ op = 2 ∨ op = 3 ∨ op = 4 ∨ op = 5 ∨ op = 6 ∨ op = 7 ∨ op = 9 ∨ op = 10 := by omega
  clear hop
  rcases hcs with rfl | rfl | rfl | rfl | rfl | rfl | rfl | rfl | rfl
  iterate 2
    · go_wp2_with fail
      all_goals
        go_ret
        exact ⟨ret_bool (by rw [HR.out, oneT_eq _ _ _ (by decide)]; simp [*]), hbw⟩
  iterate 4
    · have hRo := HR.out
      rw [oneT_ord _ c v (by decide), ← HO.out] at hRo
      by_cases hk : v.k = c.k
      · have ek : (v.k == c.k) = true := by simp [hk]
        rw [decide_eq_true hk, Bool.true_and] at hRo
        have HRO : Hid _ := hRo
        clear HR hRo
        go_wp2_with fail
        go_ret
        exact ⟨ret_bool (by rw [HRO.out]; simp [fitsO]), hbw⟩
      · have ek : (v.k == c.k) = false := beq_eq_false_iff_ne.mpr hk
        rw [decide_eq_false hk, Bool.false_and] at hRo
        clear HR
        subst hRo
        go_wp2_with fail
        go_ret
        exact ⟨rfl, hbw⟩
  · obtain ⟨hi, hl, _⟩ := ok_items c HC.out (H7.out rfl)
    have hRo : R = (itms c).any (fun u => decide (u = v)) := by rw [HR.out]; unfold oneT; simp
    obtain ⟨L, hL⟩ : ∃ L, L = itms c := ⟨_, rfl⟩
    rw [← hL] at hi hl hRo
    have HI : Hid _ := hi
    have HRO : Hid _ := hRo
    clear hi hL hRo HR
    go_wp2_with fail
    refine (l01Items_any c.t _ (by omega)).mono ?_
    rintro e w2 ⟨⟨g1, m, cap1, rfl, hown0⟩, hb⟩
    obtain ⟨rfl, hown1⟩ := hown0 L HI.out
    rw [HI.out]
    have X2 := X1.step hb
    have HRV : Hid (ReadV _ _ _) := ReadV.of_own hown1
    clear hown0 hown1 hb X1 a0 a2 a3 a4 b0 b1 b2 hbw hz
    go_wp2_with fail
    go_loopw [9] (fun i wr => ∃ k : Nat, k ≤ L.length ∧ i = .int .i64 k ∧ (∀ u ∈ L.take k, u ≠ v) ∧ Below w2.heap.size w2 wr) (fun i _ => L.length - (intOf i).toNat)
    case atStart => exact ⟨0, Nat.zero_le _, rfl, fun u hu => by simp at hu, Below.refl _ _⟩
    case round =>
      obtain ⟨k, hk, rfl, hall, hbel⟩ := hrel
      have HA : Hid _ := hall
      have X := X2.step hbel
      have b0 := X.d0
      have b1 := X.d1
      have b2 := X.d2
      have hbw := X.bel
      clear hall X
      by_cases hlt : k < L.length
      · have RR := HRV.out.next hbel
        obtain ⟨x0, x1, x2⟩ := RR.cells k hlt
        have hlt2 : (k : Int) < (L.length : Int) := by omega
        have hve := val_eq L[k] v
        clear RR
        by_cases he : L[k] = v
        · rw [decide_eq_true he] at hve
          have hal : L.any (fun u => decide (u = v)) = true := List.any_eq_true.mpr ⟨L[k], List.getElem_mem _, by simp [he]⟩
          have hRt := HRO.out
          rw [hal] at hRt
          subst hRt
          simp only [Bool.and_eq_true] at hve
          obtain ⟨q1, q2, q3⟩ := hve
          clear hal he HRO
          go_wp2_with fail
          go_quiet (fail)
          go_wp2_with fail
          go_ret
          exact ⟨rfl, by (repeat (first | (with_reducible exact Below.refl _ _) | (with_reducible assumption) | (with_reducible apply below_drewN) | (with_reducible apply Below.drew) | ((with_reducible refine Below.setCell ?_ ?_ _); rotate_left; focus (first | (simp; done) | (simp; omega) | omega)) | ((with_reducible refine Below.alloc ?_ ?_ _); rotate_left; focus (first | (simp; done) | (simp; omega) | omega))))⟩
        · have hne := val_ne L[k] v he
          have HE : Hid _ := he
          clear he hve
          rcases hne with q1 | ⟨q1, q2⟩ | ⟨q1, q2, q3⟩
          all_goals
            go_wp2_with fail
            go_quiet (fail)
            go_wp2_with fail
            go_roundw
            case rel =>
              refine ⟨k + 1, by omega, by go_num, ?_, by (repeat (first | (with_reducible exact Below.refl _ _) | (with_reducible assumption) | (with_reducible apply below_drewN) | (with_reducible apply Below.drew) | ((with_reducible refine Below.setCell ?_ ?_ _); rotate_left; focus (first | (simp; done) | (simp; omega) | omega)) | ((with_reducible refine Below.alloc ?_ ?_ _); rotate_left; focus (first | (simp; done) | (simp; omega) | omega))))⟩
              intro u hu
              rw [List.take_succ_eq_append_getElem hlt] at hu
              rcases List.mem_append.mp hu with h | h
              · exact HA.out u h
              · simp at h; subst h; exact HE.out
            case measure => simp [intOf]; omega
      · have hlt2 : ¬ (k : Int) < (L.length : Int) := by omega
        have hal : L.any (fun u => decide (u = v)) = false := by
          rw [Bool.eq_false_iff]; intro hh
          obtain ⟨u, hu, he⟩ := List.any_eq_true.mp hh
          have := HA.out u (by rw [List.take_of_length_le (by omega)]; exact hu)
          exact this (by simpa using he)
        have hRt := HRO.out
        rw [hal] at hRt
        subst hRt
        clear hal HRO
        go_wp2_with fail
        go_ret
        exact ⟨rfl, hbw⟩
  · go_wp2_with fail
    go_ret
    exact ⟨ret_bool (by rw [HR.out]; unfold oneT; rw [Bool.eq_iff_iff]; simp), hbw⟩
  · by_cases h4 : v.k = 4
    · obtain ⟨hi, hl, _⟩ := ok_items v HV.out h4
      have hRo : R = decide (((itms v).length : Int) = c.n) := by rw [HR.out]; unfold oneT; simp [h4]
      obtain ⟨L, hL⟩ : ∃ L, L = itms v := ⟨_, rfl⟩
      rw [← hL] at hi hl hRo
      have HI : Hid _ := hi
      have e4 : (v.k == 4) = true := by simp [h4]
      clear hi hL HR h4
      subst hRo
      go_wp2_with fail
      refine (l01Items_any v.t _ (by omega)).mono ?_
      rintro e w2 ⟨⟨g1, m, cap1, rfl, hown0⟩, hb⟩
      obtain ⟨rfl, hown1⟩ := hown0 L HI.out
      rw [HI.out]
      have X2 := X1.step hb
      have d0 := X2.d0
      have d3 := X2.c3
      have hbw2 := X2.bel
      clear hown0 hown1 hb X1 X2 a0 a2 a3 a4 b0 b1 b2 hbw hz
      go_wp2_with fail
      go_ret
      exact ⟨ret_bool (by rw [Bool.eq_iff_iff]; simp), hbw2⟩
    · have hRo : R = false := by rw [HR.out]; unfold oneT; simp [h4]
      have e4 : (v.k == 4) = false := beq_eq_false_iff_ne.mpr h4
      clear HR
      subst hRo
      go_wp2_with fail
      refine (l01Items_any v.t _ (by omega)).mono ?_
      rintro e w2 ⟨⟨g1, m, cap1, rfl, hown0⟩, hb⟩
      have X2 := X1.step hb
      have d0 := X2.d0
      have hbw2 := X2.bel
      clear hown0 hb X1 X2 a0 a2 a3 a4 b0 b1 b2 hbw hz
      go_wp2_with fail
      go_ret
      exact ⟨rfl, hbw2⟩

end Go.Proofs.YtcggkeleaepebaaGreatDoor

/- What the program's trials by a term's operation answer. -/
namespace Go.Proofs.YtcggkeleaepebaaGreatDoor
open Go.RowKit
set_option linter.unusedVariables false

/-- Four cells in the first new block. -/
structure Box4 (w W : World) (a b c d : Value) : Prop where
  bel : Below w.heap.size w W
  lt : w.heap.size < W.heap.size
  c0 : W.cell? ⟨w.heap.size, 0, none⟩ = some a
  c1 : W.cell? ⟨w.heap.size, 1, none⟩ = some b
  c2 : W.cell? ⟨w.heap.size, 2, none⟩ = some c
  c3 : W.cell? ⟨w.heap.size, 3, none⟩ = some d
theorem Box4.start (w : World) (a b c d : Value) (T : TypeId) : Box4 w (w.alloc (.cells #[a, b, c, d] T)) a b c d :=
  ⟨(Below.refl _ _).alloc (Nat.le_refl _) _, by simp, by simp [go_sem], by simp [go_sem], by simp [go_sem], by simp [go_sem]⟩
theorem Box4.step {w W W' : World} {a b c d : Value} (h : Box4 w W a b c d) (hb : Below W.heap.size W W') : Box4 w W' a b c d :=
  ⟨h.bel.trans (hb.mono h.bel.size), Nat.lt_of_lt_of_le h.lt hb.size, (hb.cell h.lt).trans h.c0, (hb.cell h.lt).trans h.c1, (hb.cell h.lt).trans h.c2, (hb.cell h.lt).trans h.c3⟩
theorem mk_func (fn : Fn) (first cap : Array Value) (w : World) : (Instr.makeFunc fn first cap).run Tryz.prog w = .ok (.func fn first cap) w := rfl

/-- What is held against a term that asks of values. -/
def withZ (l : List Val) : List Val := if l = [] then [⟨0, 0, em⟩] else l
theorem heldT_Z (op : Int) (l : List Val) (h : op ≠ 9) : heldT op l = withZ l := by unfold heldT withZ; rw [if_neg h]
set_option maxRecDepth 4000 in
set_option maxHeartbeats 1000000 in
theorem withNull_any (q : Option Addr) (qc : Nat) (l : List Val) (c : Val) (w : World) (hr : RowV w q l) :
    Calls Tryz.prog 176 #[.agg #[.slice q l.length qc, .int .i64 c.k, .int .i64 c.n, .string c.t]] w fun e w' => (∃ q' qc', e = .returned (.agg #[.slice q' (withZ l).length qc', .int .i64 c.k, .int .i64 c.n, .string c.t]) ∧ RowV w' q' (withZ l)) ∧ Below w.heap.size w w' := by
  by_cases h0 : l = []
  · subst h0
    have e : withZ [] = [⟨0, 0, em⟩] := rfl
    rw [e]
    clear e hr
    go_enter Tryz.func176, Tryz.ntmps176
    go_wp2_with fail
    refine bodyPost_ret (v := .agg #[.slice (some ⟨w.heap.size + 2, 0, none⟩) 1 1, .int .i64 c.k, .int .i64 c.n, .string c.t]) (by simp [results, Tryz.results176, go_sem, *]) rfl ⟨⟨_, _, rfl, .inr ⟨w.heap.size + 2, rfl, ?_⟩⟩, by (repeat (first | (with_reducible exact Below.refl _ _) | (with_reducible assumption) | (with_reducible apply below_drewN) | (with_reducible apply Below.drew) | ((with_reducible refine Below.setCell ?_ ?_ _); rotate_left; focus (first | (simp; done) | (simp; omega) | omega)) | ((with_reducible refine Below.alloc ?_ ?_ _); rotate_left; focus (first | (simp; done) | (simp; omega) | omega))))⟩
    refine ⟨by simp, fun i hi => ?_⟩
    obtain rfl : i = 0 := by simpa using hi
    exact ⟨by simp [go_sem], by simp [go_sem], by simp [go_sem]⟩
  · have e : withZ l = l := by unfold withZ; rw [if_neg h0]
    rw [e]
    have hl0 : ((l.length : Int) == 0) = false := beq_eq_false_iff_ne.mpr (fun e => h0 (List.eq_nil_of_length_eq_zero (by omega)))
    have HR : Hid (RowV _ _ _) := hr
    clear e hr h0
    go_enter Tryz.func176, Tryz.ntmps176
    go_wp2_with fail
    refine bodyPost_ret (v := .agg #[.slice q l.length qc, .int .i64 c.k, .int .i64 c.n, .string c.t]) (by simp [results, Tryz.results176, go_sem, *]) rfl ⟨⟨_, _, rfl, HR.out.next ?_⟩, ?_⟩
    all_goals (repeat (first | (with_reducible exact Below.refl _ _) | (with_reducible assumption) | (with_reducible apply below_drewN) | (with_reducible apply Below.drew) | ((with_reducible refine Below.setCell ?_ ?_ _); rotate_left; focus (first | (simp; done) | (simp; omega) | omega)) | ((with_reducible refine Below.alloc ?_ ?_ _); rotate_left; focus (first | (simp; done) | (simp; omega) | omega))))

set_option maxRecDepth 4000 in
set_option maxHeartbeats 1000000 in
theorem presence_exists (q : Option Addr) (qc : Nat) (l : List Val) (c : Val) (w : World) :
    Calls Tryz.prog 175 #[.agg #[.slice q l.length qc, .int .i64 c.k, .int .i64 c.n, .string c.t], .int .i64 8] w fun e w' => e = .returned (.bool (decide (0 < (l.length : Int)) == decide (c.n = 1))) ∧ Below w.heap.size w w' := by
  have hn1 : decide (c.n = 1) = (c.n == 1) := by rw [Bool.eq_iff_iff]; simp
  rw [hn1]
  clear hn1
  go_enter Tryz.func175, Tryz.ntmps175
  go_wp2_with fail
  go_ret
  exact ⟨ret_bool (by simp), by (repeat (first | (with_reducible exact Below.refl _ _) | (with_reducible assumption) | (with_reducible apply below_drewN) | (with_reducible apply Below.drew) | ((with_reducible refine Below.setCell ?_ ?_ _); rotate_left; focus (first | (simp; done) | (simp; omega) | omega)) | ((with_reducible refine Below.alloc ?_ ?_ _); rotate_left; focus (first | (simp; done) | (simp; omega) | omega))))⟩

set_option maxRecDepth 4000 in
set_option maxHeartbeats 1000000 in
theorem presence_type (q : Option Addr) (qc : Nat) (l : List Val) (c : Val) (w : World) (hr : RowV w q l) (hl : l.length ≤ 1048576) :
    Calls Tryz.prog 175 #[.agg #[.slice q l.length qc, .int .i64 c.k, .int .i64 c.n, .string c.t], .int .i64 9] w fun e w' => e = .returned (.bool (l.any (oneT 9 c))) ∧ Below w.heap.size w w' := by
  have X0 := Box4.start w (.slice q l.length qc) (.int .i64 c.k) (.int .i64 c.n) (.string c.t) 206
  have e9 : oneT 9 c = fun v => decide (v.k = c.n) := by funext v; simp [oneT]
  rw [e9]
  have HI : Hid (Calls _ _ _ _ _) := some_kind q l.length qc c q qc l (fun v => decide (v.k = c.n)) c.k c.n c.t (w.alloc (.cells #[.slice q l.length qc, .int .i64 c.k, .int .i64 c.n, .string c.t] 206)) (fun v hv W hW => isOfKind_any q l.length qc c v W) (hr.next X0.bel) hl
  have hmf := mk_func
  clear hr e9
  go_enter Tryz.func175, Tryz.ntmps175
  go_wp2_with fail
  refine HI.out.mono ?_
  rintro e w1 ⟨rfl, hb⟩
  have hbw := (X0.step hb).bel
  clear HI hb
  go_wp2_with fail
  go_ret
  exact ⟨rfl, hbw⟩

set_option maxRecDepth 4000 in
set_option maxHeartbeats 1000000 in
theorem value_lets (op : Int) (hop : op = 1 ∨ op = 2 ∨ op = 7 ∨ op = 10) (q : Option Addr) (qc : Nat) (l : List Val) (c : Val) (w : World) (hc : okB c = true) (h7 : op = 7 → c.k = 4) (hall : ∀ v ∈ l, okB v = true) (hr : RowV w q l) (hl : l.length ≤ 1048576) :
    Calls Tryz.prog 178 #[.agg #[.slice q l.length qc, .int .i64 c.k, .int .i64 c.n, .string c.t], .int .i64 op] w fun e w' => e = .returned (.bool (l.any (oneT op c) != decide (op = 2))) ∧ Below w.heap.size w w' := by
  have X0 := Box4.start w (.slice q l.length qc) (.int .i64 c.k) (.int .i64 c.n) (.string c.t) 209
  have hr0 := hr.next X0.bel
  have hmf := mk_func
  rcases hop with rfl | rfl | rfl | rfl
  · have e1 : oneT 1 c = fun v => decide (v = c) := by funext v; simp [oneT]
    rw [e1]
    have HI : Hid (Calls _ _ _ _ _) := some_wanted q l.length qc c q qc l (fun v => decide (v = c)) c.k c.n c.t (w.alloc (.cells #[.slice q l.length qc, .int .i64 c.k, .int .i64 c.n, .string c.t] 209)) (fun v hv W hW => isWanted_any q l.length qc c v W) hr0 hl
    obtain ⟨R, hR⟩ : ∃ R, R = l.any (fun v => decide (v = c)) := ⟨_, rfl⟩
    rw [← hR] at HI ⊢
    clear hr hr0 e1 hall h7 hc hR
    go_enter Tryz.func178, Tryz.ntmps178
    go_wp2_with fail
    refine HI.out.mono ?_
    rintro e w1 ⟨rfl, hb⟩
    have hbw := (X0.step hb).bel
    clear HI hb
    go_wp2_with fail
    go_ret
    exact ⟨ret_bool (by simp), hbw⟩
  · have e1 : oneT 2 c = fun v => decide (v = c) := by funext v; simp [oneT]
    rw [e1]
    have HI : Hid (Calls _ _ _ _ _) := some_wanted q l.length qc c q qc l (fun v => decide (v = c)) c.k c.n c.t (w.alloc (.cells #[.slice q l.length qc, .int .i64 c.k, .int .i64 c.n, .string c.t] 209)) (fun v hv W hW => isWanted_any q l.length qc c v W) hr0 hl
    obtain ⟨R, hR⟩ : ∃ R, R = l.any (fun v => decide (v = c)) := ⟨_, rfl⟩
    rw [← hR] at HI ⊢
    clear hr hr0 e1 hall h7 hc hR
    go_enter Tryz.func178, Tryz.ntmps178
    go_wp2_with fail
    refine HI.out.mono ?_
    rintro e w1 ⟨rfl, hb⟩
    have hbw := (X0.step hb).bel
    clear HI hb
    go_wp2_with fail
    go_ret
    exact ⟨ret_bool (by simp), hbw⟩
  · have e1 : oneT 7 c = fun v => (itms c).any (fun u => decide (u = v)) := by funext v; simp [oneT]
    rw [e1]
    have HI : Hid (Calls _ _ _ _ _) := some_item q l.length qc c q qc l (fun v => (itms c).any (fun u => decide (u = v))) c.k c.n c.t (w.alloc (.cells #[.slice q l.length qc, .int .i64 c.k, .int .i64 c.n, .string c.t] 209)) (fun v hv W hW => isItem_any q l.length qc c v W hc (h7 rfl)) hr0 hl
    obtain ⟨R, hR⟩ : ∃ R, R = l.any (fun v => (itms c).any (fun u => decide (u = v))) := ⟨_, rfl⟩
    rw [← hR] at HI ⊢
    clear hr hr0 e1 hall h7 hc hR
    go_enter Tryz.func178, Tryz.ntmps178
    go_wp2_with fail
    refine HI.out.mono ?_
    rintro e w1 ⟨rfl, hb⟩
    have hbw := (X0.step hb).bel
    clear HI hb
    go_wp2_with fail
    go_ret
    exact ⟨ret_bool (by simp), hbw⟩
  · have e1 : oneT 10 c = fun v => decide (v.k = 4) && decide (((itms v).length : Int) = c.n) := by funext v; simp [oneT]
    rw [e1]
    have HI : Hid (Calls _ _ _ _ _) := some_size q l.length qc c q qc l (fun v => decide (v.k = 4) && decide (((itms v).length : Int) = c.n)) c.k c.n c.t (w.alloc (.cells #[.slice q l.length qc, .int .i64 c.k, .int .i64 c.n, .string c.t] 209)) (fun v hv W hW => isOfSize_any q l.length qc c v W (hall v hv)) hr0 hl
    obtain ⟨R, hR⟩ : ∃ R, R = l.any (fun v => decide (v.k = 4) && decide (((itms v).length : Int) = c.n)) := ⟨_, rfl⟩
    rw [← hR] at HI ⊢
    clear hr hr0 e1 hall h7 hc hR
    go_enter Tryz.func178, Tryz.ntmps178
    go_wp2_with fail
    refine HI.out.mono ?_
    rintro e w1 ⟨rfl, hb⟩
    have hbw := (X0.step hb).bel
    clear HI hb
    go_wp2_with fail
    go_ret
    exact ⟨ret_bool (by simp), hbw⟩

set_option maxRecDepth 4000 in
set_option maxHeartbeats 2000000 in
theorem orderOne_any (op : Int) (hop : op = 3 ∨ op = 4 ∨ op = 5 ∨ op = 6) (c v : Val) (b1 b2 : Nat) (w : World) (hc : okB c = true) (hv : okB v = true) (l1 : b1 < w.heap.size) (l2 : b2 < w.heap.size)
    (c1 : w.cell? ⟨b1, 1, none⟩ = some (.int .i64 c.k)) (c2 : w.cell? ⟨b1, 2, none⟩ = some (.int .i64 c.n)) (c3 : w.cell? ⟨b1, 3, none⟩ = some (.string c.t)) (d0 : w.cell? ⟨b2, 0, none⟩ = some (.int .i64 op)) :
    Calls Tryz.prog 193 #[.agg #[.int .i64 v.k, .int .i64 v.n, .string v.t], .pointer (some ⟨b1, 0, none⟩), .pointer (some ⟨b2, 0, none⟩)] w fun e w' => e = .returned (.bool (oneT op c v)) ∧ Below w.heap.size w w' := by
  have X0 := Boxed.start w (.int .i64 v.k) (.int .i64 v.n) (.string v.t) 82
  have hsc := ok_size c hc
  have hsv := ok_size v hv
  obtain ⟨W0, hW0⟩ : ∃ W0, W0 = w.alloc (.cells #[.int .i64 v.k, .int .i64 v.n, .string v.t] 82) := ⟨_, rfl⟩
  rw [← hW0] at X0
  have k1 : b1 < W0.heap.size := Nat.lt_of_lt_of_le l1 X0.bel.size
  have k2 : b2 < W0.heap.size := Nat.lt_of_lt_of_le l2 X0.bel.size
  have q1 : ∀ u : Under W0, u.x.cell? ⟨b1, 1, none⟩ = some (.int .i64 c.k) := fun u => (u.h.cell k1).trans ((X0.bel.cell l1).trans c1)
  have q2 : ∀ u : Under W0, u.x.cell? ⟨b1, 2, none⟩ = some (.int .i64 c.n) := fun u => (u.h.cell k1).trans ((X0.bel.cell l1).trans c2)
  have q3 : ∀ u : Under W0, u.x.cell? ⟨b1, 3, none⟩ = some (.string c.t) := fun u => (u.h.cell k1).trans ((X0.bel.cell l1).trans c3)
  have q4 : ∀ u : Under W0, u.x.cell? ⟨b2, 0, none⟩ = some (.int .i64 op) := fun u => (u.h.cell k2).trans ((X0.bel.cell l2).trans d0)
  have r0 : ∀ u : Under W0, u.x.cell? ⟨w.heap.size, 0, none⟩ = some (.int .i64 v.k) := fun u => (u.h.cell X0.lt).trans X0.c0
  have r1 : ∀ u : Under W0, u.x.cell? ⟨w.heap.size, 1, none⟩ = some (.int .i64 v.n) := fun u => (u.h.cell X0.lt).trans X0.c1
  have r2 : ∀ u : Under W0, u.x.cell? ⟨w.heap.size, 2, none⟩ = some (.string v.t) := fun u => (u.h.cell X0.lt).trans X0.c2
  have hnu : Nonempty (Under W0) := ⟨⟨W0, Below.refl _ _⟩⟩
  have HCV : Hid (∀ W : World, Calls _ _ _ W _) := fun W => compare_at 5 v c W (by omega) (by omega) hv hc
  have HCF : Hid (∀ W : World, Calls _ _ _ W _) := fun W => orderFits_any op (ordV 5 v c) W hop
  have hone := oneT_ord op c v hop
  have hbw0 := X0.bel
  clear c1 c2 c3 d0 hc hv hop
  by_cases hk : v.k = c.k
  · have ek : (v.k == c.k) = true := by simp [hk]
    rw [decide_eq_true hk, Bool.true_and] at hone
    rw [hone]
    clear hone hk X0
    go_enter Tryz.func193, Tryz.ntmps193
    go_wp2_with fail
    rw [← hW0]
    clear hW0
    refine wp_region_under (by kernel_rfl) (by kernel_rfl) ?_
    repeat (go_big_quiet_step ((first | (go_at_call 195; exact calls_under _ (HCV.out _)) | (go_at_call 194; exact calls_under _ (HCF.out _)))))
    refine wpQuiet_nil ?_
    rintro _ ⟨u, rfl⟩
    have hbu := hbw0.trans (u.h.mono hbw0.size)
    go_wp2_with fail
    go_ret
    exact ⟨rfl, hbu⟩
  · have ek : (v.k == c.k) = false := beq_eq_false_iff_ne.mpr hk
    rw [decide_eq_false hk, Bool.false_and] at hone
    rw [hone]
    clear hone hk X0
    go_enter Tryz.func193, Tryz.ntmps193
    go_wp2_with fail
    rw [← hW0]
    clear hW0
    refine wp_region_under (by kernel_rfl) (by kernel_rfl) ?_
    repeat (go_big_quiet_step (fail))
    refine wpQuiet_nil ?_
    rintro _ ⟨u, rfl⟩
    have hbu := hbw0.trans (u.h.mono hbw0.size)
    go_wp2_with fail
    go_ret
    exact ⟨rfl, hbu⟩

set_option maxRecDepth 4000 in
set_option maxHeartbeats 1000000 in
theorem order_lets (op : Int) (hop : op = 3 ∨ op = 4 ∨ op = 5 ∨ op = 6) (q : Option Addr) (qc : Nat) (l : List Val) (c : Val) (w : World) (hc : okB c = true) (hall : ∀ v ∈ l, okB v = true) (hr : RowV w q l) (hl : l.length ≤ 1048576) :
    Calls Tryz.prog 177 #[.agg #[.slice q l.length qc, .int .i64 c.k, .int .i64 c.n, .string c.t], .int .i64 op] w fun e w' => e = .returned (.bool (l.any (oneT op c) != decide (op = 2))) ∧ Below w.heap.size w w' := by
  have X0 := (Box4.start w (.slice q l.length qc) (.int .i64 c.k) (.int .i64 c.n) (.string c.t) 208).step ((Below.refl _ _).alloc (Nat.le_refl _) (.cells #[.int .i64 op] 3))
  have hr0 := hr.next X0.bel
  have hmf := mk_func
  have h2 : decide (op = 2) = false := decide_eq_false (by omega)
  rw [h2]
  have hd : ((w.alloc (.cells #[.slice q l.length qc, .int .i64 c.k, .int .i64 c.n, .string c.t] 208)).alloc (.cells #[.int .i64 op] 3)).cell? ⟨w.heap.size + 1, 0, none⟩ = some (.int .i64 op) := by simp [go_sem]
  have hlt : w.heap.size + 1 < ((w.alloc (.cells #[.slice q l.length qc, .int .i64 c.k, .int .i64 c.n, .string c.t] 208)).alloc (.cells #[.int .i64 op] 3)).heap.size := by simp
  have HI : Hid (Calls _ _ _ _ _) := some_ord w.heap.size (w.heap.size + 1) q qc l (oneT op c) c.k c.n c.t ((w.alloc (.cells #[.slice q l.length qc, .int .i64 c.k, .int .i64 c.n, .string c.t] 208)).alloc (.cells #[.int .i64 op] 3)) (fun v hv W hW => orderOne_any op hop c v w.heap.size (w.heap.size + 1) W hc (hall v hv) (Nat.lt_of_lt_of_le X0.lt hW.size) (Nat.lt_of_lt_of_le hlt hW.size) ((hW.cell X0.lt).trans X0.c1) ((hW.cell X0.lt).trans X0.c2) ((hW.cell X0.lt).trans X0.c3) ((hW.cell hlt).trans hd)) hr0 hl
  obtain ⟨R, hR⟩ : ∃ R, R = l.any (oneT op c) := ⟨_, rfl⟩
  rw [← hR] at HI ⊢
  clear hr hr0 hall hc hR hd hop
  go_enter Tryz.func177, Tryz.ntmps177
  go_wp2_with fail
  refine HI.out.mono ?_
  rintro e w1 ⟨rfl, hb⟩
  have hbw := (X0.step hb).bel
  clear HI hb
  go_wp2_with fail
  go_ret
  exact ⟨ret_bool (by simp), hbw⟩

end Go.Proofs.YtcggkeleaepebaaGreatDoor

/- What the program's trial of a document by a term answers, for every right term and document. -/
namespace Go.Proofs.YtcggkeleaepebaaGreatDoor
open Go.RowKit
set_option linter.unusedVariables false

/-- Some block holds four cells. -/
structure Lies4 (U : World) (b : Nat) (x y z t : Value) : Prop where
  lt : b < U.heap.size
  c0 : U.cell? ⟨b, 0, none⟩ = some x
  c1 : U.cell? ⟨b, 1, none⟩ = some y
  c2 : U.cell? ⟨b, 2, none⟩ = some z
  c3 : U.cell? ⟨b, 3, none⟩ = some t
theorem alloc_lt (w : World) (o : Obj) : w.heap.size < (w.alloc o).heap.size := by simp
theorem blk4 {W w1 : World} {a b c d : Value} {T : TypeId} (h : Below (W.alloc (.cells #[a, b, c, d] T)).heap.size (W.alloc (.cells #[a, b, c, d] T)) w1) :
    w1.cell? ⟨W.heap.size, 0, none⟩ = some a ∧ w1.cell? ⟨W.heap.size, 1, none⟩ = some b ∧ w1.cell? ⟨W.heap.size, 2, none⟩ = some c ∧ w1.cell? ⟨W.heap.size, 3, none⟩ = some d ∧ w1.frozen? ⟨W.heap.size, 0, none⟩ = false ∧ w1.frozen? ⟨W.heap.size, 1, none⟩ = false ∧ w1.frozen? ⟨W.heap.size, 2, none⟩ = false ∧ w1.frozen? ⟨W.heap.size, 3, none⟩ = false ∧ W.heap.size < w1.heap.size :=
  have hl := alloc_lt W (.cells #[a, b, c, d] T)
  ⟨(h.cell hl).trans (by simp [go_sem]), (h.cell hl).trans (by simp [go_sem]), (h.cell hl).trans (by simp [go_sem]), (h.cell hl).trans (by simp [go_sem]), (h.frozen hl).trans (by simp [go_sem]), (h.frozen hl).trans (by simp [go_sem]), (h.frozen hl).trans (by simp [go_sem]), (h.frozen hl).trans (by simp [go_sem]), Nat.lt_of_lt_of_le hl h.size⟩
theorem blk4d {W w1 : World} {a b c d : Value} {T : TypeId} (h : Below (W.drew.alloc (.cells #[a, b, c, d] T)).heap.size (W.drew.alloc (.cells #[a, b, c, d] T)) w1) :
    w1.cell? ⟨W.heap.size, 0, none⟩ = some a ∧ w1.cell? ⟨W.heap.size, 1, none⟩ = some b ∧ w1.cell? ⟨W.heap.size, 2, none⟩ = some c ∧ w1.cell? ⟨W.heap.size, 3, none⟩ = some d ∧ w1.frozen? ⟨W.heap.size, 0, none⟩ = false ∧ w1.frozen? ⟨W.heap.size, 1, none⟩ = false ∧ w1.frozen? ⟨W.heap.size, 2, none⟩ = false ∧ w1.frozen? ⟨W.heap.size, 3, none⟩ = false ∧ W.heap.size < w1.heap.size := blk4 (W := W.drew) h
theorem keepT {w W0 U : World} {a b c d e x y z : Value} (X : B53 w W0 a b c d e x y z) (hb : Below W0.heap.size W0 U) :
    U.cell? ⟨w.heap.size, 1, none⟩ = some b ∧ U.cell? ⟨w.heap.size, 2, none⟩ = some c ∧ U.cell? ⟨w.heap.size, 3, none⟩ = some d ∧ U.cell? ⟨w.heap.size, 4, none⟩ = some e ∧ U.cell? ⟨w.heap.size + 1, 0, none⟩ = some x ∧ U.cell? ⟨w.heap.size + 1, 1, none⟩ = some y ∧ U.cell? ⟨w.heap.size + 1, 2, none⟩ = some z :=
  have Y := X.step hb
  ⟨Y.c1, Y.c2, Y.c3, Y.c4, Y.d0, Y.d1, Y.d2⟩
theorem grown_setT {w : World} {g o : Nat} {v : Value} : w.grownBy (w.setCell ⟨g, o, none⟩ v) (some g) := by
  refine ⟨rfl, rfl, rfl, by simp [World.setCell], ?_⟩
  intro k hk hne
  have : g ≠ k := fun e => hne (by rw [e])
  simp [World.setCell, Array.getElem?_modify, this]
theorem grown_set4 {w : World} {g : Nat} {a b c d : Value} : w.grownBy ((((w.setCell ⟨g, 0, none⟩ a).setCell ⟨g, 1, none⟩ b).setCell ⟨g, 2, none⟩ c).setCell ⟨g, 3, none⟩ d) (some g) :=
  ((grown_setT.trans grown_setT).trans grown_setT).trans grown_setT
theorem RowV.far {w U : World} {q s : Option Addr} {l : List Val} {tb n c : Nat} (h : RowV w q l) (ht : w.cell? ⟨tb, 0, none⟩ = some (.slice s n c)) (hg : w.grownBy U (some tb)) : RowV U q l := by
  rcases h with h | ⟨g, hp, R⟩
  · exact .inl h
  · cases l with
    | nil => exact .inl rfl
    | cons v l =>
      refine .inr ⟨g, hp, R.grown hg (fun e => ?_)⟩
      injection e with e
      have := (R.cells 0 (by simp)).1
      rw [Nat.zero_mul, e, ht] at this
      cases this
theorem keepR {U V : World} {b a0 : Nat} {x y z t o : Value} (Y : Lies4 U b x y z t) (hl : a0 < U.heap.size) (h0 : U.cell? ⟨a0, 0, none⟩ = some o) (hb : Below U.heap.size U V) :
    V.cell? ⟨b, 0, none⟩ = some x ∧ V.cell? ⟨b, 1, none⟩ = some y ∧ V.cell? ⟨b, 2, none⟩ = some z ∧ V.cell? ⟨b, 3, none⟩ = some t ∧ V.cell? ⟨a0, 0, none⟩ = some o :=
  ⟨(hb.cell Y.lt).trans Y.c0, (hb.cell Y.lt).trans Y.c1, (hb.cell Y.lt).trans Y.c2, (hb.cell Y.lt).trans Y.c3, (hb.cell hl).trans h0⟩
theorem RowV.below {w w' : World} {p : Option Addr} {l : List Val} (h : RowV w p l) (hb : Below w.heap.size w w') : RowV w' p l := h.next hb

set_option maxRecDepth 8000 in
set_option maxHeartbeats 4000000 in
theorem termLets_any (op : Int) (p : ByteArray) (c doc : Val) (w : World) (hp : p.size ≤ 300) (hop : 1 ≤ op ∧ op ≤ 10) (h7 : op = 7 → c.k = 4) (hc : okB c = true) (hd : okB doc = true) :
    Calls Tryz.prog 161 #[.agg #[.int .i64 op, .string p, .int .i64 c.k, .int .i64 c.n, .string c.t], .agg #[.int .i64 doc.k, .int .i64 doc.n, .string doc.t]] w fun e w' => e = .returned (.bool (termL op p c doc)) ∧ Below w.heap.size w w' := by
  have X0 := B53.start w (.int .i64 op) (.string p) (.int .i64 c.k) (.int .i64 c.n) (.string c.t) (.int .i64 doc.k) (.int .i64 doc.n) (.string doc.t) 144 82
  have hgl := getP_len (pieces p) doc
  have hsd := ok_size doc hd
  have hpl := pieces_len_le p
  have hLO := getP_ok (pieces p) doc hd
  have HCM : Hid (ComeAt (pieces p)) := come_at (pieces p) (by omega)
  have HDO : Hid (okB doc = true) := hd
  have HSD : Hid (doc.t.size ≤ 300) := hsd
  have hps : p.size ≤ 1048576 := by omega
  have HPS : Hid (p.size ≤ 1048576) := hps
  clear hps
  unfold termL
  obtain ⟨L, hL⟩ : ∃ L, L = getP (pieces p) doc := ⟨_, rfl⟩
  rw [← hL] at hgl hLO ⊢
  obtain ⟨RR, hRR⟩ : ∃ RR, RR = letsT op c L := ⟨_, rfl⟩
  rw [← hRR]
  have HRR : Hid _ := hRR
  clear hRR
  have HL : Hid _ := hL
  have HC : Hid (okB c = true) := hc
  have H7 : Hid _ := h7
  have HLO : Hid _ := hLO
  clear hc hd hL h7 hLO
  go_enter Tryz.func161, Tryz.ntmps161
  go_wp2_with fail
  generalize (w.alloc (.cells #[.int .i64 op, .string p, .int .i64 c.k, .int .i64 c.n, .string c.t] 144)).alloc (.cells #[.int .i64 doc.k, .int .i64 doc.n, .string doc.t] 82) = W0 at X0 ⊢
  have a1 := X0.c1
  have a2 := X0.c2
  have a3 := X0.c3
  have a4 := X0.c4
  have b0 := X0.d0
  have b1 := X0.d1
  have b2 := X0.d2
  have hlt0 := X0.lt
  have hz0 := X0.bel.size
  go_cut [5] (fun s5 wx => ∃ (b : Nat) (q : Option Addr) (qc : Nat), s5 = .pointer (some ⟨b, 0, none⟩) ∧ Lies4 wx b (.slice q L.length qc) (.int .i64 c.k) (.int .i64 c.n) (.string c.t) ∧ RowV wx q L ∧ Below W0.heap.size W0 wx)
  case first =>
    have hltw : w.heap.size < W0.heap.size := Nat.lt_of_succ_lt hlt0
    clear hgl hsd hz0 hop
    go_region_held3 (fun w0 => w0.cell? ⟨w.heap.size, 1, none⟩ = some (.string p) ∧ w0.cell? ⟨w.heap.size, 2, none⟩ = some (.int .i64 c.k) ∧ w0.cell? ⟨w.heap.size, 3, none⟩ = some (.int .i64 c.n) ∧ w0.cell? ⟨w.heap.size, 4, none⟩ = some (.string c.t) ∧ w0.cell? ⟨w.heap.size + 1, 0, none⟩ = some (.int .i64 doc.k) ∧ w0.cell? ⟨w.heap.size + 1, 1, none⟩ = some (.int .i64 doc.n) ∧ w0.cell? ⟨w.heap.size + 1, 2, none⟩ = some (.string doc.t)) ((refine keepT X0 ?_; (repeat (first | (with_reducible exact Below.refl _ _) | (with_reducible assumption) | (with_reducible apply below_drewN) | (with_reducible apply Below.drew) | ((with_reducible refine Below.setCell ?_ ?_ _); rotate_left; focus (first | (simp; done) | (simp; omega) | omega)) | ((with_reducible refine Below.alloc ?_ ?_ _); rotate_left; focus (first | (simp; done) | (simp; omega) | omega)))))) (first | (go_at_call 174; refine (namesOfC_any p _ HPS.out).mono ?_; rintro e w1 ⟨⟨g, cap, rfl, hcap, R⟩, hb⟩; have hB1 : Below W0.heap.size W0 w1 := (show Below W0.heap.size W0 _ by (repeat (first | (with_reducible exact Below.refl _ _) | (with_reducible assumption) | (with_reducible apply below_drewN) | (with_reducible apply Below.drew) | ((with_reducible refine Below.setCell ?_ ?_ _); rotate_left; focus (first | (simp; done) | (simp; omega) | omega)) | ((with_reducible refine Below.alloc ?_ ?_ _); rotate_left; focus (first | (simp; done) | (simp; omega) | omega))))).trans (hb.mono (by simp)); have hzb1 := hB1.size; have hn1 := Nat.lt_of_lt_of_le hltw hzb1; have ho1 := Nat.lt_of_lt_of_le hlt0 hzb1; (try have T1 := blk4d (W := W0) hb); (try obtain ⟨t0, t1, t2, t3, s0, s1, s2, s3, s4⟩ := T1); have HR : Hid (ReadS _ _ _ _) := R; clear R hb) | (go_at_call 173; refine (HCM.out 5 doc g 0 cap _ HDO.out HSD.out hcap (HR.out.next (by (repeat (first | (with_reducible exact Below.refl _ _) | (with_reducible assumption) | (with_reducible apply below_drewN) | (with_reducible apply Below.drew) | ((with_reducible refine Below.setCell ?_ ?_ _); rotate_left; focus (first | (simp; done) | (simp; omega) | omega)) | ((with_reducible refine Below.alloc ?_ ?_ _); rotate_left; focus (first | (simp; done) | (simp; omega) | omega))))))).mono ?_; rintro e w2 ⟨hO, hb⟩; rw [← HL.out] at hO; obtain ⟨q, qc, rfl, RV⟩ := hO.row; have hB2 : Below W0.heap.size W0 w2 := hB1.trans ((show Below w1.heap.size w1 w2 from (show Below w1.heap.size w1 _ by (repeat (first | (with_reducible exact Below.refl _ _) | (with_reducible assumption) | (with_reducible apply below_drewN) | (with_reducible apply Below.drew) | ((with_reducible refine Below.setCell ?_ ?_ _); rotate_left; focus (first | (simp; done) | (simp; omega) | omega)) | ((with_reducible refine Below.alloc ?_ ?_ _); rotate_left; focus (first | (simp; done) | (simp; omega) | omega))))).trans (hb.mono (by simp))).mono hB1.size); have hzb2 := hB2.size; have hn2 := Nat.lt_of_lt_of_le hltw hzb2; have ho2 := Nat.lt_of_lt_of_le hlt0 hzb2; (try have T2 := blk4 (W := w1) hb); (try obtain ⟨u0, u1, u2, u3, v0, v1, v2, v3, v4⟩ := T2); (try have q0 := (hb.cell s4).trans t0); (try have q1 := (hb.cell s4).trans t1); (try have q2 := (hb.cell s4).trans t2); (try have q3 := (hb.cell s4).trans t3); (try have q4 := (hb.frozen s4).trans s0); (try have q5 := (hb.frozen s4).trans s1); (try have q6 := (hb.frozen s4).trans s2); (try have q7 := (hb.frozen s4).trans s3); (try have q8 := Nat.lt_of_lt_of_le s4 hb.size); have HRV : Hid (RowV _ _ _) := RV; clear RV hO hb))
    all_goals
      try go_wp2_with fail
      go_meet
      refine ⟨_, q, qc, rfl, ⟨?_, ?_, ?_, ?_, ?_⟩, ?_, ?_⟩
      · simp; try omega
      · simp [go_sem, *]
      · simp [go_sem, *]
      · simp [go_sem, *]
      · simp [go_sem, *]
      · first | (refine HRV.out.next ?_; (repeat (first | (with_reducible exact Below.refl _ _) | (with_reducible assumption) | (with_reducible apply below_drewN) | (with_reducible apply Below.drew) | ((with_reducible refine Below.setCell ?_ ?_ _); rotate_left; focus (first | (simp; done) | (simp; omega) | omega)) | ((with_reducible refine Below.alloc ?_ ?_ _); rotate_left; focus (first | (simp; done) | (simp; omega) | omega)))); done) | (refine RowV.far (s := none) (n := 0) (c := 0) HRV.out ?_ grown_set4; assumption)
      · (repeat (first | (with_reducible exact Below.refl _ _) | (with_reducible assumption) | (with_reducible apply below_drewN) | (with_reducible apply Below.drew) | ((with_reducible refine Below.setCell ?_ ?_ _); rotate_left; focus (first | (simp; done) | (simp; omega) | omega)) | ((with_reducible refine Below.alloc ?_ ?_ _); rotate_left; focus (first | (simp; done) | (simp; omega) | omega))))
  case rest =>
    obtain ⟨b, q, qc, rfl, Y, RV, hbc⟩ := hcut
    have X := X0.step hbc
    have g0 := X.c0
    have hbw := X.bel
    have y0 := Y.c0
    have y1 := Y.c1
    have y2 := Y.c2
    have y3 := Y.c3
    have hyl := Y.lt
    have hxl : w.heap.size < wc.heap.size := Nat.lt_of_succ_lt X.lt
    have HRV : Hid (RowV _ _ _) := RV
    clear RV a1 a2 a3 a4 b0 b1 b2 hlt0 hz0
    by_cases h8 : op = 8
    · subst h8
      go_wp2_with fail
      refine (presence_exists q qc L c _).mono ?_
      rintro e w1 ⟨rfl, hb⟩
      have hbz := hbw.trans (hb.mono hbw.size)
      clear hb
      go_wp2_with fail
      go_ret
      exact ⟨ret_bool (by rw [HRR.out]; unfold letsT; rw [if_pos rfl]; simp), hbz⟩
    have hRo : RR = ((heldT op L).any (oneT op c) != decide (op = 2)) := by rw [HRR.out]; unfold letsT; rw [if_neg h8]
    clear HRR
    by_cases h9 : op = 9
    · subst h9
      have h92 : decide ((9 : Int) = 2) = false := by decide
      have hM : heldT 9 L = L := by unfold heldT; by_cases h : L = [] <;> simp [h]
      rw [hM, h92] at hRo
      have HRO : Hid _ := hRo
      clear hM h92 hRo
      go_wp2_with fail
      refine (presence_type q qc L c _ HRV.out (by omega)).mono ?_
      rintro e w1 ⟨rfl, hb⟩
      have hbz := hbw.trans (hb.mono hbw.size)
      clear hb
      go_wp2_with fail
      go_ret
      exact ⟨ret_bool (by rw [HRO.out]; simp), hbz⟩
    have hMO := heldT_ok op L HLO.out
    rw [heldT_Z op L h9] at hMO hRo
    have hMl : (withZ L).length ≤ 1048576 := by unfold withZ; split; (simp); omega
    have HMO : Hid _ := hMO
    have e8 : (op == 8) = false := beq_eq_false_iff_ne.mpr h8
    have e9 : (op == 9) = false := beq_eq_false_iff_ne.mpr h9
    clear hMO
    by_cases ho : op = 3 ∨ op = 4 ∨ op = 5 ∨ op = 6
    · have HOL : Hid (∀ (q' : Option Addr) (qc' : Nat) (W : World), RowV W q' (withZ L) → Calls _ _ _ W _) := fun q' qc' W hW => order_lets op ho q' qc' (withZ L) c W HC.out HMO.out hW hMl
      rw [← hRo] at HOL
      clear hRo
      rcases ho with rfl | rfl | rfl | rfl
      · go_wp2_with fail
        go_region_held3 (fun w0 => w0.cell? ⟨b, 0, none⟩ = some (.slice q L.length qc) ∧ w0.cell? ⟨b, 1, none⟩ = some (.int .i64 c.k) ∧ w0.cell? ⟨b, 2, none⟩ = some (.int .i64 c.n) ∧ w0.cell? ⟨b, 3, none⟩ = some (.string c.t) ∧ w0.cell? ⟨w.heap.size, 0, none⟩ = some (.int .i64 3)) ((refine keepR Y hxl g0 ?_; (repeat (first | (with_reducible exact Below.refl _ _) | (with_reducible assumption) | (with_reducible apply below_drewN) | (with_reducible apply Below.drew) | ((with_reducible refine Below.setCell ?_ ?_ _); rotate_left; focus (first | (simp; done) | (simp; omega) | omega)) | ((with_reducible refine Below.alloc ?_ ?_ _); rotate_left; focus (first | (simp; done) | (simp; omega) | omega)))))) (first | (go_at_call 176; refine (withNull_any q qc L c _ (HRV.out.next (by (repeat (first | (with_reducible exact Below.refl _ _) | (with_reducible assumption) | (with_reducible apply below_drewN) | (with_reducible apply Below.drew) | ((with_reducible refine Below.setCell ?_ ?_ _); rotate_left; focus (first | (simp; done) | (simp; omega) | omega)) | ((with_reducible refine Below.alloc ?_ ?_ _); rotate_left; focus (first | (simp; done) | (simp; omega) | omega))))))).mono ?_; rintro e w1 ⟨⟨q', qc', rfl, RV'⟩, hb⟩; have HRV' : Hid (RowV _ _ _) := RV'; have hB1 : Below wc.heap.size wc w1 := (show Below wc.heap.size wc _ by (repeat (first | (with_reducible exact Below.refl _ _) | (with_reducible assumption) | (with_reducible apply below_drewN) | (with_reducible apply Below.drew) | ((with_reducible refine Below.setCell ?_ ?_ _); rotate_left; focus (first | (simp; done) | (simp; omega) | omega)) | ((with_reducible refine Below.alloc ?_ ?_ _); rotate_left; focus (first | (simp; done) | (simp; omega) | omega))))).trans (hb.mono (by simp)); have hzb1 := hB1.size; clear RV' hb) | (go_at_call 177; refine (HOL.out q' qc' _ HRV'.out).mono ?_; rintro e w2 ⟨rfl, hb⟩; have hB2 := hB1.trans (hb.mono hB1.size); have hzb2 := hB2.size; clear hb))
        all_goals
          have hbz := hbw.trans (hB2.mono hbw.size)
          go_wp2_with fail
          go_ret
          exact ⟨rfl, hbz⟩
      · go_wp2_with fail
        go_region_held3 (fun w0 => w0.cell? ⟨b, 0, none⟩ = some (.slice q L.length qc) ∧ w0.cell? ⟨b, 1, none⟩ = some (.int .i64 c.k) ∧ w0.cell? ⟨b, 2, none⟩ = some (.int .i64 c.n) ∧ w0.cell? ⟨b, 3, none⟩ = some (.string c.t) ∧ w0.cell? ⟨w.heap.size, 0, none⟩ = some (.int .i64 4)) ((refine keepR Y hxl g0 ?_; (repeat (first | (with_reducible exact Below.refl _ _) | (with_reducible assumption) | (with_reducible apply below_drewN) | (with_reducible apply Below.drew) | ((with_reducible refine Below.setCell ?_ ?_ _); rotate_left; focus (first | (simp; done) | (simp; omega) | omega)) | ((with_reducible refine Below.alloc ?_ ?_ _); rotate_left; focus (first | (simp; done) | (simp; omega) | omega)))))) (first | (go_at_call 176; refine (withNull_any q qc L c _ (HRV.out.next (by (repeat (first | (with_reducible exact Below.refl _ _) | (with_reducible assumption) | (with_reducible apply below_drewN) | (with_reducible apply Below.drew) | ((with_reducible refine Below.setCell ?_ ?_ _); rotate_left; focus (first | (simp; done) | (simp; omega) | omega)) | ((with_reducible refine Below.alloc ?_ ?_ _); rotate_left; focus (first | (simp; done) | (simp; omega) | omega))))))).mono ?_; rintro e w1 ⟨⟨q', qc', rfl, RV'⟩, hb⟩; have HRV' : Hid (RowV _ _ _) := RV'; have hB1 : Below wc.heap.size wc w1 := (show Below wc.heap.size wc _ by (repeat (first | (with_reducible exact Below.refl _ _) | (with_reducible assumption) | (with_reducible apply below_drewN) | (with_reducible apply Below.drew) | ((with_reducible refine Below.setCell ?_ ?_ _); rotate_left; focus (first | (simp; done) | (simp; omega) | omega)) | ((with_reducible refine Below.alloc ?_ ?_ _); rotate_left; focus (first | (simp; done) | (simp; omega) | omega))))).trans (hb.mono (by simp)); have hzb1 := hB1.size; clear RV' hb) | (go_at_call 177; refine (HOL.out q' qc' _ HRV'.out).mono ?_; rintro e w2 ⟨rfl, hb⟩; have hB2 := hB1.trans (hb.mono hB1.size); have hzb2 := hB2.size; clear hb))
        all_goals
          have hbz := hbw.trans (hB2.mono hbw.size)
          go_wp2_with fail
          go_ret
          exact ⟨rfl, hbz⟩
      · go_wp2_with fail
        go_region_held3 (fun w0 => w0.cell? ⟨b, 0, none⟩ = some (.slice q L.length qc) ∧ w0.cell? ⟨b, 1, none⟩ = some (.int .i64 c.k) ∧ w0.cell? ⟨b, 2, none⟩ = some (.int .i64 c.n) ∧ w0.cell? ⟨b, 3, none⟩ = some (.string c.t) ∧ w0.cell? ⟨w.heap.size, 0, none⟩ = some (.int .i64 5)) ((refine keepR Y hxl g0 ?_; (repeat (first | (with_reducible exact Below.refl _ _) | (with_reducible assumption) | (with_reducible apply below_drewN) | (with_reducible apply Below.drew) | ((with_reducible refine Below.setCell ?_ ?_ _); rotate_left; focus (first | (simp; done) | (simp; omega) | omega)) | ((with_reducible refine Below.alloc ?_ ?_ _); rotate_left; focus (first | (simp; done) | (simp; omega) | omega)))))) (first | (go_at_call 176; refine (withNull_any q qc L c _ (HRV.out.next (by (repeat (first | (with_reducible exact Below.refl _ _) | (with_reducible assumption) | (with_reducible apply below_drewN) | (with_reducible apply Below.drew) | ((with_reducible refine Below.setCell ?_ ?_ _); rotate_left; focus (first | (simp; done) | (simp; omega) | omega)) | ((with_reducible refine Below.alloc ?_ ?_ _); rotate_left; focus (first | (simp; done) | (simp; omega) | omega))))))).mono ?_; rintro e w1 ⟨⟨q', qc', rfl, RV'⟩, hb⟩; have HRV' : Hid (RowV _ _ _) := RV'; have hB1 : Below wc.heap.size wc w1 := (show Below wc.heap.size wc _ by (repeat (first | (with_reducible exact Below.refl _ _) | (with_reducible assumption) | (with_reducible apply below_drewN) | (with_reducible apply Below.drew) | ((with_reducible refine Below.setCell ?_ ?_ _); rotate_left; focus (first | (simp; done) | (simp; omega) | omega)) | ((with_reducible refine Below.alloc ?_ ?_ _); rotate_left; focus (first | (simp; done) | (simp; omega) | omega))))).trans (hb.mono (by simp)); have hzb1 := hB1.size; clear RV' hb) | (go_at_call 177; refine (HOL.out q' qc' _ HRV'.out).mono ?_; rintro e w2 ⟨rfl, hb⟩; have hB2 := hB1.trans (hb.mono hB1.size); have hzb2 := hB2.size; clear hb))
        all_goals
          have hbz := hbw.trans (hB2.mono hbw.size)
          go_wp2_with fail
          go_ret
          exact ⟨rfl, hbz⟩
      · go_wp2_with fail
        go_region_held3 (fun w0 => w0.cell? ⟨b, 0, none⟩ = some (.slice q L.length qc) ∧ w0.cell? ⟨b, 1, none⟩ = some (.int .i64 c.k) ∧ w0.cell? ⟨b, 2, none⟩ = some (.int .i64 c.n) ∧ w0.cell? ⟨b, 3, none⟩ = some (.string c.t) ∧ w0.cell? ⟨w.heap.size, 0, none⟩ = some (.int .i64 6)) ((refine keepR Y hxl g0 ?_; (repeat (first | (with_reducible exact Below.refl _ _) | (with_reducible assumption) | (with_reducible apply below_drewN) | (with_reducible apply Below.drew) | ((with_reducible refine Below.setCell ?_ ?_ _); rotate_left; focus (first | (simp; done) | (simp; omega) | omega)) | ((with_reducible refine Below.alloc ?_ ?_ _); rotate_left; focus (first | (simp; done) | (simp; omega) | omega)))))) (first | (go_at_call 176; refine (withNull_any q qc L c _ (HRV.out.next (by (repeat (first | (with_reducible exact Below.refl _ _) | (with_reducible assumption) | (with_reducible apply below_drewN) | (with_reducible apply Below.drew) | ((with_reducible refine Below.setCell ?_ ?_ _); rotate_left; focus (first | (simp; done) | (simp; omega) | omega)) | ((with_reducible refine Below.alloc ?_ ?_ _); rotate_left; focus (first | (simp; done) | (simp; omega) | omega))))))).mono ?_; rintro e w1 ⟨⟨q', qc', rfl, RV'⟩, hb⟩; have HRV' : Hid (RowV _ _ _) := RV'; have hB1 : Below wc.heap.size wc w1 := (show Below wc.heap.size wc _ by (repeat (first | (with_reducible exact Below.refl _ _) | (with_reducible assumption) | (with_reducible apply below_drewN) | (with_reducible apply Below.drew) | ((with_reducible refine Below.setCell ?_ ?_ _); rotate_left; focus (first | (simp; done) | (simp; omega) | omega)) | ((with_reducible refine Below.alloc ?_ ?_ _); rotate_left; focus (first | (simp; done) | (simp; omega) | omega))))).trans (hb.mono (by simp)); have hzb1 := hB1.size; clear RV' hb) | (go_at_call 177; refine (HOL.out q' qc' _ HRV'.out).mono ?_; rintro e w2 ⟨rfl, hb⟩; have hB2 := hB1.trans (hb.mono hB1.size); have hzb2 := hB2.size; clear hb))
        all_goals
          have hbz := hbw.trans (hB2.mono hbw.size)
          go_wp2_with fail
          go_ret
          exact ⟨rfl, hbz⟩
    · have hov : op = 1 ∨ op = 2 ∨ op = 7 ∨ op = 10 := by omega
      have HOL : Hid (∀ (q' : Option Addr) (qc' : Nat) (W : World), RowV W q' (withZ L) → Calls _ _ _ W _) := fun q' qc' W hW => value_lets op hov q' qc' (withZ L) c W HC.out H7.out HMO.out hW hMl
      rw [← hRo] at HOL
      clear hRo
      rcases hov with rfl | rfl | rfl | rfl
      · go_wp2_with fail
        go_region_held3 (fun w0 => w0.cell? ⟨b, 0, none⟩ = some (.slice q L.length qc) ∧ w0.cell? ⟨b, 1, none⟩ = some (.int .i64 c.k) ∧ w0.cell? ⟨b, 2, none⟩ = some (.int .i64 c.n) ∧ w0.cell? ⟨b, 3, none⟩ = some (.string c.t) ∧ w0.cell? ⟨w.heap.size, 0, none⟩ = some (.int .i64 1)) ((refine keepR Y hxl g0 ?_; (repeat (first | (with_reducible exact Below.refl _ _) | (with_reducible assumption) | (with_reducible apply below_drewN) | (with_reducible apply Below.drew) | ((with_reducible refine Below.setCell ?_ ?_ _); rotate_left; focus (first | (simp; done) | (simp; omega) | omega)) | ((with_reducible refine Below.alloc ?_ ?_ _); rotate_left; focus (first | (simp; done) | (simp; omega) | omega)))))) (first | (go_at_call 176; refine (withNull_any q qc L c _ (HRV.out.next (by (repeat (first | (with_reducible exact Below.refl _ _) | (with_reducible assumption) | (with_reducible apply below_drewN) | (with_reducible apply Below.drew) | ((with_reducible refine Below.setCell ?_ ?_ _); rotate_left; focus (first | (simp; done) | (simp; omega) | omega)) | ((with_reducible refine Below.alloc ?_ ?_ _); rotate_left; focus (first | (simp; done) | (simp; omega) | omega))))))).mono ?_; rintro e w1 ⟨⟨q', qc', rfl, RV'⟩, hb⟩; have HRV' : Hid (RowV _ _ _) := RV'; have hB1 : Below wc.heap.size wc w1 := (show Below wc.heap.size wc _ by (repeat (first | (with_reducible exact Below.refl _ _) | (with_reducible assumption) | (with_reducible apply below_drewN) | (with_reducible apply Below.drew) | ((with_reducible refine Below.setCell ?_ ?_ _); rotate_left; focus (first | (simp; done) | (simp; omega) | omega)) | ((with_reducible refine Below.alloc ?_ ?_ _); rotate_left; focus (first | (simp; done) | (simp; omega) | omega))))).trans (hb.mono (by simp)); have hzb1 := hB1.size; clear RV' hb) | (go_at_call 178; refine (HOL.out q' qc' _ HRV'.out).mono ?_; rintro e w2 ⟨rfl, hb⟩; have hB2 := hB1.trans (hb.mono hB1.size); have hzb2 := hB2.size; clear hb))
        all_goals
          have hbz := hbw.trans (hB2.mono hbw.size)
          go_wp2_with fail
          go_ret
          exact ⟨rfl, hbz⟩
      · go_wp2_with fail
        go_region_held3 (fun w0 => w0.cell? ⟨b, 0, none⟩ = some (.slice q L.length qc) ∧ w0.cell? ⟨b, 1, none⟩ = some (.int .i64 c.k) ∧ w0.cell? ⟨b, 2, none⟩ = some (.int .i64 c.n) ∧ w0.cell? ⟨b, 3, none⟩ = some (.string c.t) ∧ w0.cell? ⟨w.heap.size, 0, none⟩ = some (.int .i64 2)) ((refine keepR Y hxl g0 ?_; (repeat (first | (with_reducible exact Below.refl _ _) | (with_reducible assumption) | (with_reducible apply below_drewN) | (with_reducible apply Below.drew) | ((with_reducible refine Below.setCell ?_ ?_ _); rotate_left; focus (first | (simp; done) | (simp; omega) | omega)) | ((with_reducible refine Below.alloc ?_ ?_ _); rotate_left; focus (first | (simp; done) | (simp; omega) | omega)))))) (first | (go_at_call 176; refine (withNull_any q qc L c _ (HRV.out.next (by (repeat (first | (with_reducible exact Below.refl _ _) | (with_reducible assumption) | (with_reducible apply below_drewN) | (with_reducible apply Below.drew) | ((with_reducible refine Below.setCell ?_ ?_ _); rotate_left; focus (first | (simp; done) | (simp; omega) | omega)) | ((with_reducible refine Below.alloc ?_ ?_ _); rotate_left; focus (first | (simp; done) | (simp; omega) | omega))))))).mono ?_; rintro e w1 ⟨⟨q', qc', rfl, RV'⟩, hb⟩; have HRV' : Hid (RowV _ _ _) := RV'; have hB1 : Below wc.heap.size wc w1 := (show Below wc.heap.size wc _ by (repeat (first | (with_reducible exact Below.refl _ _) | (with_reducible assumption) | (with_reducible apply below_drewN) | (with_reducible apply Below.drew) | ((with_reducible refine Below.setCell ?_ ?_ _); rotate_left; focus (first | (simp; done) | (simp; omega) | omega)) | ((with_reducible refine Below.alloc ?_ ?_ _); rotate_left; focus (first | (simp; done) | (simp; omega) | omega))))).trans (hb.mono (by simp)); have hzb1 := hB1.size; clear RV' hb) | (go_at_call 178; refine (HOL.out q' qc' _ HRV'.out).mono ?_; rintro e w2 ⟨rfl, hb⟩; have hB2 := hB1.trans (hb.mono hB1.size); have hzb2 := hB2.size; clear hb))
        all_goals
          have hbz := hbw.trans (hB2.mono hbw.size)
          go_wp2_with fail
          go_ret
          exact ⟨rfl, hbz⟩
      · go_wp2_with fail
        go_region_held3 (fun w0 => w0.cell? ⟨b, 0, none⟩ = some (.slice q L.length qc) ∧ w0.cell? ⟨b, 1, none⟩ = some (.int .i64 c.k) ∧ w0.cell? ⟨b, 2, none⟩ = some (.int .i64 c.n) ∧ w0.cell? ⟨b, 3, none⟩ = some (.string c.t) ∧ w0.cell? ⟨w.heap.size, 0, none⟩ = some (.int .i64 7)) ((refine keepR Y hxl g0 ?_; (repeat (first | (with_reducible exact Below.refl _ _) | (with_reducible assumption) | (with_reducible apply below_drewN) | (with_reducible apply Below.drew) | ((with_reducible refine Below.setCell ?_ ?_ _); rotate_left; focus (first | (simp; done) | (simp; omega) | omega)) | ((with_reducible refine Below.alloc ?_ ?_ _); rotate_left; focus (first | (simp; done) | (simp; omega) | omega)))))) (first | (go_at_call 176; refine (withNull_any q qc L c _ (HRV.out.next (by (repeat (first | (with_reducible exact Below.refl _ _) | (with_reducible assumption) | (with_reducible apply below_drewN) | (with_reducible apply Below.drew) | ((with_reducible refine Below.setCell ?_ ?_ _); rotate_left; focus (first | (simp; done) | (simp; omega) | omega)) | ((with_reducible refine Below.alloc ?_ ?_ _); rotate_left; focus (first | (simp; done) | (simp; omega) | omega))))))).mono ?_; rintro e w1 ⟨⟨q', qc', rfl, RV'⟩, hb⟩; have HRV' : Hid (RowV _ _ _) := RV'; have hB1 : Below wc.heap.size wc w1 := (show Below wc.heap.size wc _ by (repeat (first | (with_reducible exact Below.refl _ _) | (with_reducible assumption) | (with_reducible apply below_drewN) | (with_reducible apply Below.drew) | ((with_reducible refine Below.setCell ?_ ?_ _); rotate_left; focus (first | (simp; done) | (simp; omega) | omega)) | ((with_reducible refine Below.alloc ?_ ?_ _); rotate_left; focus (first | (simp; done) | (simp; omega) | omega))))).trans (hb.mono (by simp)); have hzb1 := hB1.size; clear RV' hb) | (go_at_call 178; refine (HOL.out q' qc' _ HRV'.out).mono ?_; rintro e w2 ⟨rfl, hb⟩; have hB2 := hB1.trans (hb.mono hB1.size); have hzb2 := hB2.size; clear hb))
        all_goals
          have hbz := hbw.trans (hB2.mono hbw.size)
          go_wp2_with fail
          go_ret
          exact ⟨rfl, hbz⟩
      · go_wp2_with fail
        go_region_held3 (fun w0 => w0.cell? ⟨b, 0, none⟩ = some (.slice q L.length qc) ∧ w0.cell? ⟨b, 1, none⟩ = some (.int .i64 c.k) ∧ w0.cell? ⟨b, 2, none⟩ = some (.int .i64 c.n) ∧ w0.cell? ⟨b, 3, none⟩ = some (.string c.t) ∧ w0.cell? ⟨w.heap.size, 0, none⟩ = some (.int .i64 10)) ((refine keepR Y hxl g0 ?_; (repeat (first | (with_reducible exact Below.refl _ _) | (with_reducible assumption) | (with_reducible apply below_drewN) | (with_reducible apply Below.drew) | ((with_reducible refine Below.setCell ?_ ?_ _); rotate_left; focus (first | (simp; done) | (simp; omega) | omega)) | ((with_reducible refine Below.alloc ?_ ?_ _); rotate_left; focus (first | (simp; done) | (simp; omega) | omega)))))) (first | (go_at_call 176; refine (withNull_any q qc L c _ (HRV.out.next (by (repeat (first | (with_reducible exact Below.refl _ _) | (with_reducible assumption) | (with_reducible apply below_drewN) | (with_reducible apply Below.drew) | ((with_reducible refine Below.setCell ?_ ?_ _); rotate_left; focus (first | (simp; done) | (simp; omega) | omega)) | ((with_reducible refine Below.alloc ?_ ?_ _); rotate_left; focus (first | (simp; done) | (simp; omega) | omega))))))).mono ?_; rintro e w1 ⟨⟨q', qc', rfl, RV'⟩, hb⟩; have HRV' : Hid (RowV _ _ _) := RV'; have hB1 : Below wc.heap.size wc w1 := (show Below wc.heap.size wc _ by (repeat (first | (with_reducible exact Below.refl _ _) | (with_reducible assumption) | (with_reducible apply below_drewN) | (with_reducible apply Below.drew) | ((with_reducible refine Below.setCell ?_ ?_ _); rotate_left; focus (first | (simp; done) | (simp; omega) | omega)) | ((with_reducible refine Below.alloc ?_ ?_ _); rotate_left; focus (first | (simp; done) | (simp; omega) | omega))))).trans (hb.mono (by simp)); have hzb1 := hB1.size; clear RV' hb) | (go_at_call 178; refine (HOL.out q' qc' _ HRV'.out).mono ?_; rintro e w2 ⟨rfl, hb⟩; have hB2 := hB1.trans (hb.mono hB1.size); have hzb2 := hB2.size; clear hb))
        all_goals
          have hbz := hbw.trans (hB2.mono hbw.size)
          go_wp2_with fail
          go_ret
          exact ⟨rfl, hbz⟩

end Go.Proofs.YtcggkeleaepebaaGreatDoor

/- What the specification's trial of a document by a term answers. -/
namespace Go.Proofs.YtcggkeleaepebaaGreatDoor
open Go.RowKit
set_option linter.unusedVariables false

theorem lets_exists (c : Val) (L : List Val) : letsT 8 c L = (decide (0 < (L.length : Int)) == (c.n == 1)) := by
  unfold letsT; rw [if_pos rfl]; congr 1
theorem op_two (op : Int) : (op == 2) = decide (op = 2) := by rw [Bool.eq_iff_iff]; simp

set_option maxRecDepth 4000 in
set_option maxHeartbeats 1000000 in
theorem l02Values_any (v : Val) (p : ByteArray) (w : World) (hv : okB v = true) (hp : p.size ≤ 300) :
    Calls Tryz.prog 149 #[.agg #[.int .i64 v.k, .int .i64 v.n, .string v.t], .string p] w fun e w' => OutV (getP (pieces p) v) w' e ∧ Below w.heap.size w w' := by
  have X0 := Boxed.start w (.int .i64 v.k) (.int .i64 v.n) (.string v.t) 82
  have hs := ok_size v hv
  have hpl := pieces_len_le p
  have HV : Hid (okB v = true) := hv
  clear hv
  go_enter Tryz.func149, Tryz.ntmps149
  go_wp2_with fail
  go_region_with (first | (go_at_call 146; refine (l00CutC_any p _ (by omega)).mono ?_; rintro e w1 ⟨⟨g, cap, rfl, hcap, R⟩, hb⟩; have X1 := (X0.step (Below.refl _ _).drew).step hb; have HR : Hid (ReadS _ _ _ _) := R; have a0 := X1.c0; have a1 := X1.c1; have a2 := X1.c2; clear R hb) | (go_at_call 165; refine (get_at (pieces p) (by omega) 5 v g 0 cap _ HV.out hs hcap HR.out).mono ?_; rintro e w2 ⟨⟨g2, cap2, rfl, R2⟩, hb2⟩; have hbw := (X1.step hb2).bel; have HR2 : Hid (ReadV _ _ _) := R2; clear R2 hb2))
  all_goals
    go_wp2_with fail
    go_ret
    exact ⟨OutV.mk g2 cap2 rfl HR2.out, hbw⟩

set_option maxRecDepth 8000 in
set_option maxHeartbeats 4000000 in
theorem l03Term_any (op : Int) (p : ByteArray) (c doc : Val) (w : World) (hp : p.size ≤ 300) (hop : 1 ≤ op ∧ op ≤ 10) (h7 : op = 7 → c.k = 4) (hc : okB c = true) (hd : okB doc = true) :
    Calls Tryz.prog 132 #[.agg #[.int .i64 op, .string p, .int .i64 c.k, .int .i64 c.n, .string c.t], .agg #[.int .i64 doc.k, .int .i64 doc.n, .string doc.t]] w fun e w' => e = .returned (.bool (termL op p c doc)) ∧ Below w.heap.size w w' := by
  have X0 := B53.start w (.int .i64 op) (.string p) (.int .i64 c.k) (.int .i64 c.n) (.string c.t) (.int .i64 doc.k) (.int .i64 doc.n) (.string doc.t) 144 82
  have hgl := getP_len (pieces p) doc
  have hsd := ok_size doc hd
  have hLO := getP_ok (pieces p) doc hd
  have HV0 : Hid (∀ W : World, Calls _ _ _ W _) := fun W => l02Values_any doc p W hd hp
  unfold termL
  obtain ⟨L, hL⟩ : ∃ L, L = getP (pieces p) doc := ⟨_, rfl⟩
  rw [← hL] at hgl hLO HV0 ⊢
  obtain ⟨RR, hRR⟩ : ∃ RR, RR = letsT op c L := ⟨_, rfl⟩
  rw [← hRR]
  have HRR : Hid _ := hRR
  clear hRR
  have HC : Hid (okB c = true) := hc
  have H7 : Hid _ := h7
  have HLO : Hid _ := hLO
  clear hc hd hL h7 hLO
  go_enter Tryz.func132, Tryz.ntmps132
  go_wp2_with fail
  refine (HV0.out _).mono ?_
  rintro e w1 ⟨⟨g1, cap1, rfl, R1⟩, hb⟩
  have X1 := X0.step hb
  have a0 := X1.c0
  have a3 := X1.c3
  have hbw1 := X1.bel
  have HR1 : Hid (ReadV _ _ _) := R1
  clear hb X0 R1
  by_cases h8 : op = 8
  · subst h8
    go_wp2_with fail
    go_ret
    exact ⟨ret_bool (by rw [HRR.out, lets_exists]; simp), hbw1⟩
  have e8 : (op == 8) = false := beq_eq_false_iff_ne.mpr h8
  have hRo : RR = ((heldT op L).any (oneT op c) != decide (op = 2)) := by rw [HRR.out]; unfold letsT; rw [if_neg h8]
  clear HRR
  obtain ⟨M, hM⟩ : ∃ M, M = heldT op L := ⟨_, rfl⟩
  have hMO := heldT_ok op L HLO.out
  rw [← hM] at hMO hRo
  have HMO : Hid _ := hMO
  have HR : Hid _ := hRo
  have HOP : Hid (1 ≤ op ∧ op ≤ 10 ∧ op ≠ 8) := ⟨hop.1, hop.2, h8⟩
  unfold heldT at hM
  clear hRo hMO h8 hop
  by_cases hB : L = [] ∧ op ≠ 9
  · rw [if_pos hB.1, if_neg hB.2] at hM
    have hl0 : ((L.length : Int) == 0) = true := by rw [hB.1]; rfl
    have e9 : (op == 9) = false := beq_eq_false_iff_ne.mpr hB.2
    have e9' : (op != 9) = true := by simp [hB.2]
    have hMl : M.length = 1 := by rw [hM]; rfl
    have hRZ : ReadV (w1.alloc (.cells #[.int .i64 0, .int .i64 0, .string em] 82)) w1.heap.size M := by
      rw [hM]; exact ReadV.of_own (l := [⟨0, 0, em⟩]) (owns_one w1 ⟨0, 0, em⟩ (base := w1.heap.size) (Nat.le_refl _))
    have XM := X1.step ((Below.refl _ _).alloc (Nat.le_refl _) (.cells #[.int .i64 0, .int .i64 0, .string em] 82))
    have HRM : Hid (ReadV _ _ _) := hRZ
    clear HR1 hM hB hRZ X1
    go_wp2_with fail
    obtain ⟨gM, hgM⟩ : ∃ gM, gM = w1.heap.size := ⟨_, rfl⟩
    rw [← hgM] at HRM ⊢
    clear hgM
    generalize w1.alloc (.cells #[.int .i64 0, .int .i64 0, .string em] 82) = Wm at XM HRM ⊢
    go_loopw [6, 7] (fun s i wr => ∃ k : Nat, k ≤ 1 ∧ i = .int .i64 k ∧ s = .bool ((M.take k).any (oneT op c)) ∧ Below Wm.heap.size Wm wr) (fun _ i _ => 1 - (intOf i).toNat)
    case atStart => exact ⟨0, Nat.zero_le _, rfl, by simp, Below.refl _ _⟩
    case round =>
      obtain ⟨k, hk, rfl, rfl, hbel⟩ := hrel
      have Y := XM.step hbel
      have hlY : w.heap.size < wr.heap.size := Nat.lt_of_succ_lt Y.lt
      by_cases hlt : k < M.length
      · obtain rfl : k = 0 := by omega
        have RR := HRM.out.next hbel
        obtain ⟨x0, x1, x2⟩ := RR.cells 0 hlt
        simp only [Nat.zero_mul, Nat.zero_add] at x0 x1 x2
        have hgr := RR.lt
        have hlt2 : ((0 : Nat) : Int) < ((1 : Nat) : Int) := by omega
        have q0 : ∀ u : Under wr, u.x.cell? ⟨w.heap.size, 0, none⟩ = some (.int .i64 op) := fun u => (u.h.cell hlY).trans Y.c0
        have q1 : ∀ u : Under wr, u.x.cell? ⟨w.heap.size, 1, none⟩ = some (.string p) := fun u => (u.h.cell hlY).trans Y.c1
        have q2 : ∀ u : Under wr, u.x.cell? ⟨w.heap.size, 2, none⟩ = some (.int .i64 c.k) := fun u => (u.h.cell hlY).trans Y.c2
        have q3 : ∀ u : Under wr, u.x.cell? ⟨w.heap.size, 3, none⟩ = some (.int .i64 c.n) := fun u => (u.h.cell hlY).trans Y.c3
        have q4 : ∀ u : Under wr, u.x.cell? ⟨w.heap.size, 4, none⟩ = some (.string c.t) := fun u => (u.h.cell hlY).trans Y.c4
        have y0 : ∀ u : Under wr, u.x.cell? ⟨gM, 0, none⟩ = some (.int .i64 M[0].k) := fun u => (u.h.cell hgr).trans x0
        have y1 : ∀ u : Under wr, u.x.cell? ⟨gM, 1, none⟩ = some (.int .i64 M[0].n) := fun u => (u.h.cell hgr).trans x1
        have y2 : ∀ u : Under wr, u.x.cell? ⟨gM, 2, none⟩ = some (.string M[0].t) := fun u => (u.h.cell hgr).trans x2
        have hnu : Nonempty (Under wr) := ⟨⟨wr, Below.refl _ _⟩⟩
        have HC1 : Hid (∀ W : World, Calls _ _ _ W _) := fun W => l03One_any op p c M[0] W HOP.out H7.out HC.out (HMO.out M[0] (List.getElem_mem _))
        have hsucc : (M.take (0 + 1)).any (oneT op c) = ((M.take 0).any (oneT op c) || oneT op c M[0]) := by rw [List.take_succ_eq_append_getElem hlt, List.any_append]; simp
        obtain ⟨S, hS⟩ : ∃ S, S = (M.take 0).any (oneT op c) := ⟨_, rfl⟩
        obtain ⟨O, hO⟩ : ∃ O, O = oneT op c M[0] := ⟨_, rfl⟩
        rw [← hS, ← hO] at hsucc
        rw [← hS]
        rw [← hO] at HC1
        have HSU : Hid _ := hsucc
        clear hsucc hS hO RR x0 x1 x2
        cases S
        · go_wp2_with fail
          refine wp_region_under (by kernel_rfl) (by kernel_rfl) ?_
          repeat (go_big_quiet_step ((go_at_call 150; exact calls_under _ (HC1.out _))))
          refine wpQuiet_nil ?_
          rintro _ ⟨u, rfl⟩
          have hbu := hbel.trans (u.h.mono hbel.size)
          clear q0 q1 q2 q3 q4 y0 y1 y2 hnu
          go_wp2_with fail
          go_roundw
          case rel => exact ⟨0 + 1, by omega, by go_num, by rw [HSU.out]; simp, hbu⟩
          case measure => simp [intOf] <;> omega
        · go_wp2_with fail
          refine wp_region_under (by kernel_rfl) (by kernel_rfl) ?_
          repeat (go_big_quiet_step (fail))
          refine wpQuiet_nil ?_
          rintro _ ⟨u, rfl⟩
          have hbu := hbel.trans (u.h.mono hbel.size)
          clear q0 q1 q2 q3 q4 y0 y1 y2 hnu
          go_wp2_with fail
          go_roundw
          case rel => exact ⟨0 + 1, by omega, by go_num, by rw [HSU.out]; simp, hbu⟩
          case measure => simp [intOf] <;> omega
      · have hlt2 : ¬ (k : Int) < ((1 : Nat) : Int) := by omega
        have z0 := Y.c0
        have hbw := Y.bel
        have e : M.take k = M := List.take_of_length_le (by omega)
        rw [e]
        obtain ⟨S, hS⟩ : ∃ S, S = M.any (oneT op c) := ⟨_, rfl⟩
        rw [← hS]
        have hRo := HR.out
        rw [← hS] at hRo
        have HRO : Hid _ := hRo
        clear hRo HR hS Y
        go_wp2_with fail
        go_ret
        exact ⟨ret_bool (by rw [HRO.out, ← op_two]; generalize (op == 2) = b; cases S <;> cases b <;> rfl), hbw⟩
  · have hM' : M = L := by
      rw [hM]
      by_cases hL0 : L = []
      · rw [if_pos hL0, if_pos (by rcases Decidable.em (op = 9) with h | h; exact h; exact absurd ⟨hL0, h⟩ hB), hL0]
      · rw [if_neg hL0]
    clear hM
    subst hM'
    have HRM : Hid (ReadV _ _ _) := HR1.out
    obtain ⟨Wm, hWm⟩ : ∃ Wm, Wm = w1 := ⟨_, rfl⟩
    subst hWm
    obtain ⟨gM, hgM⟩ : ∃ gM, gM = g1 := ⟨_, rfl⟩
    subst hgM
    have XM := X1
    clear HR1 X1
    by_cases hL0 : M = []
    · have e9 : (op == 9) = true := by rcases Decidable.em (op = 9) with h | h; simp [h]; exact absurd ⟨hL0, h⟩ hB
      have e9' : (op != 9) = false := by rcases Decidable.em (op = 9) with h | h; simp [h]; exact absurd ⟨hL0, h⟩ hB
      have hl0 : ((M.length : Int) == 0) = true := by rw [hL0]; rfl
      clear hB hL0
      go_wp2_with fail
      go_loopw [6, 7] (fun s i wr => ∃ k : Nat, k ≤ M.length ∧ i = .int .i64 k ∧ s = .bool ((M.take k).any (oneT op c)) ∧ Below Wm.heap.size Wm wr) (fun _ i _ => M.length - (intOf i).toNat)
      case atStart => exact ⟨0, Nat.zero_le _, rfl, by simp, Below.refl _ _⟩
      case round =>
        obtain ⟨k, hk, rfl, rfl, hbel⟩ := hrel
        have Y := XM.step hbel
        have hlY : w.heap.size < wr.heap.size := Nat.lt_of_succ_lt Y.lt
        by_cases hlt : k < M.length
        · have RR := HRM.out.next hbel
          obtain ⟨x0, x1, x2⟩ := RR.cells k hlt
          have hgr := RR.lt
          have hlt2 : (k : Int) < ((M.length : Nat) : Int) := by omega
          have q0 : ∀ u : Under wr, u.x.cell? ⟨w.heap.size, 0, none⟩ = some (.int .i64 op) := fun u => (u.h.cell hlY).trans Y.c0
          have q1 : ∀ u : Under wr, u.x.cell? ⟨w.heap.size, 1, none⟩ = some (.string p) := fun u => (u.h.cell hlY).trans Y.c1
          have q2 : ∀ u : Under wr, u.x.cell? ⟨w.heap.size, 2, none⟩ = some (.int .i64 c.k) := fun u => (u.h.cell hlY).trans Y.c2
          have q3 : ∀ u : Under wr, u.x.cell? ⟨w.heap.size, 3, none⟩ = some (.int .i64 c.n) := fun u => (u.h.cell hlY).trans Y.c3
          have q4 : ∀ u : Under wr, u.x.cell? ⟨w.heap.size, 4, none⟩ = some (.string c.t) := fun u => (u.h.cell hlY).trans Y.c4
          have y0 : ∀ u : Under wr, u.x.cell? ⟨gM, k * 3, none⟩ = some (.int .i64 M[k].k) := fun u => (u.h.cell hgr).trans x0
          have y1 : ∀ u : Under wr, u.x.cell? ⟨gM, k * 3 + 1, none⟩ = some (.int .i64 M[k].n) := fun u => (u.h.cell hgr).trans x1
          have y2 : ∀ u : Under wr, u.x.cell? ⟨gM, k * 3 + 2, none⟩ = some (.string M[k].t) := fun u => (u.h.cell hgr).trans x2
          have hnu : Nonempty (Under wr) := ⟨⟨wr, Below.refl _ _⟩⟩
          have HC1 : Hid (∀ W : World, Calls _ _ _ W _) := fun W => l03One_any op p c M[k] W HOP.out H7.out HC.out (HMO.out M[k] (List.getElem_mem _))
          have hsucc : (M.take (k + 1)).any (oneT op c) = ((M.take k).any (oneT op c) || oneT op c M[k]) := by rw [List.take_succ_eq_append_getElem hlt, List.any_append]; simp
          obtain ⟨S, hS⟩ : ∃ S, S = (M.take k).any (oneT op c) := ⟨_, rfl⟩
          obtain ⟨O, hO⟩ : ∃ O, O = oneT op c M[k] := ⟨_, rfl⟩
          rw [← hS, ← hO] at hsucc
          rw [← hS]
          rw [← hO] at HC1
          have HSU : Hid _ := hsucc
          clear hsucc hS hO RR x0 x1 x2
          cases S
          · go_wp2_with fail
            refine wp_region_under (by kernel_rfl) (by kernel_rfl) ?_
            repeat (go_big_quiet_step ((go_at_call 150; exact calls_under _ (HC1.out _))))
            refine wpQuiet_nil ?_
            rintro _ ⟨u, rfl⟩
            have hbu := hbel.trans (u.h.mono hbel.size)
            clear q0 q1 q2 q3 q4 y0 y1 y2 hnu
            go_wp2_with fail
            go_roundw
            case rel => exact ⟨k + 1, by omega, by go_num, by rw [HSU.out]; simp, hbu⟩
            case measure => simp [intOf] <;> omega
          · go_wp2_with fail
            refine wp_region_under (by kernel_rfl) (by kernel_rfl) ?_
            repeat (go_big_quiet_step (fail))
            refine wpQuiet_nil ?_
            rintro _ ⟨u, rfl⟩
            have hbu := hbel.trans (u.h.mono hbel.size)
            clear q0 q1 q2 q3 q4 y0 y1 y2 hnu
            go_wp2_with fail
            go_roundw
            case rel => exact ⟨k + 1, by omega, by go_num, by rw [HSU.out]; simp, hbu⟩
            case measure => simp [intOf] <;> omega
        · have hlt2 : ¬ (k : Int) < ((M.length : Nat) : Int) := by omega
          have z0 := Y.c0
          have hbw := Y.bel
          have e : M.take k = M := List.take_of_length_le (by omega)
          rw [e]
          obtain ⟨S, hS⟩ : ∃ S, S = M.any (oneT op c) := ⟨_, rfl⟩
          rw [← hS]
          have hRo := HR.out
          rw [← hS] at hRo
          have HRO : Hid _ := hRo
          clear hRo HR hS Y
          go_wp2_with fail
          go_ret
          exact ⟨ret_bool (by rw [HRO.out, ← op_two]; generalize (op == 2) = b; cases S <;> cases b <;> rfl), hbw⟩
    · have hl0 : ((M.length : Int) == 0) = false := beq_eq_false_iff_ne.mpr (fun e => hL0 (List.eq_nil_of_length_eq_zero (by omega)))
      clear hB hL0
      go_wp2_with fail
      go_loopw [6, 7] (fun s i wr => ∃ k : Nat, k ≤ M.length ∧ i = .int .i64 k ∧ s = .bool ((M.take k).any (oneT op c)) ∧ Below Wm.heap.size Wm wr) (fun _ i _ => M.length - (intOf i).toNat)
      case atStart => exact ⟨0, Nat.zero_le _, rfl, by simp, Below.refl _ _⟩
      case round =>
        obtain ⟨k, hk, rfl, rfl, hbel⟩ := hrel
        have Y := XM.step hbel
        have hlY : w.heap.size < wr.heap.size := Nat.lt_of_succ_lt Y.lt
        by_cases hlt : k < M.length
        · have RR := HRM.out.next hbel
          obtain ⟨x0, x1, x2⟩ := RR.cells k hlt
          have hgr := RR.lt
          have hlt2 : (k : Int) < ((M.length : Nat) : Int) := by omega
          have q0 : ∀ u : Under wr, u.x.cell? ⟨w.heap.size, 0, none⟩ = some (.int .i64 op) := fun u => (u.h.cell hlY).trans Y.c0
          have q1 : ∀ u : Under wr, u.x.cell? ⟨w.heap.size, 1, none⟩ = some (.string p) := fun u => (u.h.cell hlY).trans Y.c1
          have q2 : ∀ u : Under wr, u.x.cell? ⟨w.heap.size, 2, none⟩ = some (.int .i64 c.k) := fun u => (u.h.cell hlY).trans Y.c2
          have q3 : ∀ u : Under wr, u.x.cell? ⟨w.heap.size, 3, none⟩ = some (.int .i64 c.n) := fun u => (u.h.cell hlY).trans Y.c3
          have q4 : ∀ u : Under wr, u.x.cell? ⟨w.heap.size, 4, none⟩ = some (.string c.t) := fun u => (u.h.cell hlY).trans Y.c4
          have y0 : ∀ u : Under wr, u.x.cell? ⟨gM, k * 3, none⟩ = some (.int .i64 M[k].k) := fun u => (u.h.cell hgr).trans x0
          have y1 : ∀ u : Under wr, u.x.cell? ⟨gM, k * 3 + 1, none⟩ = some (.int .i64 M[k].n) := fun u => (u.h.cell hgr).trans x1
          have y2 : ∀ u : Under wr, u.x.cell? ⟨gM, k * 3 + 2, none⟩ = some (.string M[k].t) := fun u => (u.h.cell hgr).trans x2
          have hnu : Nonempty (Under wr) := ⟨⟨wr, Below.refl _ _⟩⟩
          have HC1 : Hid (∀ W : World, Calls _ _ _ W _) := fun W => l03One_any op p c M[k] W HOP.out H7.out HC.out (HMO.out M[k] (List.getElem_mem _))
          have hsucc : (M.take (k + 1)).any (oneT op c) = ((M.take k).any (oneT op c) || oneT op c M[k]) := by rw [List.take_succ_eq_append_getElem hlt, List.any_append]; simp
          obtain ⟨S, hS⟩ : ∃ S, S = (M.take k).any (oneT op c) := ⟨_, rfl⟩
          obtain ⟨O, hO⟩ : ∃ O, O = oneT op c M[k] := ⟨_, rfl⟩
          rw [← hS, ← hO] at hsucc
          rw [← hS]
          rw [← hO] at HC1
          have HSU : Hid _ := hsucc
          clear hsucc hS hO RR x0 x1 x2
          cases S
          · go_wp2_with fail
            refine wp_region_under (by kernel_rfl) (by kernel_rfl) ?_
            repeat (go_big_quiet_step ((go_at_call 150; exact calls_under _ (HC1.out _))))
            refine wpQuiet_nil ?_
            rintro _ ⟨u, rfl⟩
            have hbu := hbel.trans (u.h.mono hbel.size)
            clear q0 q1 q2 q3 q4 y0 y1 y2 hnu
            go_wp2_with fail
            go_roundw
            case rel => exact ⟨k + 1, by omega, by go_num, by rw [HSU.out]; simp, hbu⟩
            case measure => simp [intOf] <;> omega
          · go_wp2_with fail
            refine wp_region_under (by kernel_rfl) (by kernel_rfl) ?_
            repeat (go_big_quiet_step (fail))
            refine wpQuiet_nil ?_
            rintro _ ⟨u, rfl⟩
            have hbu := hbel.trans (u.h.mono hbel.size)
            clear q0 q1 q2 q3 q4 y0 y1 y2 hnu
            go_wp2_with fail
            go_roundw
            case rel => exact ⟨k + 1, by omega, by go_num, by rw [HSU.out]; simp, hbu⟩
            case measure => simp [intOf] <;> omega
        · have hlt2 : ¬ (k : Int) < ((M.length : Nat) : Int) := by omega
          have z0 := Y.c0
          have hbw := Y.bel
          have e : M.take k = M := List.take_of_length_le (by omega)
          rw [e]
          obtain ⟨S, hS⟩ : ∃ S, S = M.any (oneT op c) := ⟨_, rfl⟩
          rw [← hS]
          have hRo := HR.out
          rw [← hS] at hRo
          have HRO : Hid _ := hRo
          clear hRo HR hS Y
          go_wp2_with fail
          go_ret
          exact ⟨ret_bool (by rw [HRO.out, ← op_two]; generalize (op == 2) = b; cases S <;> cases b <;> rfl), hbw⟩

end Go.Proofs.YtcggkeleaepebaaGreatDoor

/- What the two functions that hold a document to a term answer, for every term and every value. -/
namespace Go.Proofs.YtcggkeleaepebaaGreatDoor
open Go.RowKit
set_option linter.unusedVariables false

/-- What holding a document to a term comes to. -/
def matchP (op : Int) (p : ByteArray) (c doc : Val) : Bool × Int := if termB op p c = true ∧ docB doc = true then (termL op p c doc, 0) else (false, 1)
theorem termB_parts (op : Int) (p : ByteArray) (c : Val) (h : termB op p c = true) : p.size ≤ 50 ∧ okB c = true ∧ (1 ≤ op ∧ op ≤ 10) ∧ (op = 7 → c.k = 4) := by
  unfold termB at h
  rw [Bool.and_eq_true, Bool.and_eq_true] at h
  obtain ⟨hp, hc, ht⟩ := h
  refine ⟨?_, hc, ?_, ?_⟩
  · rcases Nat.lt_or_ge 50 p.size with h' | h'
    · rw [pathB_long p h'] at hp; cases hp
    · exact h'
  · unfold takesT at ht
    by_cases h1 : 1 ≤ op ∧ op ≤ 10
    · exact h1
    · rw [if_neg (by omega), if_neg (by omega), if_neg (by omega), if_neg (by omega), if_neg (by omega)] at ht; cases ht
  · intro h7
    subst h7
    unfold takesT at ht
    simpa using ht

end Go.Proofs.YtcggkeleaepebaaGreatDoor
