/- What the two functions that ask whether an operation is right answer, for every operation. -/
import Derived.Test.YtbplmgmajmomcaaGreatDoorPathW
import Derived.Test.YtbplmgmajmomcaaGreatDoorLawVal
namespace Go.Proofs.YtbplmgmajmomcaaGreatDoor
open Go.RowKit
set_option linter.unusedVariables false

/-- Block number w.heap.size of W holds five cells, and all that lay in w lies in W as it did. -/
structure Box5 (w W : World) (a b c d e : Value) : Prop where
  bel : Below w.heap.size w W
  lt : w.heap.size < W.heap.size
  c0 : W.cell? ⟨w.heap.size, 0, none⟩ = some a
  c1 : W.cell? ⟨w.heap.size, 1, none⟩ = some b
  c2 : W.cell? ⟨w.heap.size, 2, none⟩ = some c
  c3 : W.cell? ⟨w.heap.size, 3, none⟩ = some d
  c4 : W.cell? ⟨w.heap.size, 4, none⟩ = some e
theorem Box5.start (w : World) (a b c d e : Value) (T : TypeId) : Box5 w (w.alloc (.cells #[a, b, c, d, e] T)) a b c d e :=
  ⟨(Below.refl _ _).alloc (Nat.le_refl _) _, by simp, by simp [go_sem], by simp [go_sem], by simp [go_sem], by simp [go_sem], by simp [go_sem]⟩
theorem Box5.step {w W W' : World} {a b c d e : Value} (h : Box5 w W a b c d e) (hb : Below W.heap.size W W') : Box5 w W' a b c d e :=
  ⟨h.bel.trans (hb.mono h.bel.size), Nat.lt_of_lt_of_le h.lt hb.size, (hb.cell h.lt).trans h.c0, (hb.cell h.lt).trans h.c1, (hb.cell h.lt).trans h.c2, (hb.cell h.lt).trans h.c3, (hb.cell h.lt).trans h.c4⟩

/-- Does an operation take such a kind of value. -/
def takesB (op k : Int) : Bool :=
  if op = 1 then true else if op = 4 then true else if op = 5 then true else if op = 2 then decide (k = 0) else if op = 3 then decide (k = 2) else false
/-- Is an operation right. -/
def updB (op : Int) (p : ByteArray) (v : Val) : Bool := !(p.toList == [105, 100]) && (pathB p && (okB v && takesB op v.k))
theorem okB_null (n : Int) (t : ByteArray) (h : okB ⟨0, n, t⟩ = true) : n = 0 ∧ t = em := by
  have e : okB ⟨0, n, t⟩ = decide (n = 0 ∧ t.size = 0) := by
    unfold okB; rw [fits_base 5 _ (by show (0 : Int) ≠ 4; decide) (by show (0 : Int) ≠ 5; decide)]; rfl
  rw [e, decide_eq_true_eq] at h
  exact ⟨h.1, empty_of t h.2⟩

set_option maxRecDepth 4000 in
set_option maxHeartbeats 1000000 in
theorem updateOK_any (op : Int) (p : ByteArray) (k n : Int) (t : ByteArray) (w : World) (hp : p.size ≤ 1048576) (ht : t.size ≤ 1048576) :
    Calls Tryz.prog 224 #[.agg #[.int .i64 op, .string p, .int .i64 k, .int .i64 n, .string t]] w fun e w' => e = .returned (.bool (updB op p ⟨k, n, t⟩)) ∧ Below w.heap.size w w' := by
  have X0 := Box5.start w (.int .i64 op) (.string p) (.int .i64 k) (.int .i64 n) (.string t) 189
  unfold updB
  cases hid : (p.toList == [105, 100])
  case true =>
    go_enter Tryz.func224, Tryz.ntmps224
    go_wp2_with fail
    go_ret
    exact ⟨rfl, X0.bel⟩
  case false =>
  cases hpb : pathB p
  case false =>
    have HPB : Hid _ := hpb
    clear hpb
    go_enter Tryz.func224, Tryz.ntmps224
    go_wp2_with fail
    refine (pathOK_any p _ hp).mono ?_
    rintro e w1 ⟨rfl, hb⟩
    rw [HPB.out]
    have X1 := X0.step hb
    clear hb X0
    go_wp2_with fail
    go_ret
    exact ⟨rfl, X1.bel⟩
  case true =>
  have HPB : Hid _ := hpb
  clear hpb
  cases hok : okB ⟨k, n, t⟩
  case false =>
    have HOK : Hid _ := hok
    clear hok
    go_enter Tryz.func224, Tryz.ntmps224
    go_wp2_with fail
    refine (pathOK_any p _ hp).mono ?_
    rintro e w1 ⟨rfl, hb⟩
    rw [HPB.out]
    have X1 := X0.step hb
    have c2 := X1.c2
    have c3 := X1.c3
    have c4 := X1.c4
    clear hb X0
    go_wp2_with fail
    refine (valueOK_any k n t _ (by unfold maxLen; omega)).mono ?_
    rintro e w2 ⟨rfl, hb⟩
    rw [HOK.out]
    have X2 := X1.step hb
    clear hb X1
    go_wp2_with fail
    go_ret
    exact ⟨rfl, X2.bel⟩
  case true =>
  have HOK : Hid _ := hok
  clear hok
  unfold takesB
  have hop : op = 1 ∨ op = 2 ∨ op = 3 ∨ op = 4 ∨ op = 5 ∨ (op ≠ 1 ∧ op ≠ 2 ∧ op ≠ 3 ∧ op ≠ 4 ∧ op ≠ 5) := by omega
  obtain ⟨R, hR⟩ : ∃ R, R = (if op = 1 then true else if op = 4 then true else if op = 5 then true else if op = 2 then decide (k = 0) else if op = 3 then decide (k = 2) else false) := ⟨_, rfl⟩
  rw [← hR]
  have HR : Hid _ := hR
  clear hR
  go_enter Tryz.func224, Tryz.ntmps224
  go_wp2_with fail
  refine (pathOK_any p _ hp).mono ?_
  rintro e w1 ⟨rfl, hb⟩
  rw [HPB.out]
  have X1 := X0.step hb
  have c2 := X1.c2
  have c3 := X1.c3
  have c4 := X1.c4
  clear hb X0
  go_wp2_with fail
  refine (valueOK_any k n t _ (by unfold maxLen; omega)).mono ?_
  rintro e w2 ⟨rfl, hb⟩
  rw [HOK.out]
  have X2 := X1.step hb
  have d0 := X2.c0
  have d2 := X2.c2
  clear hb X1 c2 c3 c4
  rcases hop with rfl | rfl | rfl | rfl | rfl | ⟨h1, h2, h3, h4, h5⟩
  · go_wp2_with fail
    go_ret
    exact ⟨ret_bool (by rw [HR.out]; rfl), X2.bel⟩
  · go_wp2_with fail
    go_ret
    exact ⟨ret_bool (by rw [HR.out]; rw [Bool.eq_iff_iff]; simp), X2.bel⟩
  · go_wp2_with fail
    go_ret
    exact ⟨ret_bool (by rw [HR.out]; rw [Bool.eq_iff_iff]; simp), X2.bel⟩
  · go_wp2_with fail
    go_ret
    exact ⟨ret_bool (by rw [HR.out]; rfl), X2.bel⟩
  · go_wp2_with fail
    go_ret
    exact ⟨ret_bool (by rw [HR.out]; rfl), X2.bel⟩
  · have e1 : (op == 1) = false := beq_eq_false_iff_ne.mpr h1
    have e2 : (op == 2) = false := beq_eq_false_iff_ne.mpr h2
    have e3 : (op == 3) = false := beq_eq_false_iff_ne.mpr h3
    have e4 : (op == 4) = false := beq_eq_false_iff_ne.mpr h4
    have e5 : (op == 5) = false := beq_eq_false_iff_ne.mpr h5
    have hz : R = false := by rw [HR.out, if_neg h1, if_neg h4, if_neg h5, if_neg h2, if_neg h3]
    clear HR
    subst hz
    go_wp2_with fail
    go_ret
    exact ⟨rfl, X2.bel⟩

set_option maxRecDepth 4000 in
set_option maxHeartbeats 1000000 in
theorem specUpd_any (op : Int) (p : ByteArray) (k n : Int) (t : ByteArray) (w : World) (hp : p.size ≤ 1048576) (ht : t.size ≤ 1048576) :
    Calls Tryz.prog 108 #[.agg #[.int .i64 op, .string p, .int .i64 k, .int .i64 n, .string t]] w fun e w' => e = .returned (.bool (updB op p ⟨k, n, t⟩)) ∧ Below w.heap.size w w' := by
  have X0 := Box5.start w (.int .i64 op) (.string p) (.int .i64 k) (.int .i64 n) (.string t) 189
  by_cases hop : ¬ (1 ≤ op ∧ op ≤ 5)
  · have hz : updB op p ⟨k, n, t⟩ = false := by
      have : takesB op k = false := by unfold takesB; rw [if_neg (by omega), if_neg (by omega), if_neg (by omega), if_neg (by omega), if_neg (by omega)]
      unfold updB; show (!(p.toList == [105, 100]) && (pathB p && (okB ⟨k, n, t⟩ && takesB op k))) = false
      rw [this]; simp
    rw [hz]
    have hd : decide (1 ≤ op ∧ op ≤ 5) = false := decide_eq_false hop
    have HD : Hid _ := hd
    clear hz hop hd
    go_enter Tryz.func108, Tryz.ntmps108
    go_wp2_with fail
    refine (l01In_any op 1 5 _).mono ?_
    rintro e w1 ⟨rfl, rfl⟩
    rw [HD.out]
    go_wp2_with fail
    go_ret
    exact ⟨rfl, X0.bel⟩
  have hd : decide (1 ≤ op ∧ op ≤ 5) = true := decide_eq_true (by omega)
  have HD : Hid _ := hd
  clear hd
  by_cases hbig : 65536 < p.size
  · have hz : updB op p ⟨k, n, t⟩ = false := by unfold updB; rw [pathB_long p (by omega)]; simp
    rw [hz]
    have hb : (65536 : Int) < (p.size : Int) := by omega
    go_enter Tryz.func108, Tryz.ntmps108
    go_wp2_with fail
    refine (l01In_any op 1 5 _).mono ?_
    rintro e w1 ⟨rfl, rfl⟩
    rw [HD.out]
    go_wp2_with fail
    go_ret
    exact ⟨rfl, X0.bel⟩
  have hsm : ¬ (65536 : Int) < (p.size : Int) := by omega
  cases hpb : pathB p
  · have hz : updB op p ⟨k, n, t⟩ = false := by unfold updB; rw [hpb]; simp
    rw [hz]
    have HPB : Hid _ := hpb
    clear hpb hz
    go_enter Tryz.func108, Tryz.ntmps108
    go_wp2_with fail
    refine (l01In_any op 1 5 _).mono ?_
    rintro e w1 ⟨rfl, rfl⟩
    rw [HD.out]
    go_wp2_with fail
    refine (specPath_any p _ hp).mono ?_
    rintro e w2 ⟨rfl, hb⟩
    rw [HPB.out]
    have X1 := X0.step hb
    clear hb X0
    go_wp2_with fail
    go_ret
    exact ⟨rfl, X1.bel⟩
  have HPB : Hid _ := hpb
  cases hid : (p.toList == [105, 100])
  case true =>
    have hz : updB op p ⟨k, n, t⟩ = false := by unfold updB; rw [hid]; rfl
    rw [hz]
    clear hpb hz
    go_enter Tryz.func108, Tryz.ntmps108
    go_wp2_with fail
    refine (l01In_any op 1 5 _).mono ?_
    rintro e w1 ⟨rfl, rfl⟩
    rw [HD.out]
    go_wp2_with fail
    refine (specPath_any p _ hp).mono ?_
    rintro e w2 ⟨rfl, hb⟩
    rw [HPB.out]
    have X1 := X0.step hb
    have c1 := X1.c1
    clear hb X0
    go_wp2_with fail
    go_ret
    exact ⟨rfl, X1.bel⟩
  case false =>
  cases hok : okB ⟨k, n, t⟩
  · have hz : updB op p ⟨k, n, t⟩ = false := by unfold updB; rw [hok]; simp
    rw [hz]
    have HOK : Hid _ := hok
    clear hpb hz hok
    go_enter Tryz.func108, Tryz.ntmps108
    go_wp2_with fail
    refine (l01In_any op 1 5 _).mono ?_
    rintro e w1 ⟨rfl, rfl⟩
    rw [HD.out]
    go_wp2_with fail
    refine (specPath_any p _ hp).mono ?_
    rintro e w2 ⟨rfl, hb⟩
    rw [HPB.out]
    have X1 := X0.step hb
    have c1 := X1.c1
    have c2 := X1.c2
    have c3 := X1.c3
    have c4 := X1.c4
    clear hb X0
    go_wp2_with fail
    refine (specValueOK_any k n t _ ht).mono ?_
    rintro e w3 ⟨rfl, hb⟩
    rw [HOK.out]
    have X2 := X1.step hb
    clear hb X1
    go_wp2_with fail
    go_ret
    exact ⟨rfl, X2.bel⟩
  have hz : updB op p ⟨k, n, t⟩ = takesB op k := by unfold updB; rw [hid, hpb, hok]; simp
  rw [hz]
  have HOK : Hid _ := hok
  obtain ⟨R, hR⟩ : ∃ R, R = takesB op k := ⟨_, rfl⟩
  rw [← hR]
  have HR : Hid _ := hR
  clear hpb hz hok hR
  go_enter Tryz.func108, Tryz.ntmps108
  go_wp2_with fail
  refine (l01In_any op 1 5 _).mono ?_
  rintro e w1 ⟨rfl, rfl⟩
  rw [HD.out]
  go_wp2_with fail
  refine (specPath_any p _ hp).mono ?_
  rintro e w2 ⟨rfl, hb⟩
  rw [HPB.out]
  have X1 := X0.step hb
  have c1 := X1.c1
  have c2 := X1.c2
  have c3 := X1.c3
  have c4 := X1.c4
  clear hb X0
  go_wp2_with fail
  refine (specValueOK_any k n t _ ht).mono ?_
  rintro e w3 ⟨rfl, hb⟩
  rw [HOK.out]
  have X2 := X1.step hb
  have d0 := X2.c0
  have d2 := X2.c2
  have d3 := X2.c3
  have d4 := X2.c4
  have hz2 := X2.bel.size
  clear hb X1 c1 c2 c3 c4
  have hop2 : op = 1 ∨ op = 2 ∨ op = 3 ∨ op = 4 ∨ op = 5 := by omega
  clear hop
  rcases hop2 with rfl | rfl | rfl | rfl | rfl
  · go_wp2_with fail
    go_ret
    exact ⟨ret_bool (by rw [HR.out]; rfl), X2.bel⟩
  · by_cases hk : k = 0
    · subst hk
      obtain ⟨rfl, rfl⟩ := okB_null n t HOK.out
      go_wp2_with fail
      go_ret
      have hbw := X2.bel
      exact ⟨ret_bool (by rw [HR.out]; rfl), by (repeat (first | (with_reducible exact Below.refl _ _) | (with_reducible assumption) | (with_reducible apply below_drewN) | (with_reducible apply Below.drew) | ((with_reducible refine Below.setCell ?_ ?_ _); rotate_left; focus (first | (simp; done) | (simp; omega) | omega)) | ((with_reducible refine Below.alloc ?_ ?_ _); rotate_left; focus (first | (simp; done) | (simp; omega) | omega))))⟩
    · have hk0 : (k == 0) = false := beq_eq_false_iff_ne.mpr hk
      have hRf : R = false := by rw [HR.out]; unfold takesB; simp [hk]
      clear HR
      subst hRf
      go_wp2_with fail
      go_ret
      have hbw := X2.bel
      exact ⟨ret_bool (by simp), by (repeat (first | (with_reducible exact Below.refl _ _) | (with_reducible assumption) | (with_reducible apply below_drewN) | (with_reducible apply Below.drew) | ((with_reducible refine Below.setCell ?_ ?_ _); rotate_left; focus (first | (simp; done) | (simp; omega) | omega)) | ((with_reducible refine Below.alloc ?_ ?_ _); rotate_left; focus (first | (simp; done) | (simp; omega) | omega))))⟩
  · go_wp2_with fail
    go_ret
    exact ⟨ret_bool (by rw [HR.out]; unfold takesB; rw [Bool.eq_iff_iff]; simp), X2.bel⟩
  · go_wp2_with fail
    go_ret
    exact ⟨ret_bool (by rw [HR.out]; rfl), X2.bel⟩
  · go_wp2_with fail
    go_ret
    exact ⟨ret_bool (by rw [HR.out]; rfl), X2.bel⟩

end Go.Proofs.YtbplmgmajmomcaaGreatDoor
