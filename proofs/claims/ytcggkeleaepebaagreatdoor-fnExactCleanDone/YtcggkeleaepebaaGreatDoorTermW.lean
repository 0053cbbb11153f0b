/- What the two functions that ask whether a term is right answer, for every term. -/
import Derived.Test.YtcggkeleaepebaaGreatDoorUpdW
namespace Go.Proofs.YtcggkeleaepebaaGreatDoor
open Go.RowKit
set_option linter.unusedVariables false

/-- Does a term's operation take such a value. -/
def takesT (op k n : Int) : Bool :=
  if 1 ≤ op ∧ op ≤ 6 then true else if op = 7 then decide (k = 4) else if op = 8 then decide (k = 1) else if op = 9 then decide (k = 2 ∧ 0 ≤ n ∧ n ≤ 5) else if op = 10 then decide (k = 2 ∧ 0 ≤ n) else false
/-- Is a term right. -/
def termB (op : Int) (p : ByteArray) (v : Val) : Bool := pathB p && (okB v && takesT op v.k v.n)

set_option maxRecDepth 4000 in
set_option maxHeartbeats 1000000 in
theorem opTakes_any (op k n : Int) (t : ByteArray) (w : World) :
    Calls Tryz.prog 182 #[.int .i64 op, .agg #[.int .i64 k, .int .i64 n, .string t]] w fun e w' => e = .returned (.bool (takesT op k n)) ∧ Below w.heap.size w w' := by
  have hop : op = 1 ∨ op = 2 ∨ op = 3 ∨ op = 4 ∨ op = 5 ∨ op = 6 ∨ op = 7 ∨ op = 8 ∨ op = 9 ∨ op = 10 ∨ (op < 1 ∨ 10 < op) := by omega
  rcases hop with rfl | rfl | rfl | rfl | rfl | rfl | rfl | rfl | rfl | rfl | hop
  iterate 6
    · go_enter Tryz.func182, Tryz.ntmps182
      go_wp2_with fail
      go_ret
      exact ⟨rfl, by (repeat (first | (with_reducible exact Below.refl _ _) | (with_reducible assumption) | (with_reducible apply below_drewN) | (with_reducible apply Below.drew) | ((with_reducible refine Below.setCell ?_ ?_ _); rotate_left; focus (first | (simp; done) | (simp; omega) | omega)) | ((with_reducible refine Below.alloc ?_ ?_ _); rotate_left; focus (first | (simp; done) | (simp; omega) | omega))))⟩
  · obtain ⟨R, hR⟩ : ∃ R, R = takesT 7 k n := ⟨_, rfl⟩
    rw [← hR]
    have HR : Hid _ := hR
    clear hR
    go_enter Tryz.func182, Tryz.ntmps182
    go_wp2_with fail
    go_ret
    exact ⟨ret_bool (by rw [HR.out]; unfold takesT; rw [Bool.eq_iff_iff]; simp), by (repeat (first | (with_reducible exact Below.refl _ _) | (with_reducible assumption) | (with_reducible apply below_drewN) | (with_reducible apply Below.drew) | ((with_reducible refine Below.setCell ?_ ?_ _); rotate_left; focus (first | (simp; done) | (simp; omega) | omega)) | ((with_reducible refine Below.alloc ?_ ?_ _); rotate_left; focus (first | (simp; done) | (simp; omega) | omega))))⟩
  · obtain ⟨R, hR⟩ : ∃ R, R = takesT 8 k n := ⟨_, rfl⟩
    rw [← hR]
    have HR : Hid _ := hR
    clear hR
    go_enter Tryz.func182, Tryz.ntmps182
    go_wp2_with fail
    go_ret
    exact ⟨ret_bool (by rw [HR.out]; unfold takesT; rw [Bool.eq_iff_iff]; simp), by (repeat (first | (with_reducible exact Below.refl _ _) | (with_reducible assumption) | (with_reducible apply below_drewN) | (with_reducible apply Below.drew) | ((with_reducible refine Below.setCell ?_ ?_ _); rotate_left; focus (first | (simp; done) | (simp; omega) | omega)) | ((with_reducible refine Below.alloc ?_ ?_ _); rotate_left; focus (first | (simp; done) | (simp; omega) | omega))))⟩
  · by_cases hk : k = 2
    · by_cases h0 : 0 ≤ n
      · obtain ⟨R, hR⟩ : ∃ R, R = takesT 9 k n := ⟨_, rfl⟩
        rw [← hR]
        have HR : Hid _ := hR
        clear hR
        subst hk
        have h0' : ¬ n < 0 := by omega
        go_enter Tryz.func182, Tryz.ntmps182
        go_wp2_with fail
        go_ret
        exact ⟨ret_bool (by rw [HR.out]; unfold takesT; rw [Bool.eq_iff_iff]; simp; try omega), by (repeat (first | (with_reducible exact Below.refl _ _) | (with_reducible assumption) | (with_reducible apply below_drewN) | (with_reducible apply Below.drew) | ((with_reducible refine Below.setCell ?_ ?_ _); rotate_left; focus (first | (simp; done) | (simp; omega) | omega)) | ((with_reducible refine Below.alloc ?_ ?_ _); rotate_left; focus (first | (simp; done) | (simp; omega) | omega))))⟩
      · have hz : takesT 9 k n = false := by unfold takesT; simp; omega
        rw [hz]
        subst hk
        clear hz
        go_enter Tryz.func182, Tryz.ntmps182
        go_wp2_with fail
        go_ret
        exact ⟨rfl, by (repeat (first | (with_reducible exact Below.refl _ _) | (with_reducible assumption) | (with_reducible apply below_drewN) | (with_reducible apply Below.drew) | ((with_reducible refine Below.setCell ?_ ?_ _); rotate_left; focus (first | (simp; done) | (simp; omega) | omega)) | ((with_reducible refine Below.alloc ?_ ?_ _); rotate_left; focus (first | (simp; done) | (simp; omega) | omega))))⟩
    · have hz : takesT 9 k n = false := by unfold takesT; simp [hk]
      rw [hz]
      have hk0 : (k == 2) = false := beq_eq_false_iff_ne.mpr hk
      clear hz
      go_enter Tryz.func182, Tryz.ntmps182
      go_wp2_with fail
      go_ret
      exact ⟨rfl, by (repeat (first | (with_reducible exact Below.refl _ _) | (with_reducible assumption) | (with_reducible apply below_drewN) | (with_reducible apply Below.drew) | ((with_reducible refine Below.setCell ?_ ?_ _); rotate_left; focus (first | (simp; done) | (simp; omega) | omega)) | ((with_reducible refine Below.alloc ?_ ?_ _); rotate_left; focus (first | (simp; done) | (simp; omega) | omega))))⟩
  · by_cases hk : k = 2
    · obtain ⟨R, hR⟩ : ∃ R, R = takesT 10 k n := ⟨_, rfl⟩
      rw [← hR]
      have HR : Hid _ := hR
      clear hR
      subst hk
      go_enter Tryz.func182, Tryz.ntmps182
      go_wp2_with fail
      go_ret
      exact ⟨ret_bool (by rw [HR.out]; unfold takesT; rw [Bool.eq_iff_iff]; simp; try omega), by (repeat (first | (with_reducible exact Below.refl _ _) | (with_reducible assumption) | (with_reducible apply below_drewN) | (with_reducible apply Below.drew) | ((with_reducible refine Below.setCell ?_ ?_ _); rotate_left; focus (first | (simp; done) | (simp; omega) | omega)) | ((with_reducible refine Below.alloc ?_ ?_ _); rotate_left; focus (first | (simp; done) | (simp; omega) | omega))))⟩
    · have hz : takesT 10 k n = false := by unfold takesT; simp [hk]
      rw [hz]
      have hk0 : (k == 2) = false := beq_eq_false_iff_ne.mpr hk
      clear hz
      go_enter Tryz.func182, Tryz.ntmps182
      go_wp2_with fail
      go_ret
      exact ⟨rfl, by (repeat (first | (with_reducible exact Below.refl _ _) | (with_reducible assumption) | (with_reducible apply below_drewN) | (with_reducible apply Below.drew) | ((with_reducible refine Below.setCell ?_ ?_ _); rotate_left; focus (first | (simp; done) | (simp; omega) | omega)) | ((with_reducible refine Below.alloc ?_ ?_ _); rotate_left; focus (first | (simp; done) | (simp; omega) | omega))))⟩
  · have hz : takesT op k n = false := by unfold takesT; rw [if_neg (by omega), if_neg (by omega), if_neg (by omega), if_neg (by omega), if_neg (by omega)]
    rw [hz]
    have e1 : (op == 1) = false := beq_eq_false_iff_ne.mpr (by omega)
    have e2 : (op == 2) = false := beq_eq_false_iff_ne.mpr (by omega)
    have e3 : (op == 3) = false := beq_eq_false_iff_ne.mpr (by omega)
    have e4 : (op == 4) = false := beq_eq_false_iff_ne.mpr (by omega)
    have e5 : (op == 5) = false := beq_eq_false_iff_ne.mpr (by omega)
    have e6 : (op == 6) = false := beq_eq_false_iff_ne.mpr (by omega)
    have e7 : (op == 7) = false := beq_eq_false_iff_ne.mpr (by omega)
    have e8 : (op == 8) = false := beq_eq_false_iff_ne.mpr (by omega)
    have e9 : (op == 9) = false := beq_eq_false_iff_ne.mpr (by omega)
    have e10 : (op == 10) = false := beq_eq_false_iff_ne.mpr (by omega)
    clear hz hop
    go_enter Tryz.func182, Tryz.ntmps182
    go_wp2_with fail
    go_ret
    exact ⟨rfl, by (repeat (first | (with_reducible exact Below.refl _ _) | (with_reducible assumption) | (with_reducible apply below_drewN) | (with_reducible apply Below.drew) | ((with_reducible refine Below.setCell ?_ ?_ _); rotate_left; focus (first | (simp; done) | (simp; omega) | omega)) | ((with_reducible refine Below.alloc ?_ ?_ _); rotate_left; focus (first | (simp; done) | (simp; omega) | omega))))⟩

set_option maxRecDepth 4000 in
set_option maxHeartbeats 1000000 in
theorem termOK_any (op : Int) (p : ByteArray) (k n : Int) (t : ByteArray) (w : World) (hp : p.size ≤ 1048576) (ht : t.size ≤ 1048576) :
    Calls Tryz.prog 168 #[.agg #[.int .i64 op, .string p, .int .i64 k, .int .i64 n, .string t]] w fun e w' => e = .returned (.bool (termB op p ⟨k, n, t⟩)) ∧ Below w.heap.size w w' := by
  have X0 := Box5.start w (.int .i64 op) (.string p) (.int .i64 k) (.int .i64 n) (.string t) 144
  unfold termB
  cases hpb : pathB p
  case false =>
    have HPB : Hid _ := hpb
    clear hpb
    go_enter Tryz.func168, Tryz.ntmps168
    go_wp2_with fail
    refine (pathOK_any p _ hp).mono ?_
    rintro e w1 ⟨rfl, hb⟩
    rw [HPB.out]
    have X1 := X0.step hb
    clear hb X0
    go_wp2_with fail
    go_ret
    exact ⟨rfl, X1.bel⟩
  case true =>
  have HPB : Hid _ := hpb
  clear hpb
  cases hok : okB ⟨k, n, t⟩
  case false =>
    have HOK : Hid _ := hok
    clear hok
    go_enter Tryz.func168, Tryz.ntmps168
    go_wp2_with fail
    refine (pathOK_any p _ hp).mono ?_
    rintro e w1 ⟨rfl, hb⟩
    rw [HPB.out]
    have X1 := X0.step hb
    have c2 := X1.c2
    have c3 := X1.c3
    have c4 := X1.c4
    clear hb X0
    go_wp2_with fail
    refine (valueOK_any k n t _ (by unfold maxLen; omega)).mono ?_
    rintro e w2 ⟨rfl, hb⟩
    rw [HOK.out]
    have X2 := X1.step hb
    clear hb X1
    go_wp2_with fail
    go_ret
    exact ⟨rfl, X2.bel⟩
  case true =>
  have HOK : Hid _ := hok
  clear hok
  obtain ⟨R, hR⟩ : ∃ R, R = takesT op k n := ⟨_, rfl⟩
  have HR : Hid _ := hR
  show Calls _ _ _ _ fun e w' => e = .returned (.bool (true && (true && takesT op k n))) ∧ _
  rw [← hR]
  clear hR
  go_enter Tryz.func168, Tryz.ntmps168
  go_wp2_with fail
  refine (pathOK_any p _ hp).mono ?_
  rintro e w1 ⟨rfl, hb⟩
  rw [HPB.out]
  have X1 := X0.step hb
  have c2 := X1.c2
  have c3 := X1.c3
  have c4 := X1.c4
  clear hb X0
  go_wp2_with fail
  refine (valueOK_any k n t _ (by unfold maxLen; omega)).mono ?_
  rintro e w2 ⟨rfl, hb⟩
  rw [HOK.out]
  have X2 := X1.step hb
  have d0 := X2.c0
  have d2 := X2.c2
  have d3 := X2.c3
  have d4 := X2.c4
  clear hb X1 c2 c3 c4
  go_wp2_with fail
  refine (opTakes_any op k n t _).mono ?_
  rintro e w3 ⟨rfl, hb⟩
  rw [← HR.out]
  have X3 := X2.step hb
  clear hb X2
  go_wp2_with fail
  go_ret
  exact ⟨ret_bool (by simp), X3.bel⟩

set_option maxRecDepth 4000 in
set_option maxHeartbeats 2000000 in
theorem specTerm_any (op : Int) (p : ByteArray) (k n : Int) (t : ByteArray) (w : World) (hp : p.size ≤ 1048576) (ht : t.size ≤ 1048576) :
    Calls Tryz.prog 113 #[.agg #[.int .i64 op, .string p, .int .i64 k, .int .i64 n, .string t]] w fun e w' => e = .returned (.bool (termB op p ⟨k, n, t⟩)) ∧ Below w.heap.size w w' := by
  have X0 := Box5.start w (.int .i64 op) (.string p) (.int .i64 k) (.int .i64 n) (.string t) 144
  by_cases hbig : 65536 < p.size
  · have hz : termB op p ⟨k, n, t⟩ = false := by unfold termB; rw [pathB_long p (by omega)]; simp
    rw [hz]
    have hb : (65536 : Int) < (p.size : Int) := by omega
    go_enter Tryz.func113, Tryz.ntmps113
    go_wp2_with fail
    go_ret
    exact ⟨rfl, X0.bel⟩
  have hsm : ¬ (65536 : Int) < (p.size : Int) := by omega
  cases hpb : pathB p
  · have hz : termB op p ⟨k, n, t⟩ = false := by unfold termB; rw [hpb]; simp
    rw [hz]
    have HPB : Hid _ := hpb
    clear hpb hz
    go_enter Tryz.func113, Tryz.ntmps113
    go_wp2_with fail
    refine (specPath_any p _ hp).mono ?_
    rintro e w2 ⟨rfl, hb⟩
    rw [HPB.out]
    have X1 := X0.step hb
    clear hb X0
    go_wp2_with fail
    go_ret
    exact ⟨rfl, X1.bel⟩
  have HPB : Hid _ := hpb
  cases hok : okB ⟨k, n, t⟩
  · have hz : termB op p ⟨k, n, t⟩ = false := by unfold termB; rw [hok]; simp
    rw [hz]
    have HOK : Hid _ := hok
    clear hpb hz hok
    go_enter Tryz.func113, Tryz.ntmps113
    go_wp2_with fail
    refine (specPath_any p _ hp).mono ?_
    rintro e w2 ⟨rfl, hb⟩
    rw [HPB.out]
    have X1 := X0.step hb
    have c2 := X1.c2
    have c3 := X1.c3
    have c4 := X1.c4
    clear hb X0
    go_wp2_with fail
    refine (specValueOK_any k n t _ ht).mono ?_
    rintro e w3 ⟨rfl, hb⟩
    rw [HOK.out]
    have X2 := X1.step hb
    clear hb X1
    go_wp2_with fail
    go_ret
    exact ⟨rfl, X2.bel⟩
  have hz : termB op p ⟨k, n, t⟩ = takesT op k n := by unfold termB; rw [hpb, hok]; simp
  rw [hz]
  have HOK : Hid _ := hok
  obtain ⟨R, hR⟩ : ∃ R, R = takesT op k n := ⟨_, rfl⟩
  rw [← hR]
  have HR : Hid _ := hR
  clear hpb hz hok hR
  go_enter Tryz.func113, Tryz.ntmps113
  go_wp2_with fail
  refine (specPath_any p _ hp).mono ?_
  rintro e w2 ⟨rfl, hb⟩
  rw [HPB.out]
  have X1 := X0.step hb
  have c2 := X1.c2
  have c3 := X1.c3
  have c4 := X1.c4
  clear hb X0
  go_wp2_with fail
  refine (specValueOK_any k n t _ ht).mono ?_
  rintro e w3 ⟨rfl, hb⟩
  rw [HOK.out]
  have X2 := X1.step hb
  have d0 := X2.c0
  have d2 := X2.c2
  have d3 := X2.c3
  have hz2 := X2.bel.size
  clear hb X1 c2 c3 c4
  have hop : op = 1 ∨ op = 2 ∨ op = 3 ∨ op = 4 ∨ op = 5 ∨ op = 6 ∨ op = 7 ∨ op = 8 ∨ op = 9 ∨ op = 10 ∨ (op < 1 ∨ 10 < op) := by omega
  rcases hop with rfl | rfl | rfl | rfl | rfl | rfl | rfl | rfl | rfl | rfl | hop
  iterate 6
    · go_wp2_with fail
      go_ret
      exact ⟨ret_bool (by rw [HR.out]; rfl), X2.bel⟩
  iterate 2
    · go_wp2_with fail
      go_ret
      exact ⟨ret_bool (by rw [HR.out]; unfold takesT; rw [Bool.eq_iff_iff]; simp), X2.bel⟩
  · by_cases hk : k = 2
    · subst hk
      go_wp2_with fail
      refine (l01In_any n 0 5 _).mono ?_
      rintro e w4 ⟨rfl, rfl⟩
      have hRd : R = decide (0 ≤ n ∧ n ≤ 5) := by rw [HR.out]; unfold takesT; simp
      rw [← hRd]
      clear hRd
      go_wp2_with fail
      go_ret
      exact ⟨rfl, X2.bel⟩
    · have hk0 : (k == 2) = false := beq_eq_false_iff_ne.mpr hk
      have hRf : R = false := by rw [HR.out]; unfold takesT; simp [hk]
      clear HR
      subst hRf
      go_wp2_with fail
      go_ret
      exact ⟨rfl, X2.bel⟩
  · by_cases hk : k = 2
    · subst hk
      go_wp2_with fail
      go_ret
      exact ⟨ret_bool (by rw [HR.out]; unfold takesT; rw [Bool.eq_iff_iff]; simp; try omega), X2.bel⟩
    · have hk0 : (k == 2) = false := beq_eq_false_iff_ne.mpr hk
      have hRf : R = false := by rw [HR.out]; unfold takesT; simp [hk]
      clear HR
      subst hRf
      go_wp2_with fail
      go_ret
      exact ⟨rfl, X2.bel⟩
  · have hRf : R = false := by rw [HR.out]; unfold takesT; rw [if_neg (by omega), if_neg (by omega), if_neg (by omega), if_neg (by omega), if_neg (by omega)]
    have e1 : (op == 1) = false := beq_eq_false_iff_ne.mpr (by omega)
    have e2 : (op == 2) = false := beq_eq_false_iff_ne.mpr (by omega)
    have e3 : (op == 3) = false := beq_eq_false_iff_ne.mpr (by omega)
    have e4 : (op == 4) = false := beq_eq_false_iff_ne.mpr (by omega)
    have e5 : (op == 5) = false := beq_eq_false_iff_ne.mpr (by omega)
    have e6 : (op == 6) = false := beq_eq_false_iff_ne.mpr (by omega)
    have e7 : (op == 7) = false := beq_eq_false_iff_ne.mpr (by omega)
    have e8 : (op == 8) = false := beq_eq_false_iff_ne.mpr (by omega)
    have e9 : (op == 9) = false := beq_eq_false_iff_ne.mpr (by omega)
    have e10 : (op == 10) = false := beq_eq_false_iff_ne.mpr (by omega)
    clear HR hop
    subst hRf
    go_wp2_with fail
    go_ret
    exact ⟨rfl, X2.bel⟩

end Go.Proofs.YtcggkeleaepebaaGreatDoor
