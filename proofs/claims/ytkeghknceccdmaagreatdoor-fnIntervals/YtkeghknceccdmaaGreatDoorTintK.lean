/- The interval of a term: what the two functions answer, for every term. -/
import Derived.Test.YtkeghknceccdmaaGreatDoorTintJ
import Derived.Test.YtkeghknceccdmaaGreatDoorTintS
import Derived.Test.YtkeghknceccdmaaGreatDoorTermL
namespace Go.Proofs.YtkeghknceccdmaaGreatDoor
open Go.RowKit
set_option linter.unusedVariables false

theorem term_parts (op : Int) (p : ByteArray) (v : Val) (h : termB op p v = true) : okB v = true ∧ (1 ≤ op ∧ op ≤ 10) ∧ (op = 9 → 0 ≤ v.n ∧ v.n ≤ 5) := by
  unfold termB at h
  rw [Bool.and_eq_true, Bool.and_eq_true] at h
  obtain ⟨_, hv, ht⟩ := h
  refine ⟨hv, ?_, ?_⟩
  · unfold takesT at ht
    split at ht
    · omega
    · split at ht
      · omega
      · split at ht
        · omega
        · split at ht
          · omega
          · split at ht
            · omega
            · cases ht
  · rintro rfl
    have e : takesT 9 v.k v.n = decide (v.k = 2 ∧ 0 ≤ v.n ∧ v.n ≤ 5) := rfl
    rw [e, decide_eq_true_eq] at ht
    exact ht.2

set_option maxRecDepth 4000 in
set_option maxHeartbeats 2000000 in
theorem specTint_any (op : Int) (p : ByteArray) (k n : Int) (t : ByteArray) (desc : Bool) (w : World) (hp : p.size ≤ 1048576) (ht : t.size ≤ 1048576) :
    Calls Tryz.prog 20 #[.agg #[.int .i64 op, .string p, .int .i64 k, .int .i64 n, .string t], .bool desc] w fun e w' => e = .returned (.tuple #[.agg #[.string (tintP op p ⟨k, n, t⟩ desc).1.lo, .string (tintP op p ⟨k, n, t⟩ desc).1.hi, .bool (tintP op p ⟨k, n, t⟩ desc).1.op], .int .i64 (tintP op p ⟨k, n, t⟩ desc).2]) ∧ Below w.heap.size w w' := by
  have X0 := Fr.start w (.int .i64 op) (.string p) (.int .i64 k) (.int .i64 n) (.string t) 34 24
  have HS0 := fun W : World => specTerm_any op p k n t W hp ht
  cases hB : termB op p ⟨k, n, t⟩
  · rw [tintP_bad _ _ _ _ hB]
    rw [hB] at HS0
    have HS : Hid (∀ W : World, Calls _ _ _ W _) := HS0
    clear HS0 hB
    go_enter Tryz.func20, Tryz.ntmps20
    go_wp2_with fail
    refine (HS.out _).mono ?_
    rintro e w1 ⟨rfl, hb⟩
    have X := X0.step hb
    have r0 := X.res.c0
    have r1 := X.res.c1
    have r2 := X.res.c2
    have t0 := X.res.f0
    have t1 := X.res.f1
    have t2 := X.res.f2
    have rl := X.res.lt
    have hbw := X.box.bel
    clear hb X0 X
    go_wp2_with fail
    refine bodyPost_ret (v := .tuple #[.agg #[.string em, .string em, .bool false], .int .i64 1]) (by simp [results, Tryz.results20, go_sem, *]) rfl ⟨rfl, ?_⟩
    (repeat (first | (with_reducible exact Below.refl _ _) | (with_reducible assumption) | (with_reducible apply below_drewN) | (with_reducible apply Below.drew) | ((with_reducible refine Below.setCell ?_ ?_ _); rotate_left; focus (first | (simp; done) | (simp; omega) | omega)) | ((with_reducible refine Below.alloc ?_ ?_ _); rotate_left; focus (first | (simp; done) | (simp; omega) | omega))))
  · rw [tintP_ok _ _ _ _ hB]
    rw [hB] at HS0
    obtain ⟨q1, q2, q3⟩ := term_parts op p ⟨k, n, t⟩ hB
    have HT0 := fun W : World => l04Term_any op p ⟨k, n, t⟩ desc W q1 q2 q3
    obtain ⟨⟨il, ih, io⟩, hi⟩ : ∃ i, i = tintI op ⟨k, n, t⟩ desc := ⟨_, rfl⟩
    rw [← hi] at HT0 ⊢
    simp only at HT0
    have HS : Hid (∀ W : World, Calls _ _ _ W _) := HS0
    have HT : Hid (∀ W : World, Calls _ _ _ W _) := HT0
    clear HS0 HT0 hB hi q1 q2 q3
    go_enter Tryz.func20, Tryz.ntmps20
    go_wp2_with fail
    refine (HS.out _).mono ?_
    rintro e w1 ⟨rfl, hb⟩
    have X1 := X0.step hb
    have c0 := X1.box.c0
    have c1 := X1.box.c1
    have c2 := X1.box.c2
    have c3 := X1.box.c3
    have c4 := X1.box.c4
    clear hb X0
    go_wp2_with fail
    refine (HT.out _).mono ?_
    rintro e w2 ⟨rfl, hb⟩
    have X := X1.step hb
    have r0 := X.res.c0
    have r1 := X.res.c1
    have r2 := X.res.c2
    have t0 := X.res.f0
    have t1 := X.res.f1
    have t2 := X.res.f2
    have rl := X.res.lt
    have hbw := X.box.bel
    clear hb X1 X c0 c1 c2 c3 c4
    go_wp2_with fail
    refine bodyPost_ret (v := .tuple #[.agg #[.string il, .string ih, .bool io], .int .i64 0]) (by simp [results, Tryz.results20, go_sem, *]) rfl ⟨rfl, ?_⟩
    (repeat (first | (with_reducible exact Below.refl _ _) | (with_reducible assumption) | (with_reducible apply below_drewN) | (with_reducible apply Below.drew) | ((with_reducible refine Below.setCell ?_ ?_ _); rotate_left; focus (first | (simp; done) | (simp; omega) | omega)) | ((with_reducible refine Below.alloc ?_ ?_ _); rotate_left; focus (first | (simp; done) | (simp; omega) | omega))))

set_option maxRecDepth 4000 in
set_option maxHeartbeats 4000000 in
theorem implTint_any (op : Int) (p : ByteArray) (k n : Int) (t : ByteArray) (desc : Bool) (w : World) (hp : p.size ≤ 1048576) (ht : t.size ≤ 1048576) :
    Calls Tryz.prog 19 #[.agg #[.int .i64 op, .string p, .int .i64 k, .int .i64 n, .string t], .bool desc] w fun e w' => e = .returned (.tuple #[.agg #[.string (tintP op p ⟨k, n, t⟩ desc).1.lo, .string (tintP op p ⟨k, n, t⟩ desc).1.hi, .bool (tintP op p ⟨k, n, t⟩ desc).1.op], .int .i64 (tintP op p ⟨k, n, t⟩ desc).2]) ∧ Below w.heap.size w w' := by
  have X0 := Fr.start w (.int .i64 op) (.string p) (.int .i64 k) (.int .i64 n) (.string t) 34 24
  have HS0 := fun W : World => termOK_any op p k n t W hp ht
  cases hB : termB op p ⟨k, n, t⟩
  · rw [tintP_bad _ _ _ _ hB]
    rw [hB] at HS0
    have HS : Hid (∀ W : World, Calls _ _ _ W _) := HS0
    clear HS0 hB
    go_enter Tryz.func19, Tryz.ntmps19
    go_wp2_with fail
    refine (HS.out _).mono ?_
    rintro e w1 ⟨rfl, hb⟩
    have X := X0.step hb
    have r0 := X.res.c0
    have r1 := X.res.c1
    have r2 := X.res.c2
    have t0 := X.res.f0
    have t1 := X.res.f1
    have t2 := X.res.f2
    have rl := X.res.lt
    have hbw := X.box.bel
    clear hb X0 X
    go_wp2_with fail
    refine bodyPost_ret (v := .tuple #[.agg #[.string em, .string em, .bool false], .int .i64 1]) (by simp [results, Tryz.results19, go_sem, *]) rfl ⟨rfl, ?_⟩
    (repeat (first | (with_reducible exact Below.refl _ _) | (with_reducible assumption) | (with_reducible apply below_drewN) | (with_reducible apply Below.drew) | ((with_reducible refine Below.setCell ?_ ?_ _); rotate_left; focus (first | (simp; done) | (simp; omega) | omega)) | ((with_reducible refine Below.alloc ?_ ?_ _); rotate_left; focus (first | (simp; done) | (simp; omega) | omega))))
  · rw [tintP_ok _ _ _ _ hB]
    rw [hB] at HS0
    obtain ⟨q1, q2, q3⟩ := term_parts op p ⟨k, n, t⟩ hB
    have hcase : op = 1 ∨ op = 2 ∨ op = 3 ∨ op = 4 ∨ op = 5 ∨ op = 6 ∨ op = 7 ∨ op = 8 ∨ op = 9 ∨ op = 10 := by omega
    have HS : Hid (∀ W : World, Calls _ _ _ W _) := HS0
    have Q1 : Hid (okB _ = true) := q1
    have Q3 : Hid _ := q3
    obtain ⟨R, hR⟩ : ∃ R, R = tintI op ⟨k, n, t⟩ desc := ⟨_, rfl⟩
    rw [← hR]
    have HR : Hid (_ = _) := hR
    clear HS0 hB q1 q2 q3 hR
    go_enter Tryz.func19, Tryz.ntmps19
    go_wp2_with fail
    refine (HS.out _).mono ?_
    rintro e w1 ⟨rfl, hb⟩
    have X1 := X0.step hb
    have c0 := X1.box.c0
    have c1 := X1.box.c1
    have c2 := X1.box.c2
    have c3 := X1.box.c3
    have c4 := X1.box.c4
    have r0 := X1.res.c0
    have r1 := X1.res.c1
    have r2 := X1.res.c2
    have t0 := X1.res.f0
    have t1 := X1.res.f1
    have t2 := X1.res.f2
    have rl := X1.res.lt
    have hbw := X1.box.bel
    clear hb X0 HS
    rcases hcase with rfl | rfl | rfl | rfl | rfl | rfl | rfl | rfl | rfl | rfl
    · have hkz := key_size ⟨k, n, t⟩ Q1.out
      rw [mkB_size] at hkz
      have hdz : (dirK desc (keyV 5 ⟨k, n, t⟩)).length = (keyV 5 ⟨k, n, t⟩).length := by cases desc; rfl; exact turnL_len _
      have hB0 := fun W : World => beginning_any (mkB (dirK desc (keyV 5 ⟨k, n, t⟩))) W (by rw [mkB_size, hdz]; omega)
      rw [mkB_data, mkB_size] at hB0
      have hO0 := fun W : World => keyOf_any ⟨k, n, t⟩ desc W Q1.out
      obtain ⟨il, h1⟩ : ∃ il, il = mkB (dirK desc (keyV 5 ⟨k, n, t⟩)) := ⟨_, rfl⟩
      obtain ⟨⟨ih, io⟩, h2⟩ : ∃ b, b = behN (dirK desc (keyV 5 ⟨k, n, t⟩)) (dirK desc (keyV 5 ⟨k, n, t⟩)).length := ⟨_, rfl⟩
      rw [← h1, ← h2] at hB0
      rw [← h1] at hO0
      obtain rfl : R = ⟨il, mkB ih, !io⟩ := by rw [HR.out, h1, show ih = (ih, io).1 from rfl, h2, show io = (ih, io).2 from rfl, h2]; rfl
      have HO : Hid (∀ W : World, Calls _ _ _ W _) := hO0
      have HB : Hid (∀ W : World, Calls _ _ _ W _) := hB0
      clear hO0 hB0 h1 h2 hkz hdz HR
      go_wp2_with fail
      refine (HO.out _).mono ?_
      rintro e w2 ⟨rfl, hb⟩
      have X2 := X1.step hb
      clear hb X1 c0 c1 c2 c3 c4 r0 r1 r2 t0 t1 t2 rl hbw
      go_wp2_with fail
      refine (HB.out _).mono ?_
      rintro e w3 ⟨rfl, hb⟩
      have X := X2.step hb
      have r0 := X.res.c0
      have r1 := X.res.c1
      have r2 := X.res.c2
      have t0 := X.res.f0
      have t1 := X.res.f1
      have t2 := X.res.f2
      have rl := X.res.lt
      have hbw := X.box.bel
      clear hb X2 X
      go_wp2_with fail
      refine bodyPost_ret (v := .tuple #[.agg #[.string il, .string (mkB ih), .bool (!io)], .int .i64 0]) (by simp [results, Tryz.results19, go_sem, *]) rfl ⟨rfl, ?_⟩
      (repeat (first | (with_reducible exact Below.refl _ _) | (with_reducible assumption) | (with_reducible apply below_drewN) | (with_reducible apply Below.drew) | ((with_reducible refine Below.setCell ?_ ?_ _); rotate_left; focus (first | (simp; done) | (simp; omega) | omega)) | ((with_reducible refine Below.alloc ?_ ?_ _); rotate_left; focus (first | (simp; done) | (simp; omega) | omega))))
    · obtain rfl : R = ⟨em, em, true⟩ := by rw [HR.out]; rfl
      go_wp2_with fail
      refine bodyPost_ret (v := .tuple #[.agg #[.string em, .string em, .bool true], .int .i64 0]) (by simp [results, Tryz.results19, go_sem, *]) rfl ⟨rfl, ?_⟩
      (repeat (first | (with_reducible exact Below.refl _ _) | (with_reducible assumption) | (with_reducible apply below_drewN) | (with_reducible apply Below.drew) | ((with_reducible refine Below.setCell ?_ ?_ _); rotate_left; focus (first | (simp; done) | (simp; omega) | omega)) | ((with_reducible refine Below.alloc ?_ ?_ _); rotate_left; focus (first | (simp; done) | (simp; omega) | omega))))
    · have hK0 := fun W : World => orderInterval_any 3 p ⟨k, n, t⟩ desc W Q1.out (by omega)
      obtain ⟨⟨il, ih, io⟩, h1⟩ : ∃ i, i = ordT 3 ⟨k, n, t⟩ desc := ⟨_, rfl⟩
      rw [← h1] at hK0
      obtain rfl : R = ⟨il, ih, io⟩ := by rw [HR.out, h1]; rfl
      simp only at hK0
      have HK : Hid (∀ W : World, Calls _ _ _ W _) := hK0
      clear hK0 h1 HR
      go_wp2_with fail
      refine (HK.out _).mono ?_
      rintro e w2 ⟨rfl, hb⟩
      have X := X1.step hb
      clear hb X1 c0 c1 c2 c3 c4 r0 r1 r2 t0 t1 t2 rl hbw
      have r0 := X.res.c0
      have r1 := X.res.c1
      have r2 := X.res.c2
      have t0 := X.res.f0
      have t1 := X.res.f1
      have t2 := X.res.f2
      have rl := X.res.lt
      have hbw := X.box.bel
      clear X
      go_wp2_with fail
      refine bodyPost_ret (v := .tuple #[.agg #[.string il, .string ih, .bool io], .int .i64 0]) (by simp [results, Tryz.results19, go_sem, *]) rfl ⟨rfl, ?_⟩
      (repeat (first | (with_reducible exact Below.refl _ _) | (with_reducible assumption) | (with_reducible apply below_drewN) | (with_reducible apply Below.drew) | ((with_reducible refine Below.setCell ?_ ?_ _); rotate_left; focus (first | (simp; done) | (simp; omega) | omega)) | ((with_reducible refine Below.alloc ?_ ?_ _); rotate_left; focus (first | (simp; done) | (simp; omega) | omega))))
    · have hK0 := fun W : World => orderInterval_any 4 p ⟨k, n, t⟩ desc W Q1.out (by omega)
      obtain ⟨⟨il, ih, io⟩, h1⟩ : ∃ i, i = ordT 4 ⟨k, n, t⟩ desc := ⟨_, rfl⟩
      rw [← h1] at hK0
      obtain rfl : R = ⟨il, ih, io⟩ := by rw [HR.out, h1]; rfl
      simp only at hK0
      have HK : Hid (∀ W : World, Calls _ _ _ W _) := hK0
      clear hK0 h1 HR
      go_wp2_with fail
      refine (HK.out _).mono ?_
      rintro e w2 ⟨rfl, hb⟩
      have X := X1.step hb
      clear hb X1 c0 c1 c2 c3 c4 r0 r1 r2 t0 t1 t2 rl hbw
      have r0 := X.res.c0
      have r1 := X.res.c1
      have r2 := X.res.c2
      have t0 := X.res.f0
      have t1 := X.res.f1
      have t2 := X.res.f2
      have rl := X.res.lt
      have hbw := X.box.bel
      clear X
      go_wp2_with fail
      refine bodyPost_ret (v := .tuple #[.agg #[.string il, .string ih, .bool io], .int .i64 0]) (by simp [results, Tryz.results19, go_sem, *]) rfl ⟨rfl, ?_⟩
      (repeat (first | (with_reducible exact Below.refl _ _) | (with_reducible assumption) | (with_reducible apply below_drewN) | (with_reducible apply Below.drew) | ((with_reducible refine Below.setCell ?_ ?_ _); rotate_left; focus (first | (simp; done) | (simp; omega) | omega)) | ((with_reducible refine Below.alloc ?_ ?_ _); rotate_left; focus (first | (simp; done) | (simp; omega) | omega))))
    · have hK0 := fun W : World => orderInterval_any 5 p ⟨k, n, t⟩ desc W Q1.out (by omega)
      obtain ⟨⟨il, ih, io⟩, h1⟩ : ∃ i, i = ordT 5 ⟨k, n, t⟩ desc := ⟨_, rfl⟩
      rw [← h1] at hK0
      obtain rfl : R = ⟨il, ih, io⟩ := by rw [HR.out, h1]; rfl
      simp only at hK0
      have HK : Hid (∀ W : World, Calls _ _ _ W _) := hK0
      clear hK0 h1 HR
      go_wp2_with fail
      refine (HK.out _).mono ?_
      rintro e w2 ⟨rfl, hb⟩
      have X := X1.step hb
      clear hb X1 c0 c1 c2 c3 c4 r0 r1 r2 t0 t1 t2 rl hbw
      have r0 := X.res.c0
      have r1 := X.res.c1
      have r2 := X.res.c2
      have t0 := X.res.f0
      have t1 := X.res.f1
      have t2 := X.res.f2
      have rl := X.res.lt
      have hbw := X.box.bel
      clear X
      go_wp2_with fail
      refine bodyPost_ret (v := .tuple #[.agg #[.string il, .string ih, .bool io], .int .i64 0]) (by simp [results, Tryz.results19, go_sem, *]) rfl ⟨rfl, ?_⟩
      (repeat (first | (with_reducible exact Below.refl _ _) | (with_reducible assumption) | (with_reducible apply below_drewN) | (with_reducible apply Below.drew) | ((with_reducible refine Below.setCell ?_ ?_ _); rotate_left; focus (first | (simp; done) | (simp; omega) | omega)) | ((with_reducible refine Below.alloc ?_ ?_ _); rotate_left; focus (first | (simp; done) | (simp; omega) | omega))))
    · have hK0 := fun W : World => orderInterval_any 6 p ⟨k, n, t⟩ desc W Q1.out (by omega)
      obtain ⟨⟨il, ih, io⟩, h1⟩ : ∃ i, i = ordT 6 ⟨k, n, t⟩ desc := ⟨_, rfl⟩
      rw [← h1] at hK0
      obtain rfl : R = ⟨il, ih, io⟩ := by rw [HR.out, h1]; rfl
      simp only at hK0
      have HK : Hid (∀ W : World, Calls _ _ _ W _) := hK0
      clear hK0 h1 HR
      go_wp2_with fail
      refine (HK.out _).mono ?_
      rintro e w2 ⟨rfl, hb⟩
      have X := X1.step hb
      clear hb X1 c0 c1 c2 c3 c4 r0 r1 r2 t0 t1 t2 rl hbw
      have r0 := X.res.c0
      have r1 := X.res.c1
      have r2 := X.res.c2
      have t0 := X.res.f0
      have t1 := X.res.f1
      have t2 := X.res.f2
      have rl := X.res.lt
      have hbw := X.box.bel
      clear X
      go_wp2_with fail
      refine bodyPost_ret (v := .tuple #[.agg #[.string il, .string ih, .bool io], .int .i64 0]) (by simp [results, Tryz.results19, go_sem, *]) rfl ⟨rfl, ?_⟩
      (repeat (first | (with_reducible exact Below.refl _ _) | (with_reducible assumption) | (with_reducible apply below_drewN) | (with_reducible apply Below.drew) | ((with_reducible refine Below.setCell ?_ ?_ _); rotate_left; focus (first | (simp; done) | (simp; omega) | omega)) | ((with_reducible refine Below.alloc ?_ ?_ _); rotate_left; focus (first | (simp; done) | (simp; omega) | omega))))
    · obtain rfl : R = ⟨em, em, true⟩ := by rw [HR.out]; rfl
      go_wp2_with fail
      refine bodyPost_ret (v := .tuple #[.agg #[.string em, .string em, .bool true], .int .i64 0]) (by simp [results, Tryz.results19, go_sem, *]) rfl ⟨rfl, ?_⟩
      (repeat (first | (with_reducible exact Below.refl _ _) | (with_reducible assumption) | (with_reducible apply below_drewN) | (with_reducible apply Below.drew) | ((with_reducible refine Below.setCell ?_ ?_ _); rotate_left; focus (first | (simp; done) | (simp; omega) | omega)) | ((with_reducible refine Below.alloc ?_ ?_ _); rotate_left; focus (first | (simp; done) | (simp; omega) | omega))))
    · obtain rfl : R = ⟨em, em, true⟩ := by rw [HR.out]; rfl
      go_wp2_with fail
      refine bodyPost_ret (v := .tuple #[.agg #[.string em, .string em, .bool true], .int .i64 0]) (by simp [results, Tryz.results19, go_sem, *]) rfl ⟨rfl, ?_⟩
      (repeat (first | (with_reducible exact Below.refl _ _) | (with_reducible assumption) | (with_reducible apply below_drewN) | (with_reducible apply Below.drew) | ((with_reducible refine Below.setCell ?_ ?_ _); rotate_left; focus (first | (simp; done) | (simp; omega) | omega)) | ((with_reducible refine Below.alloc ?_ ?_ _); rotate_left; focus (first | (simp; done) | (simp; omega) | omega))))
    · obtain ⟨n0, n9⟩ := Q3.out rfl
      have hK0 := fun W : World => ofKind_any n desc W n0 n9
      obtain ⟨⟨il, ih, io⟩, h1⟩ : ∃ i, i = kindI n desc := ⟨_, rfl⟩
      rw [← h1] at hK0
      obtain rfl : R = ⟨il, ih, io⟩ := by rw [HR.out, h1]; rfl
      simp only at hK0
      have HK : Hid (∀ W : World, Calls _ _ _ W _) := hK0
      clear hK0 h1 HR
      go_wp2_with fail
      refine (HK.out _).mono ?_
      rintro e w2 ⟨rfl, hb⟩
      have X := X1.step hb
      clear hb X1 c0 c1 c2 c3 c4 r0 r1 r2 t0 t1 t2 rl hbw
      have r0 := X.res.c0
      have r1 := X.res.c1
      have r2 := X.res.c2
      have t0 := X.res.f0
      have t1 := X.res.f1
      have t2 := X.res.f2
      have rl := X.res.lt
      have hbw := X.box.bel
      clear X
      go_wp2_with fail
      refine bodyPost_ret (v := .tuple #[.agg #[.string il, .string ih, .bool io], .int .i64 0]) (by simp [results, Tryz.results19, go_sem, *]) rfl ⟨rfl, ?_⟩
      (repeat (first | (with_reducible exact Below.refl _ _) | (with_reducible assumption) | (with_reducible apply below_drewN) | (with_reducible apply Below.drew) | ((with_reducible refine Below.setCell ?_ ?_ _); rotate_left; focus (first | (simp; done) | (simp; omega) | omega)) | ((with_reducible refine Below.alloc ?_ ?_ _); rotate_left; focus (first | (simp; done) | (simp; omega) | omega))))
    · obtain rfl : R = ⟨em, em, true⟩ := by rw [HR.out]; rfl
      go_wp2_with fail
      refine bodyPost_ret (v := .tuple #[.agg #[.string em, .string em, .bool true], .int .i64 0]) (by simp [results, Tryz.results19, go_sem, *]) rfl ⟨rfl, ?_⟩
      (repeat (first | (with_reducible exact Below.refl _ _) | (with_reducible assumption) | (with_reducible apply below_drewN) | (with_reducible apply Below.drew) | ((with_reducible refine Below.setCell ?_ ?_ _); rotate_left; focus (first | (simp; done) | (simp; omega) | omega)) | ((with_reducible refine Below.alloc ?_ ?_ _); rotate_left; focus (first | (simp; done) | (simp; omega) | omega))))

end Go.Proofs.YtkeghknceccdmaaGreatDoor
