/- The interval of a term: the specification's answer. -/
import Derived.Test.YtkeghknceccdmaaGreatDoorTintI
import Derived.Test.YtkeghknceccdmaaGreatDoorBegS
import Derived.Deep.Cut
namespace Go.Proofs.YtkeghknceccdmaaGreatDoor
open Go.RowKit
set_option linter.unusedVariables false

theorem num_of (k : Int) (h0 : 0 ≤ k) (h5 : k ≤ 5) (w : World) : Calls Tryz.prog 135 #[.int .i64 (k + 1), .int .i64 1] w fun e w' => e = .returned (.string (mkB [kb k])) ∧ Below w.heap.size w w' := l01Num (k + 1) (kb k) (num_kb k h0 h5) w
set_option maxRecDepth 8000 in
set_option maxHeartbeats 8000000 in
theorem l04Term_any (op : Int) (p : ByteArray) (v : Val) (desc : Bool) (w : World) (h : okB v = true) (hop : 1 ≤ op ∧ op ≤ 10) (hn : op = 9 → 0 ≤ v.n ∧ v.n ≤ 5) :
    Calls Tryz.prog 65 #[.agg #[.int .i64 op, .string p, .int .i64 v.k, .int .i64 v.n, .string v.t], .bool desc] w fun e w' => e = .returned (.agg #[.string (tintI op v desc).lo, .string (tintI op v desc).hi, .bool (tintI op v desc).op]) ∧ Below w.heap.size w w' := by
  obtain ⟨h0, h5⟩ := fits_kind v h
  have hk1 : IntKind.i64.wrap (v.k + 1) = v.k + 1 := by rw [IntKind.wrap_i64]; omega
  have hN0 := num_of v.k h0 h5
  have hT0 := fun W : World => l04Turned_any [kb v.k] desc W (by simp)
  have hdl : (dirK desc [kb v.k]).length = 1 := by cases desc <;> rfl
  have hG0 := fun W : World => l04Begin_any (dirK desc [kb v.k]) W (by omega)
  have hkz := key_size v h
  rw [mkB_size] at hkz
  have hdz : (dirK desc (keyV 5 v)).length = (keyV 5 v).length := by cases desc; rfl; exact turnL_len _
  have hK0 := fun W : World => l04Key_any v desc W h
  have hB0 := fun W : World => l04Begin_any (dirK desc (keyV 5 v)) W (by rw [hdz]; omega)
  obtain ⟨c, r, s, hc, e1, e2, hs⟩ := one_begin v desc h
  have m1 : meetI ⟨mkB [c], mkB [c + 1], false⟩ ⟨em, mkB s, false⟩ = ⟨mkB [c], mkB s, false⟩ := by
    show (⟨Lib.maxS (mkB [c]) em, Lib.minS (mkB [c + 1]) (mkB s), false⟩ : Ivl) = _
    rw [max_em, up_not c hc s hs]
  have m2 : meetI ⟨mkB [c], mkB [c + 1], false⟩ ⟨em, mkB (c :: r), false⟩ = ⟨mkB [c], mkB (c :: r), false⟩ := by
    show (⟨Lib.maxS (mkB [c]) em, Lib.minS (mkB [c + 1]) (mkB (c :: r)), false⟩ : Ivl) = _
    rw [max_em, up_not c hc (c :: r) (.inr ⟨r, rfl⟩)]
  obtain ⟨kl, hkl⟩ : ∃ kl, kl = mkB [c] := ⟨_, rfl⟩
  obtain ⟨kh, hkh⟩ : ∃ kh, kh = mkB [c + 1] := ⟨_, rfl⟩
  obtain ⟨ol, hol⟩ : ∃ ol, ol = mkB (c :: r) := ⟨_, rfl⟩
  obtain ⟨oh, hoh⟩ : ∃ oh, oh = mkB s := ⟨_, rfl⟩
  rw [← hkl, ← hkh] at e1 m1 m2
  rw [← hol, ← hoh] at e2
  rw [← hoh] at m1
  rw [← hol] at m2
  have f1 : mkB (dirK desc [kb v.k]) = kl := congrArg Ivl.lo e1
  have f2 : mkB (dirK desc (keyV 5 v)) = ol := congrArg Ivl.lo e2
  have g1 : beginI (dirK desc [kb v.k]) = ⟨kl, kh, false⟩ := e1
  have g2 : beginI (dirK desc (keyV 5 v)) = ⟨ol, oh, false⟩ := e2
  rw [f1] at hT0
  rw [f1, g1] at hG0
  rw [f2] at hK0
  rw [f2, g2] at hB0
  simp only at hG0 hB0
  have hM1 := fun W : World => l04Meet_any ⟨kl, kh, false⟩ ⟨em, oh, false⟩ W
  have hM2 := fun W : World => l04Meet_any ⟨kl, kh, false⟩ ⟨em, ol, false⟩ W
  rw [m1] at hM1
  rw [m2] at hM2
  simp only at hM1 hM2
  have HN : Hid (∀ W : World, Calls _ _ _ W _) := hN0
  have HT : Hid (∀ W : World, Calls _ _ _ W _) := hT0
  have HG : Hid (∀ W : World, Calls _ _ _ W _) := hG0
  have HK : Hid (∀ W : World, Calls _ _ _ W _) := hK0
  have HB : Hid (∀ W : World, Calls _ _ _ W _) := hB0
  have HM1 : Hid (∀ W : World, Calls _ _ _ W _) := hM1
  have HM2 : Hid (∀ W : World, Calls _ _ _ W _) := hM2
  have E1 : Hid (kindI v.k desc = _) := e1
  have E2 : Hid (oneI v desc = _) := e2
  obtain ⟨R, hR⟩ : ∃ R, R = tintI op v desc := ⟨_, rfl⟩
  rw [← hR]
  have HR : Hid (_ = _) := hR
  have HNN : Hid _ := hn
  have X0 := Fr.start w (.int .i64 op) (.string p) (.int .i64 v.k) (.int .i64 v.n) (.string v.t) 34 24
  have a2 := X0.box.c2
  clear hN0 hT0 hG0 hK0 hB0 hM1 hM2 e1 e2 f1 f2 g1 g2 hkl hkh hol hoh m1 m2 hs hc hdl hkz hdz hR hn
  go_enter Tryz.func65, Tryz.ntmps65
  go_wp2_with fail
  refine (HN.out _).mono ?_
  rintro e w1 ⟨rfl, hb⟩
  have X1 := X0.step hb
  clear hb X0 a2
  go_wp2_with fail
  refine (HT.out _).mono ?_
  rintro e w2 ⟨rfl, hb⟩
  have X2 := X1.step hb
  clear hb X1
  go_wp2_with fail
  refine (HG.out _).mono ?_
  rintro e w3 ⟨rfl, hb⟩
  have X3 := (X2.step hb).step ((Below.refl _ _).alloc (Nat.le_refl _) (.cells #[.string kl, .string kh, .bool false] 24))
  have K3 := I3.new w3 (.string kl) (.string kh) (.bool false) 24
  obtain ⟨gk, hgk⟩ : ∃ gk, gk = w3.heap.size := ⟨_, rfl⟩
  have hgk0 : w.heap.size + 1 < gk := by have := (X2.step hb).res.lt; omega
  rw [← hgk] at K3
  have a2 := X3.box.c2
  have a3 := X3.box.c3
  have a4 := X3.box.c4
  clear hb X2
  go_wp2_with fail
  rw [← hgk]
  generalize w3.alloc (.cells #[.string kl, .string kh, .bool false] 24) = W3 at X3 K3 a2 a3 a4 ⊢
  clear hgk
  refine (HK.out _).mono ?_
  rintro e w4 ⟨rfl, hb⟩
  have X4 := X3.step hb
  have K4 := K3.step hb
  clear hb X3 K3 a2 a3 a4
  go_wp2_with fail
  refine (HB.out _).mono ?_
  rintro e w5 ⟨rfl, hb⟩
  have hga := (K4.step hb).lt
  have X5 := (X4.step hb).step ((Below.refl _ _).alloc (Nat.le_refl _) (.cells #[.string ol, .string oh, .bool false] 24))
  have K5 := (K4.step hb).step ((Below.refl _ _).alloc (Nat.le_refl _) (.cells #[.string ol, .string oh, .bool false] 24))
  have O5 := I3.new w5 (.string ol) (.string oh) (.bool false) 24
  obtain ⟨go, hgo⟩ : ∃ go, go = w5.heap.size := ⟨_, rfl⟩
  have hgo0 : gk < go := by omega
  rw [← hgo] at O5
  have a0 := X5.box.c0
  have a1 := X5.box.c3
  have k0 := K5.c0
  have k1 := K5.c1
  have k2 := K5.c2
  have kf := K5.f0
  have o0 := O5.c0
  have o1 := O5.c1
  have o2 := O5.c2
  have r0 := X5.res.c0
  have r1 := X5.res.c1
  have r2 := X5.res.c2
  have t0 := X5.res.f0
  have t1 := X5.res.f1
  have t2 := X5.res.f2
  have rl := X5.res.lt
  have kll := K5.lt
  have oll := O5.lt
  have hbw := X5.box.bel
  have n1 : gk ≠ w.heap.size + 1 := by omega
  have n2 : go ≠ w.heap.size + 1 := by omega
  have n3 : w.heap.size + 1 ≠ gk := by omega
  have n4 : w.heap.size + 1 ≠ go := by omega
  have n5 : gk ≠ go := by omega
  have n6 : go ≠ gk := by omega
  clear hb X4 K4 O5 hga
  have hcase : op = 1 ∨ op = 2 ∨ op = 3 ∨ op = 4 ∨ op = 5 ∨ op = 6 ∨ op = 7 ∨ op = 8 ∨ op = 9 ∨ op = 10 := by omega
  clear hop
  go_upto_region 3 with fail
  rw [← hgo]
  generalize w5.alloc (.cells #[.string ol, .string oh, .bool false] 24) = W5 at *
  clear hgo
  rcases hcase with rfl | rfl | rfl | rfl | rfl | rfl | rfl | rfl | rfl | rfl
  · obtain rfl : R = ⟨ol, oh, false⟩ := by rw [HR.out, ← E2.out]; rfl
    go_wp2_with fail
    refine bodyPost_ret (v := .agg #[.string ol, .string oh, .bool false]) (by simp [results, Tryz.results65, go_sem, *]) rfl ⟨rfl, ?_⟩
    (repeat (first | (with_reducible exact Below.refl _ _) | (with_reducible assumption) | (with_reducible apply below_drewN) | (with_reducible apply Below.drew) | ((with_reducible refine Below.setCell ?_ ?_ _); rotate_left; focus (first | (simp; done) | (simp; omega) | omega)) | ((with_reducible refine Below.alloc ?_ ?_ _); rotate_left; focus (first | (simp; done) | (simp; omega) | omega))))
  · obtain rfl : R = ⟨em, em, true⟩ := by rw [HR.out]; rfl
    go_wp2_with fail
    refine bodyPost_ret (v := .agg #[.string em, .string em, .bool true]) (by simp [results, Tryz.results65, go_sem, *]) rfl ⟨rfl, ?_⟩
    (repeat (first | (with_reducible exact Below.refl _ _) | (with_reducible assumption) | (with_reducible apply below_drewN) | (with_reducible apply Below.drew) | ((with_reducible refine Below.setCell ?_ ?_ _); rotate_left; focus (first | (simp; done) | (simp; omega) | omega)) | ((with_reducible refine Below.alloc ?_ ?_ _); rotate_left; focus (first | (simp; done) | (simp; omega) | omega))))
  · cases desc
    · obtain rfl : R = ⟨kl, ol, false⟩ := by rw [HR.out]; show ordT 3 v false = _; unfold ordT; rw [E1.out, E2.out]; rfl
      go_wp2_with fail
      refine (HM2.out _).mono ?_
      rintro e w6 ⟨rfl, hb⟩
      have X6 := X5.step hb
      have r0' := X6.res.c0
      have r1' := X6.res.c1
      have r2' := X6.res.c2
      have t0' := X6.res.f0
      have t1' := X6.res.f1
      have t2' := X6.res.f2
      have rl' := X6.res.lt
      have hbw' := X6.box.bel
      clear hb X5 X6 r0 r1 r2 t0 t1 t2 rl a0 a1 k0 k1 k2 kf o0 o1 o2 hbw
      go_wp2_with fail
      refine bodyPost_ret (v := .agg #[.string kl, .string ol, .bool false]) (by simp [results, Tryz.results65, go_sem, *]) rfl ⟨rfl, ?_⟩
      (repeat (first | (with_reducible exact Below.refl _ _) | (with_reducible assumption) | (with_reducible apply below_drewN) | (with_reducible apply Below.drew) | ((with_reducible refine Below.setCell ?_ ?_ _); rotate_left; focus (first | (simp; done) | (simp; omega) | omega)) | ((with_reducible refine Below.alloc ?_ ?_ _); rotate_left; focus (first | (simp; done) | (simp; omega) | omega))))
    · obtain rfl : R = ⟨oh, kh, false⟩ := by rw [HR.out]; show ordT 3 v true = _; unfold ordT; rw [E1.out, E2.out]; rfl
      go_wp2_with fail
      refine bodyPost_ret (v := .agg #[.string oh, .string kh, .bool false]) (by simp [results, Tryz.results65, go_sem, *]) rfl ⟨rfl, ?_⟩
      (repeat (first | (with_reducible exact Below.refl _ _) | (with_reducible assumption) | (with_reducible apply below_drewN) | (with_reducible apply Below.drew) | ((with_reducible refine Below.setCell ?_ ?_ _); rotate_left; focus (first | (simp; done) | (simp; omega) | omega)) | ((with_reducible refine Below.alloc ?_ ?_ _); rotate_left; focus (first | (simp; done) | (simp; omega) | omega))))
  · cases desc
    · obtain rfl : R = ⟨kl, oh, false⟩ := by rw [HR.out]; show ordT 4 v false = _; unfold ordT; rw [E1.out, E2.out]; rfl
      go_wp2_with fail
      refine (HM1.out _).mono ?_
      rintro e w6 ⟨rfl, hb⟩
      have X6 := X5.step hb
      have r0' := X6.res.c0
      have r1' := X6.res.c1
      have r2' := X6.res.c2
      have t0' := X6.res.f0
      have t1' := X6.res.f1
      have t2' := X6.res.f2
      have rl' := X6.res.lt
      have hbw' := X6.box.bel
      clear hb X5 X6 r0 r1 r2 t0 t1 t2 rl a0 a1 k0 k1 k2 kf o0 o1 o2 hbw
      go_wp2_with fail
      refine bodyPost_ret (v := .agg #[.string kl, .string oh, .bool false]) (by simp [results, Tryz.results65, go_sem, *]) rfl ⟨rfl, ?_⟩
      (repeat (first | (with_reducible exact Below.refl _ _) | (with_reducible assumption) | (with_reducible apply below_drewN) | (with_reducible apply Below.drew) | ((with_reducible refine Below.setCell ?_ ?_ _); rotate_left; focus (first | (simp; done) | (simp; omega) | omega)) | ((with_reducible refine Below.alloc ?_ ?_ _); rotate_left; focus (first | (simp; done) | (simp; omega) | omega))))
    · obtain rfl : R = ⟨ol, kh, false⟩ := by rw [HR.out]; show ordT 4 v true = _; unfold ordT; rw [E1.out, E2.out]; rfl
      go_wp2_with fail
      refine bodyPost_ret (v := .agg #[.string ol, .string kh, .bool false]) (by simp [results, Tryz.results65, go_sem, *]) rfl ⟨rfl, ?_⟩
      (repeat (first | (with_reducible exact Below.refl _ _) | (with_reducible assumption) | (with_reducible apply below_drewN) | (with_reducible apply Below.drew) | ((with_reducible refine Below.setCell ?_ ?_ _); rotate_left; focus (first | (simp; done) | (simp; omega) | omega)) | ((with_reducible refine Below.alloc ?_ ?_ _); rotate_left; focus (first | (simp; done) | (simp; omega) | omega))))
  · cases desc
    · obtain rfl : R = ⟨oh, kh, false⟩ := by rw [HR.out]; show ordT 5 v false = _; unfold ordT; rw [E1.out, E2.out]; rfl
      go_wp2_with fail
      refine bodyPost_ret (v := .agg #[.string oh, .string kh, .bool false]) (by simp [results, Tryz.results65, go_sem, *]) rfl ⟨rfl, ?_⟩
      (repeat (first | (with_reducible exact Below.refl _ _) | (with_reducible assumption) | (with_reducible apply below_drewN) | (with_reducible apply Below.drew) | ((with_reducible refine Below.setCell ?_ ?_ _); rotate_left; focus (first | (simp; done) | (simp; omega) | omega)) | ((with_reducible refine Below.alloc ?_ ?_ _); rotate_left; focus (first | (simp; done) | (simp; omega) | omega))))
    · obtain rfl : R = ⟨kl, ol, false⟩ := by rw [HR.out]; show ordT 5 v true = _; unfold ordT; rw [E1.out, E2.out]; rfl
      go_wp2_with fail
      refine (HM2.out _).mono ?_
      rintro e w6 ⟨rfl, hb⟩
      have X6 := X5.step hb
      have r0' := X6.res.c0
      have r1' := X6.res.c1
      have r2' := X6.res.c2
      have t0' := X6.res.f0
      have t1' := X6.res.f1
      have t2' := X6.res.f2
      have rl' := X6.res.lt
      have hbw' := X6.box.bel
      clear hb X5 X6 r0 r1 r2 t0 t1 t2 rl a0 a1 k0 k1 k2 kf o0 o1 o2 hbw
      go_wp2_with fail
      refine bodyPost_ret (v := .agg #[.string kl, .string ol, .bool false]) (by simp [results, Tryz.results65, go_sem, *]) rfl ⟨rfl, ?_⟩
      (repeat (first | (with_reducible exact Below.refl _ _) | (with_reducible assumption) | (with_reducible apply below_drewN) | (with_reducible apply Below.drew) | ((with_reducible refine Below.setCell ?_ ?_ _); rotate_left; focus (first | (simp; done) | (simp; omega) | omega)) | ((with_reducible refine Below.alloc ?_ ?_ _); rotate_left; focus (first | (simp; done) | (simp; omega) | omega))))
  · cases desc
    · obtain rfl : R = ⟨ol, kh, false⟩ := by rw [HR.out]; show ordT 6 v false = _; unfold ordT; rw [E1.out, E2.out]; rfl
      go_wp2_with fail
      refine bodyPost_ret (v := .agg #[.string ol, .string kh, .bool false]) (by simp [results, Tryz.results65, go_sem, *]) rfl ⟨rfl, ?_⟩
      (repeat (first | (with_reducible exact Below.refl _ _) | (with_reducible assumption) | (with_reducible apply below_drewN) | (with_reducible apply Below.drew) | ((with_reducible refine Below.setCell ?_ ?_ _); rotate_left; focus (first | (simp; done) | (simp; omega) | omega)) | ((with_reducible refine Below.alloc ?_ ?_ _); rotate_left; focus (first | (simp; done) | (simp; omega) | omega))))
    · obtain rfl : R = ⟨kl, oh, false⟩ := by rw [HR.out]; show ordT 6 v true = _; unfold ordT; rw [E1.out, E2.out]; rfl
      go_wp2_with fail
      refine (HM1.out _).mono ?_
      rintro e w6 ⟨rfl, hb⟩
      have X6 := X5.step hb
      have r0' := X6.res.c0
      have r1' := X6.res.c1
      have r2' := X6.res.c2
      have t0' := X6.res.f0
      have t1' := X6.res.f1
      have t2' := X6.res.f2
      have rl' := X6.res.lt
      have hbw' := X6.box.bel
      clear hb X5 X6 r0 r1 r2 t0 t1 t2 rl a0 a1 k0 k1 k2 kf o0 o1 o2 hbw
      go_wp2_with fail
      refine bodyPost_ret (v := .agg #[.string kl, .string oh, .bool false]) (by simp [results, Tryz.results65, go_sem, *]) rfl ⟨rfl, ?_⟩
      (repeat (first | (with_reducible exact Below.refl _ _) | (with_reducible assumption) | (with_reducible apply below_drewN) | (with_reducible apply Below.drew) | ((with_reducible refine Below.setCell ?_ ?_ _); rotate_left; focus (first | (simp; done) | (simp; omega) | omega)) | ((with_reducible refine Below.alloc ?_ ?_ _); rotate_left; focus (first | (simp; done) | (simp; omega) | omega))))
  · obtain rfl : R = ⟨em, em, true⟩ := by rw [HR.out]; rfl
    go_wp2_with fail
    refine bodyPost_ret (v := .agg #[.string em, .string em, .bool true]) (by simp [results, Tryz.results65, go_sem, *]) rfl ⟨rfl, ?_⟩
    (repeat (first | (with_reducible exact Below.refl _ _) | (with_reducible assumption) | (with_reducible apply below_drewN) | (with_reducible apply Below.drew) | ((with_reducible refine Below.setCell ?_ ?_ _); rotate_left; focus (first | (simp; done) | (simp; omega) | omega)) | ((with_reducible refine Below.alloc ?_ ?_ _); rotate_left; focus (first | (simp; done) | (simp; omega) | omega))))
  · obtain rfl : R = ⟨em, em, true⟩ := by rw [HR.out]; rfl
    go_wp2_with fail
    refine bodyPost_ret (v := .agg #[.string em, .string em, .bool true]) (by simp [results, Tryz.results65, go_sem, *]) rfl ⟨rfl, ?_⟩
    (repeat (first | (with_reducible exact Below.refl _ _) | (with_reducible assumption) | (with_reducible apply below_drewN) | (with_reducible apply Below.drew) | ((with_reducible refine Below.setCell ?_ ?_ _); rotate_left; focus (first | (simp; done) | (simp; omega) | omega)) | ((with_reducible refine Below.alloc ?_ ?_ _); rotate_left; focus (first | (simp; done) | (simp; omega) | omega))))
  · obtain ⟨n0, n9⟩ := HNN.out rfl
    have hk2 : IntKind.i64.wrap (v.n + 1) = v.n + 1 := by rw [IntKind.wrap_i64]; omega
    have HN2 : Hid (∀ W : World, Calls _ _ _ W _) := num_of v.n n0 n9
    have HT2 : Hid (∀ W : World, Calls _ _ _ W _) := fun W => l04Turned_any [kb v.n] desc W (by simp)
    have HG2 : Hid (∀ W : World, Calls _ _ _ W _) := fun W => l04Begin_any (dirK desc [kb v.n]) W (by cases desc <;> (show 1 ≤ 100000; omega))
    obtain rfl : R = ⟨mkB (dirK desc [kb v.n]), (beginI (dirK desc [kb v.n])).hi, (beginI (dirK desc [kb v.n])).op⟩ := by rw [HR.out]; rfl
    obtain ⟨bl, hbl⟩ : ∃ bl, bl = mkB (dirK desc [kb v.n]) := ⟨_, rfl⟩
    obtain ⟨bh, hbh⟩ : ∃ bh, bh = (beginI (dirK desc [kb v.n])).hi := ⟨_, rfl⟩
    obtain ⟨bo, hbo⟩ : ∃ bo, bo = (beginI (dirK desc [kb v.n])).op := ⟨_, rfl⟩
    have HT3 : Hid (∀ W : World, Calls _ _ _ W _) := HT2.out
    have HG3 : Hid (∀ W : World, Calls _ _ _ W _) := HG2.out
    simp only [← hbl, ← hbh, ← hbo] at HT3 HG3
    have HF : Hid (_ ∧ _ ∧ _) := ⟨hbl, hbh, hbo⟩
    clear HT2 HG2 hbl hbh hbo k0 k1 k2 kf o0 o1 o2
    go_wp2_with fail
    refine (HN2.out _).mono ?_
    rintro e w6 ⟨rfl, hb⟩
    have X6 := X5.step hb
    clear hb X5 r0 r1 r2 t0 t1 t2 a0 a1 rl
    go_wp2_with fail
    refine (HT3.out _).mono ?_
    rintro e w7 ⟨rfl, hb⟩
    have X7 := X6.step hb
    clear hb X6
    go_wp2_with fail
    refine (HG3.out _).mono ?_
    rintro e w8 ⟨rfl, hb⟩
    have X8 := X7.step hb
    have r0 := X8.res.c0
    have r1 := X8.res.c1
    have r2 := X8.res.c2
    have t0 := X8.res.f0
    have t1 := X8.res.f1
    have t2 := X8.res.f2
    have rl := X8.res.lt
    have hbw2 := X8.box.bel
    clear hb X7 X8
    go_wp2_with fail
    refine bodyPost_ret (v := .agg #[.string bl, .string bh, .bool bo]) (by simp [results, Tryz.results65, go_sem, *]) rfl ⟨?_, ?_⟩
    · obtain ⟨q1, q2, q3⟩ := HF.out; rw [q1, q2, q3]
    · (repeat (first | (with_reducible exact Below.refl _ _) | (with_reducible assumption) | (with_reducible apply below_drewN) | (with_reducible apply Below.drew) | ((with_reducible refine Below.setCell ?_ ?_ _); rotate_left; focus (first | (simp; done) | (simp; omega) | omega)) | ((with_reducible refine Below.alloc ?_ ?_ _); rotate_left; focus (first | (simp; done) | (simp; omega) | omega))))
  · obtain rfl : R = ⟨em, em, true⟩ := by rw [HR.out]; rfl
    go_wp2_with fail
    refine bodyPost_ret (v := .agg #[.string em, .string em, .bool true]) (by simp [results, Tryz.results65, go_sem, *]) rfl ⟨rfl, ?_⟩
    (repeat (first | (with_reducible exact Below.refl _ _) | (with_reducible assumption) | (with_reducible apply below_drewN) | (with_reducible apply Below.drew) | ((with_reducible refine Below.setCell ?_ ?_ _); rotate_left; focus (first | (simp; done) | (simp; omega) | omega)) | ((with_reducible refine Below.alloc ?_ ?_ _); rotate_left; focus (first | (simp; done) | (simp; omega) | omega))))

end Go.Proofs.YtkeghknceccdmaaGreatDoor
