/- The part of a kind's interval on one side of a value: the program's answer. -/
import Derived.Test.YtkeghknceccdmaaGreatDoorTintI
namespace Go.Proofs.YtkeghknceccdmaaGreatDoor
open Go.RowKit
set_option linter.unusedVariables false

theorem I3.stepA {W W' : World} {g : Nat} {x y z : Value} {o : Obj} (h : I3 W g x y z) (hb : Below (W.alloc o).heap.size (W.alloc o) W') : I3 W' g x y z := (h.step ((Below.refl _ _).alloc (Nat.le_refl _) o)).step hb
theorem I3.stepAA {W W' : World} {g : Nat} {x y z : Value} {o o' : Obj} (h : I3 W g x y z) (hb : Below ((W.alloc o).alloc o').heap.size ((W.alloc o).alloc o') W') : I3 W' g x y z := (h.step ((Below.refl _ _).alloc (Nat.le_refl _) o)).stepA hb
theorem ne_up {g n : Nat} (h : g < n) : g ≠ n ∧ n ≠ g ∧ g ≠ n + 1 ∧ n + 1 ≠ g := by omega
set_option maxRecDepth 8000 in
set_option maxHeartbeats 16000000 in
theorem orderInterval_any (op : Int) (p : ByteArray) (v : Val) (desc : Bool) (w : World) (h : okB v = true) (hop : op = 3 ∨ op = 4 ∨ op = 5 ∨ op = 6) :
    Calls Tryz.prog 63 #[.agg #[.int .i64 op, .string p, .int .i64 v.k, .int .i64 v.n, .string v.t], .bool desc] w fun e w' => e = .returned (.agg #[.string (ordT op v desc).lo, .string (ordT op v desc).hi, .bool (ordT op v desc).op]) ∧ Below w.heap.size w w' := by
  obtain ⟨h0, h5⟩ := fits_kind v h
  have hK0 := fun W : World => ofKind_any v.k desc W h0 h5
  have hO0 := fun W : World => keyOf_any v desc W h
  have hkz := key_size v h
  rw [mkB_size] at hkz
  have hdz : (dirK desc (keyV 5 v)).length = (keyV 5 v).length := by cases desc; rfl; exact turnL_len _
  have hB0 := fun W : World => beginning_any (mkB (dirK desc (keyV 5 v))) W (by rw [mkB_size, hdz]; omega)
  rw [mkB_data, mkB_size] at hB0
  obtain ⟨c, r, s, _, e1, e2, _⟩ := one_begin v desc h
  have hone : oneI v desc = ⟨mkB (dirK desc (keyV 5 v)), mkB (behN (dirK desc (keyV 5 v)) (dirK desc (keyV 5 v)).length).1, !(behN (dirK desc (keyV 5 v)) (dirK desc (keyV 5 v)).length).2⟩ := rfl
  obtain ⟨kl, kh, hkI⟩ : ∃ kl kh, kindI v.k desc = ⟨kl, kh, false⟩ := ⟨_, _, e1⟩
  obtain ⟨ol, oh, hoI⟩ : ∃ ol oh, oneI v desc = ⟨ol, oh, false⟩ := ⟨_, _, e2⟩
  rw [hoI] at hone
  injection hone with g1 g2 g3
  rw [← g1] at hO0
  rw [← g1, ← g2, ← g3] at hB0
  rw [hkI] at hK0
  have HK : Hid (∀ W : World, Calls _ _ _ W _) := hK0
  have HO : Hid (∀ W : World, Calls _ _ _ W _) := hO0
  have HB : Hid (∀ W : World, Calls _ _ _ W _) := hB0
  obtain ⟨q, hq⟩ : ∃ q, q = if desc then turnO op else op := ⟨_, rfl⟩
  have hqr : q = 3 ∨ q = 4 ∨ q = 5 ∨ q = 6 := by
    rw [hq]
    cases desc
    · exact hop
    · rcases hop with rfl | rfl | rfl | rfl <;> simp [turnO]
  have hres : ordT op v desc = if q = 5 then ⟨oh, kh, false⟩ else if q = 6 then ⟨ol, kh, false⟩ else if q = 3 then ⟨kl, ol, false⟩ else ⟨kl, oh, false⟩ := by
    unfold ordT
    rw [hkI, hoI, hq]
    cases desc
    · rcases hop with rfl | rfl | rfl | rfl <;> simp
    · rcases hop with rfl | rfl | rfl | rfl <;> simp [turnO]
  rw [hres]
  have HQ : Hid (_ = _) := hq
  have HOP : Hid _ := hop
  have HQR : Hid _ := hqr
  have X0 := Fr.start w (.int .i64 op) (.string p) (.int .i64 v.k) (.int .i64 v.n) (.string v.t) 34 24
  clear hK0 hO0 hB0 hkz hdz e1 e2 hkI hoI g1 g2 g3 hq hqr hres hop h0 h5
  simp only at HK
  cases desc
  · obtain rfl : op = q := by simpa using HQ.out.symm
    go_enter Tryz.func63, Tryz.ntmps63
    go_wp2_with fail
    generalize (w.alloc (.cells #[.int .i64 op, .string p, .int .i64 v.k, .int .i64 v.n, .string v.t] 34)).alloc (.cells #[.string em, .string em, .bool false] 24) = W0 at X0 ⊢
    have a2 := X0.box.c2
    have a3 := X0.box.c3
    have a4 := X0.box.c4
    have hlt1 := X0.res.lt
    have hltw := X0.box.lt
    go_cut [6, 7] (fun s6 s7 wx => ∃ g h, s6 = .pointer (some ⟨g, 0, none⟩) ∧ s7 = .pointer (some ⟨h, 0, none⟩) ∧ g ≠ h ∧ W0.heap.size ≤ g ∧ W0.heap.size ≤ h ∧ I3 wx g (.string kl) (.string kh) (.bool false) ∧ (h < wx.heap.size ∧ wx.cell? ⟨h, 0, none⟩ = some (.string ol) ∧ wx.cell? ⟨h, 1, none⟩ = some (.string oh)) ∧ Below W0.heap.size W0 wx)
    case first =>
      go_region_held3 (fun w0 => w0.cell? ⟨w.heap.size, 2, none⟩ = some (.int .i64 v.k) ∧ w0.cell? ⟨w.heap.size, 3, none⟩ = some (.int .i64 v.n) ∧ w0.cell? ⟨w.heap.size, 4, none⟩ = some (.string v.t)) ((refine keepF X0 ?_; (repeat (first | (with_reducible exact Below.refl _ _) | (with_reducible assumption) | (with_reducible apply below_drewN) | (with_reducible apply Below.drew) | ((with_reducible refine Below.setCell ?_ ?_ _); rotate_left; focus (first | (simp; done) | (simp; omega) | omega)) | ((with_reducible refine Below.alloc ?_ ?_ _); rotate_left; focus (first | (simp; done) | (simp; omega) | omega)))))) (first | (go_at_call 62; refine (HK.out _).mono ?_; rintro e w1 ⟨rfl, hb⟩; have hB1 : Below W0.heap.size W0 w1 := (show Below W0.heap.size W0 _ by (repeat (first | (with_reducible exact Below.refl _ _) | (with_reducible assumption) | (with_reducible apply below_drewN) | (with_reducible apply Below.drew) | ((with_reducible refine Below.setCell ?_ ?_ _); rotate_left; focus (first | (simp; done) | (simp; omega) | omega)) | ((with_reducible refine Below.alloc ?_ ?_ _); rotate_left; focus (first | (simp; done) | (simp; omega) | omega))))).trans (hb.mono (by first | (simp; done) | (simp; omega) | omega)); have hzb1 := hB1.size; have hn1 := Nat.lt_of_lt_of_le hltw hzb1; (try have A1 := one3e (W := W0) hb); (try have A1 := one3d (W := W0) hb); (try have A1 := one3 (W := W0) hb); (try have AB1 := two3e (W := W0) hb); (try have AB1 := two3d (W := W0) hb); (try have AB1 := two3 (W := W0) hb); (try have B1 := AB1.2); (try have A1 := AB1.1); (try have A1l := A1.lt); (try have A1N := ne_up A1l); (try obtain ⟨A1n, A1m, A1o, A1p⟩ := A1N); (try have A1c := A1.c0); (try have A1d := A1.c1); (try have A1e := A1.c2); (try have A1f := A1.f0); (try have A1g := A1.f1); (try have A1h := A1.f2); (try have B1l := B1.lt); (try have B1N := ne_up B1l); (try obtain ⟨B1n, B1m, B1o, B1p⟩ := B1N); (try have B1c := B1.c0); (try have B1d := B1.c1); (try have B1e := B1.c2); (try have B1f := B1.f0); (try have B1g := B1.f1); (try have B1h := B1.f2); try clear hb) | (go_at_call 50; refine (HO.out _).mono ?_; rintro e w2 ⟨rfl, hb⟩; have hB2 : Below W0.heap.size W0 w2 := (show Below W0.heap.size W0 _ by (repeat (first | (with_reducible exact Below.refl _ _) | (with_reducible assumption) | (with_reducible apply below_drewN) | (with_reducible apply Below.drew) | ((with_reducible refine Below.setCell ?_ ?_ _); rotate_left; focus (first | (simp; done) | (simp; omega) | omega)) | ((with_reducible refine Below.alloc ?_ ?_ _); rotate_left; focus (first | (simp; done) | (simp; omega) | omega))))).trans (hb.mono (by first | (simp; done) | (simp; omega) | omega)); have hzb2 := hB2.size; have hn2 := Nat.lt_of_lt_of_le hltw hzb2; (try have A2 := one3 (W := w1) hb); (try have AB2 := two3 (W := w1) hb); (try have B2 := AB2.2); (try have A2 := AB2.1); (first | have A12 := I3.step A1 hb | have A12 := I3.stepA A1 hb | have A12 := I3.stepAA A1 hb | skip); (first | have B12 := I3.step B1 hb | have B12 := I3.stepA B1 hb | have B12 := I3.stepAA B1 hb | skip); (try have A2l := A2.lt); (try have A2N := ne_up A2l); (try obtain ⟨A2n, A2m, A2o, A2p⟩ := A2N); (try have A2c := A2.c0); (try have A2d := A2.c1); (try have A2e := A2.c2); (try have A2f := A2.f0); (try have A2g := A2.f1); (try have A2h := A2.f2); (try have B2l := B2.lt); (try have B2N := ne_up B2l); (try obtain ⟨B2n, B2m, B2o, B2p⟩ := B2N); (try have B2c := B2.c0); (try have B2d := B2.c1); (try have B2e := B2.c2); (try have B2f := B2.f0); (try have B2g := B2.f1); (try have B2h := B2.f2); (try have A12l := A12.lt); (try have A12N := ne_up A12l); (try obtain ⟨A12n, A12m, A12o, A12p⟩ := A12N); (try have A12c := A12.c0); (try have A12d := A12.c1); (try have A12e := A12.c2); (try have A12f := A12.f0); (try have A12g := A12.f1); (try have A12h := A12.f2); (try have B12l := B12.lt); (try have B12N := ne_up B12l); (try obtain ⟨B12n, B12m, B12o, B12p⟩ := B12N); (try have B12c := B12.c0); (try have B12d := B12.c1); (try have B12e := B12.c2); (try have B12f := B12.f0); (try have B12g := B12.f1); (try have B12h := B12.f2); try clear hb) | (go_at_call 61; refine (HB.out _).mono ?_; rintro e w3 ⟨rfl, hb⟩; have hB3 : Below W0.heap.size W0 w3 := (show Below W0.heap.size W0 _ by (repeat (first | (with_reducible exact Below.refl _ _) | (with_reducible assumption) | (with_reducible apply below_drewN) | (with_reducible apply Below.drew) | ((with_reducible refine Below.setCell ?_ ?_ _); rotate_left; focus (first | (simp; done) | (simp; omega) | omega)) | ((with_reducible refine Below.alloc ?_ ?_ _); rotate_left; focus (first | (simp; done) | (simp; omega) | omega))))).trans (hb.mono (by first | (simp; done) | (simp; omega) | omega)); have hzb3 := hB3.size; have hn3 := Nat.lt_of_lt_of_le hltw hzb3; (try have A3 := one3 (W := w2) hb); (try have AB3 := two3 (W := w2) hb); (try have B3 := AB3.2); (try have A3 := AB3.1); (first | have A23 := I3.step A2 hb | have A23 := I3.stepA A2 hb | have A23 := I3.stepAA A2 hb | skip); (first | have B23 := I3.step B2 hb | have B23 := I3.stepA B2 hb | have B23 := I3.stepAA B2 hb | skip); (first | have A123 := I3.step A12 hb | have A123 := I3.stepA A12 hb | have A123 := I3.stepAA A12 hb | skip); (first | have B123 := I3.step B12 hb | have B123 := I3.stepA B12 hb | have B123 := I3.stepAA B12 hb | skip); (try have A3l := A3.lt); (try have A3N := ne_up A3l); (try obtain ⟨A3n, A3m, A3o, A3p⟩ := A3N); (try have A3c := A3.c0); (try have A3d := A3.c1); (try have A3e := A3.c2); (try have A3f := A3.f0); (try have A3g := A3.f1); (try have A3h := A3.f2); (try have B3l := B3.lt); (try have B3N := ne_up B3l); (try obtain ⟨B3n, B3m, B3o, B3p⟩ := B3N); (try have B3c := B3.c0); (try have B3d := B3.c1); (try have B3e := B3.c2); (try have B3f := B3.f0); (try have B3g := B3.f1); (try have B3h := B3.f2); (try have A23l := A23.lt); (try have A23N := ne_up A23l); (try obtain ⟨A23n, A23m, A23o, A23p⟩ := A23N); (try have A23c := A23.c0); (try have A23d := A23.c1); (try have A23e := A23.c2); (try have A23f := A23.f0); (try have A23g := A23.f1); (try have A23h := A23.f2); (try have B23l := B23.lt); (try have B23N := ne_up B23l); (try obtain ⟨B23n, B23m, B23o, B23p⟩ := B23N); (try have B23c := B23.c0); (try have B23d := B23.c1); (try have B23e := B23.c2); (try have B23f := B23.f0); (try have B23g := B23.f1); (try have B23h := B23.f2); (try have A123l := A123.lt); (try have A123N := ne_up A123l); (try obtain ⟨A123n, A123m, A123o, A123p⟩ := A123N); (try have A123c := A123.c0); (try have A123d := A123.c1); (try have A123e := A123.c2); (try have A123f := A123.f0); (try have A123g := A123.f1); (try have A123h := A123.f2); (try have B123l := B123.lt); (try have B123N := ne_up B123l); (try obtain ⟨B123n, B123m, B123o, B123p⟩ := B123N); (try have B123c := B123.c0); (try have B123d := B123.c1); (try have B123e := B123.c2); (try have B123f := B123.f0); (try have B123g := B123.f1); (try have B123h := B123.f2); try clear hb))
      all_goals
        try go_wp2_with fail
        go_meet
        refine ⟨_, _, rfl, rfl, ?_, ?_, ?_, ⟨?_, ?_, ?_, ?_, ?_, ?_, ?_⟩, ⟨?_, ?_, ?_⟩, ?_⟩
        · first | omega | (simp; omega)
        · first | omega | (simp; omega)
        · first | omega | (simp; omega)
        · first | (simp; done) | (simp; omega)
        · simp [go_sem, *]
        · simp [go_sem, *]
        · simp [go_sem, *]
        · simp [go_sem, *]
        · simp [go_sem, *]
        · simp [go_sem, *]
        · first | (simp; done) | (simp; omega)
        · simp [go_sem, *]
        · simp [go_sem, *]
        · (repeat (first | (with_reducible exact Below.refl _ _) | (with_reducible assumption) | (with_reducible apply below_drewN) | (with_reducible apply Below.drew) | ((with_reducible refine Below.setCell ?_ ?_ _); rotate_left; focus (first | (simp; done) | (simp; omega) | omega)) | ((with_reducible refine Below.alloc ?_ ?_ _); rotate_left; focus (first | (simp; done) | (simp; omega) | omega))))
    case rest =>
      obtain ⟨g, h', rfl, rfl, hgh, hg0, hh0, Y, ⟨yl, y0, y1⟩, hbc⟩ := hcut
      have X := X0.step hbc
      have n1 : g ≠ w.heap.size + 1 := by omega
      have n2 : h' ≠ w.heap.size + 1 := by omega
      have n3 : w.heap.size + 1 ≠ g := by omega
      have n4 : h' ≠ g := fun e => hgh e.symm
      have r0 := X.res.c0
      have r1 := X.res.c1
      have r2 := X.res.c2
      have s0 := X.res.f0
      have s1 := X.res.f1
      have s2 := X.res.f2
      have rl := X.res.lt
      have k0 := Y.c0
      have k1 := Y.c1
      have k2 := Y.c2
      have m0 := Y.f0
      have m1 := Y.f1
      have m2 := Y.f2
      have hgl := Y.lt
      have hbw := X.box.bel
      clear X0 X Y a2 a3 a4 hbc HK HO HB
      rcases HQR.out with rfl | rfl | rfl | rfl
      · go_wp2_with fail
        refine bodyPost_ret (v := .agg #[.string kl, .string ol, .bool false]) (by simp [results, Tryz.results63, go_sem, *]) rfl ⟨rfl, ?_⟩
        (repeat (first | (with_reducible exact Below.refl _ _) | (with_reducible assumption) | (with_reducible apply below_drewN) | (with_reducible apply Below.drew) | ((with_reducible refine Below.setCell ?_ ?_ _); rotate_left; focus (first | (simp; done) | (simp; omega) | omega)) | ((with_reducible refine Below.alloc ?_ ?_ _); rotate_left; focus (first | (simp; done) | (simp; omega) | omega))))
      · go_wp2_with fail
        refine bodyPost_ret (v := .agg #[.string kl, .string oh, .bool false]) (by simp [results, Tryz.results63, go_sem, *]) rfl ⟨rfl, ?_⟩
        (repeat (first | (with_reducible exact Below.refl _ _) | (with_reducible assumption) | (with_reducible apply below_drewN) | (with_reducible apply Below.drew) | ((with_reducible refine Below.setCell ?_ ?_ _); rotate_left; focus (first | (simp; done) | (simp; omega) | omega)) | ((with_reducible refine Below.alloc ?_ ?_ _); rotate_left; focus (first | (simp; done) | (simp; omega) | omega))))
      · go_wp2_with fail
        refine bodyPost_ret (v := .agg #[.string oh, .string kh, .bool false]) (by simp [results, Tryz.results63, go_sem, *]) rfl ⟨rfl, ?_⟩
        (repeat (first | (with_reducible exact Below.refl _ _) | (with_reducible assumption) | (with_reducible apply below_drewN) | (with_reducible apply Below.drew) | ((with_reducible refine Below.setCell ?_ ?_ _); rotate_left; focus (first | (simp; done) | (simp; omega) | omega)) | ((with_reducible refine Below.alloc ?_ ?_ _); rotate_left; focus (first | (simp; done) | (simp; omega) | omega))))
      · go_wp2_with fail
        refine bodyPost_ret (v := .agg #[.string ol, .string kh, .bool false]) (by simp [results, Tryz.results63, go_sem, *]) rfl ⟨rfl, ?_⟩
        (repeat (first | (with_reducible exact Below.refl _ _) | (with_reducible assumption) | (with_reducible apply below_drewN) | (with_reducible apply Below.drew) | ((with_reducible refine Below.setCell ?_ ?_ _); rotate_left; focus (first | (simp; done) | (simp; omega) | omega)) | ((with_reducible refine Below.alloc ?_ ?_ _); rotate_left; focus (first | (simp; done) | (simp; omega) | omega))))
  · have hq2 : turnO op = q := by simpa using HQ.out.symm
    have HQ2 : Hid (_ = _) := hq2
    clear hq2
    go_enter Tryz.func63, Tryz.ntmps63
    go_wp2_with fail
    refine (turnedOp_any op _ HOP.out).mono ?_
    rintro e wf ⟨rfl, rfl⟩
    rw [HQ2.out]
    go_wp2_with fail
    generalize (w.alloc (.cells #[.int .i64 op, .string p, .int .i64 v.k, .int .i64 v.n, .string v.t] 34)).alloc (.cells #[.string em, .string em, .bool false] 24) = W0 at X0 ⊢
    have a2 := X0.box.c2
    have a3 := X0.box.c3
    have a4 := X0.box.c4
    have hlt1 := X0.res.lt
    have hltw := X0.box.lt
    go_cut [6, 7] (fun s6 s7 wx => ∃ g h, s6 = .pointer (some ⟨g, 0, none⟩) ∧ s7 = .pointer (some ⟨h, 0, none⟩) ∧ g ≠ h ∧ W0.heap.size ≤ g ∧ W0.heap.size ≤ h ∧ I3 wx g (.string kl) (.string kh) (.bool false) ∧ (h < wx.heap.size ∧ wx.cell? ⟨h, 0, none⟩ = some (.string ol) ∧ wx.cell? ⟨h, 1, none⟩ = some (.string oh)) ∧ Below W0.heap.size W0 wx)
    case first =>
      go_region_held3 (fun w0 => w0.cell? ⟨w.heap.size, 2, none⟩ = some (.int .i64 v.k) ∧ w0.cell? ⟨w.heap.size, 3, none⟩ = some (.int .i64 v.n) ∧ w0.cell? ⟨w.heap.size, 4, none⟩ = some (.string v.t)) ((refine keepF X0 ?_; (repeat (first | (with_reducible exact Below.refl _ _) | (with_reducible assumption) | (with_reducible apply below_drewN) | (with_reducible apply Below.drew) | ((with_reducible refine Below.setCell ?_ ?_ _); rotate_left; focus (first | (simp; done) | (simp; omega) | omega)) | ((with_reducible refine Below.alloc ?_ ?_ _); rotate_left; focus (first | (simp; done) | (simp; omega) | omega)))))) (first | (go_at_call 62; refine (HK.out _).mono ?_; rintro e w1 ⟨rfl, hb⟩; have hB1 : Below W0.heap.size W0 w1 := (show Below W0.heap.size W0 _ by (repeat (first | (with_reducible exact Below.refl _ _) | (with_reducible assumption) | (with_reducible apply below_drewN) | (with_reducible apply Below.drew) | ((with_reducible refine Below.setCell ?_ ?_ _); rotate_left; focus (first | (simp; done) | (simp; omega) | omega)) | ((with_reducible refine Below.alloc ?_ ?_ _); rotate_left; focus (first | (simp; done) | (simp; omega) | omega))))).trans (hb.mono (by first | (simp; done) | (simp; omega) | omega)); have hzb1 := hB1.size; have hn1 := Nat.lt_of_lt_of_le hltw hzb1; (try have A1 := one3e (W := W0) hb); (try have A1 := one3d (W := W0) hb); (try have A1 := one3 (W := W0) hb); (try have AB1 := two3e (W := W0) hb); (try have AB1 := two3d (W := W0) hb); (try have AB1 := two3 (W := W0) hb); (try have B1 := AB1.2); (try have A1 := AB1.1); (try have A1l := A1.lt); (try have A1N := ne_up A1l); (try obtain ⟨A1n, A1m, A1o, A1p⟩ := A1N); (try have A1c := A1.c0); (try have A1d := A1.c1); (try have A1e := A1.c2); (try have A1f := A1.f0); (try have A1g := A1.f1); (try have A1h := A1.f2); (try have B1l := B1.lt); (try have B1N := ne_up B1l); (try obtain ⟨B1n, B1m, B1o, B1p⟩ := B1N); (try have B1c := B1.c0); (try have B1d := B1.c1); (try have B1e := B1.c2); (try have B1f := B1.f0); (try have B1g := B1.f1); (try have B1h := B1.f2); try clear hb) | (go_at_call 50; refine (HO.out _).mono ?_; rintro e w2 ⟨rfl, hb⟩; have hB2 : Below W0.heap.size W0 w2 := (show Below W0.heap.size W0 _ by (repeat (first | (with_reducible exact Below.refl _ _) | (with_reducible assumption) | (with_reducible apply below_drewN) | (with_reducible apply Below.drew) | ((with_reducible refine Below.setCell ?_ ?_ _); rotate_left; focus (first | (simp; done) | (simp; omega) | omega)) | ((with_reducible refine Below.alloc ?_ ?_ _); rotate_left; focus (first | (simp; done) | (simp; omega) | omega))))).trans (hb.mono (by first | (simp; done) | (simp; omega) | omega)); have hzb2 := hB2.size; have hn2 := Nat.lt_of_lt_of_le hltw hzb2; (try have A2 := one3 (W := w1) hb); (try have AB2 := two3 (W := w1) hb); (try have B2 := AB2.2); (try have A2 := AB2.1); (first | have A12 := I3.step A1 hb | have A12 := I3.stepA A1 hb | have A12 := I3.stepAA A1 hb | skip); (first | have B12 := I3.step B1 hb | have B12 := I3.stepA B1 hb | have B12 := I3.stepAA B1 hb | skip); (try have A2l := A2.lt); (try have A2N := ne_up A2l); (try obtain ⟨A2n, A2m, A2o, A2p⟩ := A2N); (try have A2c := A2.c0); (try have A2d := A2.c1); (try have A2e := A2.c2); (try have A2f := A2.f0); (try have A2g := A2.f1); (try have A2h := A2.f2); (try have B2l := B2.lt); (try have B2N := ne_up B2l); (try obtain ⟨B2n, B2m, B2o, B2p⟩ := B2N); (try have B2c := B2.c0); (try have B2d := B2.c1); (try have B2e := B2.c2); (try have B2f := B2.f0); (try have B2g := B2.f1); (try have B2h := B2.f2); (try have A12l := A12.lt); (try have A12N := ne_up A12l); (try obtain ⟨A12n, A12m, A12o, A12p⟩ := A12N); (try have A12c := A12.c0); (try have A12d := A12.c1); (try have A12e := A12.c2); (try have A12f := A12.f0); (try have A12g := A12.f1); (try have A12h := A12.f2); (try have B12l := B12.lt); (try have B12N := ne_up B12l); (try obtain ⟨B12n, B12m, B12o, B12p⟩ := B12N); (try have B12c := B12.c0); (try have B12d := B12.c1); (try have B12e := B12.c2); (try have B12f := B12.f0); (try have B12g := B12.f1); (try have B12h := B12.f2); try clear hb) | (go_at_call 61; refine (HB.out _).mono ?_; rintro e w3 ⟨rfl, hb⟩; have hB3 : Below W0.heap.size W0 w3 := (show Below W0.heap.size W0 _ by (repeat (first | (with_reducible exact Below.refl _ _) | (with_reducible assumption) | (with_reducible apply below_drewN) | (with_reducible apply Below.drew) | ((with_reducible refine Below.setCell ?_ ?_ _); rotate_left; focus (first | (simp; done) | (simp; omega) | omega)) | ((with_reducible refine Below.alloc ?_ ?_ _); rotate_left; focus (first | (simp; done) | (simp; omega) | omega))))).trans (hb.mono (by first | (simp; done) | (simp; omega) | omega)); have hzb3 := hB3.size; have hn3 := Nat.lt_of_lt_of_le hltw hzb3; (try have A3 := one3 (W := w2) hb); (try have AB3 := two3 (W := w2) hb); (try have B3 := AB3.2); (try have A3 := AB3.1); (first | have A23 := I3.step A2 hb | have A23 := I3.stepA A2 hb | have A23 := I3.stepAA A2 hb | skip); (first | have B23 := I3.step B2 hb | have B23 := I3.stepA B2 hb | have B23 := I3.stepAA B2 hb | skip); (first | have A123 := I3.step A12 hb | have A123 := I3.stepA A12 hb | have A123 := I3.stepAA A12 hb | skip); (first | have B123 := I3.step B12 hb | have B123 := I3.stepA B12 hb | have B123 := I3.stepAA B12 hb | skip); (try have A3l := A3.lt); (try have A3N := ne_up A3l); (try obtain ⟨A3n, A3m, A3o, A3p⟩ := A3N); (try have A3c := A3.c0); (try have A3d := A3.c1); (try have A3e := A3.c2); (try have A3f := A3.f0); (try have A3g := A3.f1); (try have A3h := A3.f2); (try have B3l := B3.lt); (try have B3N := ne_up B3l); (try obtain ⟨B3n, B3m, B3o, B3p⟩ := B3N); (try have B3c := B3.c0); (try have B3d := B3.c1); (try have B3e := B3.c2); (try have B3f := B3.f0); (try have B3g := B3.f1); (try have B3h := B3.f2); (try have A23l := A23.lt); (try have A23N := ne_up A23l); (try obtain ⟨A23n, A23m, A23o, A23p⟩ := A23N); (try have A23c := A23.c0); (try have A23d := A23.c1); (try have A23e := A23.c2); (try have A23f := A23.f0); (try have A23g := A23.f1); (try have A23h := A23.f2); (try have B23l := B23.lt); (try have B23N := ne_up B23l); (try obtain ⟨B23n, B23m, B23o, B23p⟩ := B23N); (try have B23c := B23.c0); (try have B23d := B23.c1); (try have B23e := B23.c2); (try have B23f := B23.f0); (try have B23g := B23.f1); (try have B23h := B23.f2); (try have A123l := A123.lt); (try have A123N := ne_up A123l); (try obtain ⟨A123n, A123m, A123o, A123p⟩ := A123N); (try have A123c := A123.c0); (try have A123d := A123.c1); (try have A123e := A123.c2); (try have A123f := A123.f0); (try have A123g := A123.f1); (try have A123h := A123.f2); (try have B123l := B123.lt); (try have B123N := ne_up B123l); (try obtain ⟨B123n, B123m, B123o, B123p⟩ := B123N); (try have B123c := B123.c0); (try have B123d := B123.c1); (try have B123e := B123.c2); (try have B123f := B123.f0); (try have B123g := B123.f1); (try have B123h := B123.f2); try clear hb))
      all_goals
        try go_wp2_with fail
        go_meet
        refine ⟨_, _, rfl, rfl, ?_, ?_, ?_, ⟨?_, ?_, ?_, ?_, ?_, ?_, ?_⟩, ⟨?_, ?_, ?_⟩, ?_⟩
        · first | omega | (simp; omega)
        · first | omega | (simp; omega)
        · first | omega | (simp; omega)
        · first | (simp; done) | (simp; omega)
        · simp [go_sem, *]
        · simp [go_sem, *]
        · simp [go_sem, *]
        · simp [go_sem, *]
        · simp [go_sem, *]
        · simp [go_sem, *]
        · first | (simp; done) | (simp; omega)
        · simp [go_sem, *]
        · simp [go_sem, *]
        · (repeat (first | (with_reducible exact Below.refl _ _) | (with_reducible assumption) | (with_reducible apply below_drewN) | (with_reducible apply Below.drew) | ((with_reducible refine Below.setCell ?_ ?_ _); rotate_left; focus (first | (simp; done) | (simp; omega) | omega)) | ((with_reducible refine Below.alloc ?_ ?_ _); rotate_left; focus (first | (simp; done) | (simp; omega) | omega))))
    case rest =>
      obtain ⟨g, h', rfl, rfl, hgh, hg0, hh0, Y, ⟨yl, y0, y1⟩, hbc⟩ := hcut
      have X := X0.step hbc
      have n1 : g ≠ w.heap.size + 1 := by omega
      have n2 : h' ≠ w.heap.size + 1 := by omega
      have n3 : w.heap.size + 1 ≠ g := by omega
      have n4 : h' ≠ g := fun e => hgh e.symm
      have r0 := X.res.c0
      have r1 := X.res.c1
      have r2 := X.res.c2
      have s0 := X.res.f0
      have s1 := X.res.f1
      have s2 := X.res.f2
      have rl := X.res.lt
      have k0 := Y.c0
      have k1 := Y.c1
      have k2 := Y.c2
      have m0 := Y.f0
      have m1 := Y.f1
      have m2 := Y.f2
      have hgl := Y.lt
      have hbw := X.box.bel
      clear X0 X Y a2 a3 a4 hbc HK HO HB
      rcases HQR.out with rfl | rfl | rfl | rfl
      · go_wp2_with fail
        refine bodyPost_ret (v := .agg #[.string kl, .string ol, .bool false]) (by simp [results, Tryz.results63, go_sem, *]) rfl ⟨rfl, ?_⟩
        (repeat (first | (with_reducible exact Below.refl _ _) | (with_reducible assumption) | (with_reducible apply below_drewN) | (with_reducible apply Below.drew) | ((with_reducible refine Below.setCell ?_ ?_ _); rotate_left; focus (first | (simp; done) | (simp; omega) | omega)) | ((with_reducible refine Below.alloc ?_ ?_ _); rotate_left; focus (first | (simp; done) | (simp; omega) | omega))))
      · go_wp2_with fail
        refine bodyPost_ret (v := .agg #[.string kl, .string oh, .bool false]) (by simp [results, Tryz.results63, go_sem, *]) rfl ⟨rfl, ?_⟩
        (repeat (first | (with_reducible exact Below.refl _ _) | (with_reducible assumption) | (with_reducible apply below_drewN) | (with_reducible apply Below.drew) | ((with_reducible refine Below.setCell ?_ ?_ _); rotate_left; focus (first | (simp; done) | (simp; omega) | omega)) | ((with_reducible refine Below.alloc ?_ ?_ _); rotate_left; focus (first | (simp; done) | (simp; omega) | omega))))
      · go_wp2_with fail
        refine bodyPost_ret (v := .agg #[.string oh, .string kh, .bool false]) (by simp [results, Tryz.results63, go_sem, *]) rfl ⟨rfl, ?_⟩
        (repeat (first | (with_reducible exact Below.refl _ _) | (with_reducible assumption) | (with_reducible apply below_drewN) | (with_reducible apply Below.drew) | ((with_reducible refine Below.setCell ?_ ?_ _); rotate_left; focus (first | (simp; done) | (simp; omega) | omega)) | ((with_reducible refine Below.alloc ?_ ?_ _); rotate_left; focus (first | (simp; done) | (simp; omega) | omega))))
      · go_wp2_with fail
        refine bodyPost_ret (v := .agg #[.string ol, .string kh, .bool false]) (by simp [results, Tryz.results63, go_sem, *]) rfl ⟨rfl, ?_⟩
        (repeat (first | (with_reducible exact Below.refl _ _) | (with_reducible assumption) | (with_reducible apply below_drewN) | (with_reducible apply Below.drew) | ((with_reducible refine Below.setCell ?_ ?_ _); rotate_left; focus (first | (simp; done) | (simp; omega) | omega)) | ((with_reducible refine Below.alloc ?_ ?_ _); rotate_left; focus (first | (simp; done) | (simp; omega) | omega))))

end Go.Proofs.YtkeghknceccdmaaGreatDoor
