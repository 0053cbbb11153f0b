/- The interval of a term: the program's answer. -/
import Derived.Test.YtdchhjnmhnehiaaGreatDoorSplitWQ
import Derived.Test.YtdchhjnmhnehiaaGreatDoorIvlHQ
import Derived.Deep.DeepCutAuto
import Derived.Deep.RegionHeld3
import Derived.Deep.Cut
namespace Go.Proofs.YtdchhjnmhnehiaaGreatDoor
open Go.RowKit
set_option linter.unusedVariables false

/-- Three cells of a block that may be written. -/
structure I3 (W : World) (g : Nat) (x y z : Value) : Prop where
  lt : g < W.heap.size
  c0 : W.cell? ⟨g, 0, none⟩ = some x
  c1 : W.cell? ⟨g, 1, none⟩ = some y
  c2 : W.cell? ⟨g, 2, none⟩ = some z
  f0 : W.frozen? ⟨g, 0, none⟩ = false
  f1 : W.frozen? ⟨g, 1, none⟩ = false
  f2 : W.frozen? ⟨g, 2, none⟩ = false
theorem I3.new (W : World) (x y z : Value) (T : TypeId) : I3 (W.alloc (.cells #[x, y, z] T)) W.heap.size x y z :=
  ⟨by simp, by simp [go_sem], by simp [go_sem], by simp [go_sem], by simp [go_sem], by simp [go_sem], by simp [go_sem]⟩
theorem I3.step {W W' : World} {g : Nat} {x y z : Value} (h : I3 W g x y z) (hb : Below W.heap.size W W') : I3 W' g x y z :=
  ⟨Nat.lt_of_lt_of_le h.lt hb.size, (hb.cell h.lt).trans h.c0, (hb.cell h.lt).trans h.c1, (hb.cell h.lt).trans h.c2, (hb.frozen h.lt).trans h.f0, (hb.frozen h.lt).trans h.f1, (hb.frozen h.lt).trans h.f2⟩

set_option maxRecDepth 4000 in
set_option maxHeartbeats 1000000 in
theorem ofKind_any (k : Int) (desc : Bool) (w : World) (h0 : 0 ≤ k) (h5 : k ≤ 5) :
    Calls Tryz.prog 106 #[.int .i64 k, .bool desc] w fun e w' => e = .returned (.agg #[.string (kindI k desc).lo, .string (kindI k desc).hi, .bool (kindI k desc).op]) ∧ Below w.heap.size w w' := by
  have Y0 := I3.new w (.string em) (.string em) (.bool false) 34
  have hkn : ((kb k).toNat : Int) = k + 1 := by have := kb_lit k h0 h5; omega
  have O1 := own_one (w.alloc (.cells #[.string em, .string em, .bool false] 34)) (kb k) (w.alloc (.cells #[.string em, .string em, .bool false] 34)).heap.size (Nat.le_refl _)
  rw [hkn, heap_size_alloc] at O1
  have hD0 : Calls Tryz.prog 123 #[.slice (some ⟨w.heap.size + 1, 0, none⟩) 1 1, .bool desc] ((w.alloc (.cells #[.string em, .string em, .bool false] 34)).alloc (.cells #[.int .u8 (k + 1)] 5)) fun e w' => e = .returned (.string (mkB (dirK desc [kb k]))) ∧ Below (w.heap.size + 1) ((w.alloc (.cells #[.string em, .string em, .bool false] 34)).alloc (.cells #[.int .u8 (k + 1)] 5)) w' := directed_any (w.heap.size + 1) 1 (w.heap.size + 1) [kb k] desc _ O1 (by simp) (by simp)
  have hDl : (dirK desc [kb k]).length = 1 := by cases desc <;> rfl
  have hB0 := fun W : World => beginning_any (mkB (dirK desc [kb k])) W (by rw [mkB_size, hDl]; omega)
  rw [mkB_data, mkB_size] at hB0
  have hi : kindI k desc = ⟨mkB (dirK desc [kb k]), mkB (behN (dirK desc [kb k]) (dirK desc [kb k]).length).1, !(behN (dirK desc [kb k]) (dirK desc [kb k]).length).2⟩ := rfl
  rw [hi]
  simp only
  obtain ⟨L, hL⟩ : ∃ L, L = mkB (dirK desc [kb k]) := ⟨_, rfl⟩
  obtain ⟨⟨b1, b2⟩, hbb⟩ : ∃ b, b = behN (dirK desc [kb k]) (dirK desc [kb k]).length := ⟨_, rfl⟩
  rw [← hL, ← hbb] at hB0
  rw [← hL] at hD0
  rw [← hL, ← hbb]
  have HD : Hid (Calls _ _ _ _ _) := hD0
  have HB : Hid (∀ W : World, Calls _ _ _ W _) := hB0
  clear hD0 hB0 hL hbb hi O1 hDl
  go_enter Tryz.func106, Tryz.ntmps106
  go_wp2_with fail
  refine (firstByte_any k _ h0 h5).mono ?_
  rintro e wf ⟨rfl, rfl⟩
  go_wp2_with fail
  refine HD.out.mono ?_
  rintro e w2 ⟨rfl, hb⟩
  have hb' : Below (w.alloc (.cells #[.string em, .string em, .bool false] 34)).heap.size (w.alloc (.cells #[.string em, .string em, .bool false] 34)) w2 := by rw [heap_size_alloc]; exact ((Below.refl _ _).alloc (by simp) _).trans hb
  have Y1 := Y0.step hb'
  have hbw : Below w.heap.size w w2 := ((Below.refl _ _).alloc (Nat.le_refl _) _).trans (hb'.mono (by simp))
  clear hb hb' Y0
  go_wp2_with fail
  refine (HB.out _).mono ?_
  rintro e w3 ⟨rfl, hb⟩
  have Y2 := Y1.step hb
  have hbw2 := hbw.trans (hb.mono hbw.size)
  have c0 := Y2.c0
  have c1 := Y2.c1
  have c2 := Y2.c2
  have f0 := Y2.f0
  have f1 := Y2.f1
  have f2 := Y2.f2
  have hlt := Y2.lt
  clear hb Y1 Y2 hbw
  go_wp2_with fail
  refine bodyPost_ret (v := .agg #[.string L, .string (mkB b1), .bool (!b2)]) (by simp [results, Tryz.results106, go_sem, *]) rfl ⟨rfl, ?_⟩
  (repeat (first | (with_reducible exact Below.refl _ _) | (with_reducible assumption) | (with_reducible apply below_drewN) | (with_reducible apply Below.drew) | ((with_reducible refine Below.setCell ?_ ?_ _); rotate_left; focus (first | (simp; done) | (simp; omega) | omega)) | ((with_reducible refine Below.alloc ?_ ?_ _); rotate_left; focus (first | (simp; done) | (simp; omega) | omega))))

def turnO (op : Int) : Int := if op = 3 then 5 else if op = 4 then 6 else if op = 5 then 3 else 4
set_option maxHeartbeats 1000000 in
theorem turnedOp_any (op : Int) (w : World) (h : op = 3 ∨ op = 4 ∨ op = 5 ∨ op = 6) : Calls Tryz.prog 130 #[.int .i64 op] w fun e w' => e = .returned (.int .i64 (turnO op)) ∧ w' = w := by
  rcases h with rfl | rfl | rfl | rfl
  all_goals
    go_enter Tryz.func130, Tryz.ntmps130
    go_wp2_with fail
    go_ret
    exact ⟨rfl, rfl⟩
/-- A term's cells, and an empty interval that may be written. -/
structure Fr (w W : World) (a b c d e : Value) : Prop where
  box : Box5 w W a b c d e
  res : I3 W (w.heap.size + 1) (.string em) (.string em) (.bool false)
theorem Fr.start (w : World) (a b c d e : Value) (T U : TypeId) : Fr w ((w.alloc (.cells #[a, b, c, d, e] T)).alloc (.cells #[.string em, .string em, .bool false] U)) a b c d e :=
  ⟨(Box5.start w a b c d e T).step ((Below.refl _ _).alloc (Nat.le_refl _) _), by have := I3.new (w.alloc (.cells #[a, b, c, d, e] T)) (.string em) (.string em) (.bool false) U; rwa [heap_size_alloc] at this⟩
theorem Fr.step {w W W' : World} {a b c d e : Value} (h : Fr w W a b c d e) (hb : Below W.heap.size W W') : Fr w W' a b c d e := ⟨h.box.step hb, h.res.step hb⟩
theorem keepF {w W W' : World} {a b c d e : Value} (h : Fr w W a b c d e) (hb : Below W.heap.size W W') : W'.cell? ⟨w.heap.size, 2, none⟩ = some c ∧ W'.cell? ⟨w.heap.size, 3, none⟩ = some d ∧ W'.cell? ⟨w.heap.size, 4, none⟩ = some e :=
  have X := h.box.step hb
  ⟨X.c2, X.c3, X.c4⟩
theorem one3 {W w1 : World} {a b c : Value} {T : TypeId} (h : Below (W.alloc (.cells #[a, b, c] T)).heap.size (W.alloc (.cells #[a, b, c] T)) w1) : I3 w1 W.heap.size a b c := (I3.new W a b c T).step h
theorem one3d {W w1 : World} {a b c : Value} {T : TypeId} (h : Below (W.drew.alloc (.cells #[a, b, c] T)).heap.size (W.drew.alloc (.cells #[a, b, c] T)) w1) : I3 w1 W.heap.size a b c := one3 (W := W.drew) h
theorem one3e {W w1 : World} {a b c : Value} {T : TypeId} (h : Below (W.alloc (.cells #[a, b, c] T)).drew.heap.size (W.alloc (.cells #[a, b, c] T)).drew w1) : I3 w1 W.heap.size a b c := one3 (W := W.drew) h
theorem two3 {W w1 : World} {a b c a' b' c' : Value} {T T' : TypeId} (h : Below ((W.alloc (.cells #[a, b, c] T)).alloc (.cells #[a', b', c'] T')).heap.size ((W.alloc (.cells #[a, b, c] T)).alloc (.cells #[a', b', c'] T')) w1) : I3 w1 W.heap.size a b c ∧ I3 w1 (W.heap.size + 1) a' b' c' :=
  ⟨((I3.new W a b c T).step ((Below.refl _ _).alloc (Nat.le_refl _) _)).step h, by have := (I3.new (W.alloc (.cells #[a, b, c] T)) a' b' c' T').step h; rwa [heap_size_alloc] at this⟩
theorem two3d {W w1 : World} {a b c a' b' c' : Value} {T T' : TypeId} (h : Below ((W.drew.alloc (.cells #[a, b, c] T)).alloc (.cells #[a', b', c'] T')).heap.size ((W.drew.alloc (.cells #[a, b, c] T)).alloc (.cells #[a', b', c'] T')) w1) : I3 w1 W.heap.size a b c ∧ I3 w1 (W.heap.size + 1) a' b' c' := two3 (W := W.drew) h
theorem two3e {W w1 : World} {a b c a' b' c' : Value} {T T' : TypeId} (h : Below ((W.alloc (.cells #[a, b, c] T)).alloc (.cells #[a', b', c'] T')).drew.heap.size ((W.alloc (.cells #[a, b, c] T)).alloc (.cells #[a', b', c'] T')).drew w1) : I3 w1 W.heap.size a b c ∧ I3 w1 (W.heap.size + 1) a' b' c' := two3 (W := W.drew) h

end Go.Proofs.YtdchhjnmhnehiaaGreatDoor

/- The part of a kind's interval on one side of a value: the program's answer. -/
namespace Go.Proofs.YtdchhjnmhnehiaaGreatDoor
open Go.RowKit
set_option linter.unusedVariables false

theorem I3.stepA {W W' : World} {g : Nat} {x y z : Value} {o : Obj} (h : I3 W g x y z) (hb : Below (W.alloc o).heap.size (W.alloc o) W') : I3 W' g x y z := (h.step ((Below.refl _ _).alloc (Nat.le_refl _) o)).step hb
theorem I3.stepAA {W W' : World} {g : Nat} {x y z : Value} {o o' : Obj} (h : I3 W g x y z) (hb : Below ((W.alloc o).alloc o').heap.size ((W.alloc o).alloc o') W') : I3 W' g x y z := (h.step ((Below.refl _ _).alloc (Nat.le_refl _) o)).stepA hb
theorem ne_up {g n : Nat} (h : g < n) : g ≠ n ∧ n ≠ g ∧ g ≠ n + 1 ∧ n + 1 ≠ g := by omega
set_option maxRecDepth 8000 in
set_option maxHeartbeats 16000000 in
theorem orderInterval_any (op : Int) (p : ByteArray) (v : Val) (desc : Bool) (w : World) (h : okB v = true) (hop : op = 3 ∨ op = 4 ∨ op = 5 ∨ op = 6) :
    Calls Tryz.prog 107 #[.agg #[.int .i64 op, .string p, .int .i64 v.k, .int .i64 v.n, .string v.t], .bool desc] w fun e w' => e = .returned (.agg #[.string (ordT op v desc).lo, .string (ordT op v desc).hi, .bool (ordT op v desc).op]) ∧ Below w.heap.size w w' := by
  obtain ⟨h0, h5⟩ := fits_kind v h
  have hK0 := fun W : World => ofKind_any v.k desc W h0 h5
  have hO0 := fun W : World => keyOf_any v desc W h
  have hkz := key_size v h
  rw [mkB_size] at hkz
  have hdz : (dirK desc (keyV 5 v)).length = (keyV 5 v).length := by cases desc; rfl; exact turnL_len _
  have hB0 := fun W : World => beginning_any (mkB (dirK desc (keyV 5 v))) W (by rw [mkB_size, hdz]; omega)
  rw [mkB_data, mkB_size] at hB0
  obtain ⟨c, r, s, _, e1, e2, _⟩ := one_begin v desc h
  have hone : oneI v desc = ⟨mkB (dirK desc (keyV 5 v)), mkB (behN (dirK desc (keyV 5 v)) (dirK desc (keyV 5 v)).length).1, !(behN (dirK desc (keyV 5 v)) (dirK desc (keyV 5 v)).length).2⟩ := rfl
  obtain ⟨kl, kh, hkI⟩ : ∃ kl kh, kindI v.k desc = ⟨kl, kh, false⟩ := ⟨_, _, e1⟩
  obtain ⟨ol, oh, hoI⟩ : ∃ ol oh, oneI v desc = ⟨ol, oh, false⟩ := ⟨_, _, e2⟩
  rw [hoI] at hone
  injection hone with g1 g2 g3
  rw [← g1] at hO0
  rw [← g1, ← g2, ← g3] at hB0
  rw [hkI] at hK0
  have HK : Hid (∀ W : World, Calls _ _ _ W _) := hK0
  have HO : Hid (∀ W : World, Calls _ _ _ W _) := hO0
  have HB : Hid (∀ W : World, Calls _ _ _ W _) := hB0
  obtain ⟨q, hq⟩ : ∃ q, q = if desc then turnO op else op := ⟨_, rfl⟩
  have hqr : q = 3 ∨ q = 4 ∨ q = 5 ∨ q = 6 := by
    rw [hq]
    cases desc
    · exact hop
    · rcases hop with rfl | rfl | rfl | rfl <;> simp [turnO]
  have hres : ordT op v desc = if q = 5 then ⟨oh, kh, false⟩ else if q = 6 then ⟨ol, kh, false⟩ else if q = 3 then ⟨kl, ol, false⟩ else ⟨kl, oh, false⟩ := by
    unfold ordT
    rw [hkI, hoI, hq]
    cases desc
    · rcases hop with rfl | rfl | rfl | rfl <;> simp
    · rcases hop with rfl | rfl | rfl | rfl <;> simp [turnO]
  rw [hres]
  have HQ : Hid (_ = _) := hq
  have HOP : Hid _ := hop
  have HQR : Hid _ := hqr
  have X0 := Fr.start w (.int .i64 op) (.string p) (.int .i64 v.k) (.int .i64 v.n) (.string v.t) 85 34
  clear hK0 hO0 hB0 hkz hdz e1 e2 hkI hoI g1 g2 g3 hq hqr hres hop h0 h5
  simp only at HK
  cases desc
  · obtain rfl : op = q := by simpa using HQ.out.symm
    go_enter Tryz.func107, Tryz.ntmps107
    go_wp2_with fail
    generalize (w.alloc (.cells #[.int .i64 op, .string p, .int .i64 v.k, .int .i64 v.n, .string v.t] 85)).alloc (.cells #[.string em, .string em, .bool false] 34) = W0 at X0 ⊢
    have a2 := X0.box.c2
    have a3 := X0.box.c3
    have a4 := X0.box.c4
    have hlt1 := X0.res.lt
    have hltw := X0.box.lt
    go_cut [6, 7] (fun s6 s7 wx => ∃ g h, s6 = .pointer (some ⟨g, 0, none⟩) ∧ s7 = .pointer (some ⟨h, 0, none⟩) ∧ g ≠ h ∧ W0.heap.size ≤ g ∧ W0.heap.size ≤ h ∧ I3 wx g (.string kl) (.string kh) (.bool false) ∧ (h < wx.heap.size ∧ wx.cell? ⟨h, 0, none⟩ = some (.string ol) ∧ wx.cell? ⟨h, 1, none⟩ = some (.string oh)) ∧ Below W0.heap.size W0 wx)
    case first =>
      go_region_held3 (fun w0 => w0.cell? ⟨w.heap.size, 2, none⟩ = some (.int .i64 v.k) ∧ w0.cell? ⟨w.heap.size, 3, none⟩ = some (.int .i64 v.n) ∧ w0.cell? ⟨w.heap.size, 4, none⟩ = some (.string v.t)) ((refine keepF X0 ?_; (repeat (first | (with_reducible exact Below.refl _ _) | (with_reducible assumption) | (with_reducible apply below_drewN) | (with_reducible apply Below.drew) | ((with_reducible refine Below.setCell ?_ ?_ _); rotate_left; focus (first | (simp; done) | (simp; omega) | omega)) | ((with_reducible refine Below.alloc ?_ ?_ _); rotate_left; focus (first | (simp; done) | (simp; omega) | omega)))))) (first | (go_at_call 106; refine (HK.out _).mono ?_; rintro e w1 ⟨rfl, hb⟩; have hB1 : Below W0.heap.size W0 w1 := (show Below W0.heap.size W0 _ by (repeat (first | (with_reducible exact Below.refl _ _) | (with_reducible assumption) | (with_reducible apply below_drewN) | (with_reducible apply Below.drew) | ((with_reducible refine Below.setCell ?_ ?_ _); rotate_left; focus (first | (simp; done) | (simp; omega) | omega)) | ((with_reducible refine Below.alloc ?_ ?_ _); rotate_left; focus (first | (simp; done) | (simp; omega) | omega))))).trans (hb.mono (by first | (simp; done) | (simp; omega) | omega)); have hzb1 := hB1.size; have hn1 := Nat.lt_of_lt_of_le hltw hzb1; (try have A1 := one3e (W := W0) hb); (try have A1 := one3d (W := W0) hb); (try have A1 := one3 (W := W0) hb); (try have AB1 := two3e (W := W0) hb); (try have AB1 := two3d (W := W0) hb); (try have AB1 := two3 (W := W0) hb); (try have B1 := AB1.2); (try have A1 := AB1.1); (try have A1l := A1.lt); (try have A1N := ne_up A1l); (try obtain ⟨A1n, A1m, A1o, A1p⟩ := A1N); (try have A1c := A1.c0); (try have A1d := A1.c1); (try have A1e := A1.c2); (try have A1f := A1.f0); (try have A1g := A1.f1); (try have A1h := A1.f2); (try have B1l := B1.lt); (try have B1N := ne_up B1l); (try obtain ⟨B1n, B1m, B1o, B1p⟩ := B1N); (try have B1c := B1.c0); (try have B1d := B1.c1); (try have B1e := B1.c2); (try have B1f := B1.f0); (try have B1g := B1.f1); (try have B1h := B1.f2); try clear hb) | (go_at_call 97; refine (HO.out _).mono ?_; rintro e w2 ⟨rfl, hb⟩; have hB2 : Below W0.heap.size W0 w2 := (show Below W0.heap.size W0 _ by (repeat (first | (with_reducible exact Below.refl _ _) | (with_reducible assumption) | (with_reducible apply below_drewN) | (with_reducible apply Below.drew) | ((with_reducible refine Below.setCell ?_ ?_ _); rotate_left; focus (first | (simp; done) | (simp; omega) | omega)) | ((with_reducible refine Below.alloc ?_ ?_ _); rotate_left; focus (first | (simp; done) | (simp; omega) | omega))))).trans (hb.mono (by first | (simp; done) | (simp; omega) | omega)); have hzb2 := hB2.size; have hn2 := Nat.lt_of_lt_of_le hltw hzb2; (try have A2 := one3 (W := w1) hb); (try have AB2 := two3 (W := w1) hb); (try have B2 := AB2.2); (try have A2 := AB2.1); (first | have A12 := I3.step A1 hb | have A12 := I3.stepA A1 hb | have A12 := I3.stepAA A1 hb | skip); (first | have B12 := I3.step B1 hb | have B12 := I3.stepA B1 hb | have B12 := I3.stepAA B1 hb | skip); (try have A2l := A2.lt); (try have A2N := ne_up A2l); (try obtain ⟨A2n, A2m, A2o, A2p⟩ := A2N); (try have A2c := A2.c0); (try have A2d := A2.c1); (try have A2e := A2.c2); (try have A2f := A2.f0); (try have A2g := A2.f1); (try have A2h := A2.f2); (try have B2l := B2.lt); (try have B2N := ne_up B2l); (try obtain ⟨B2n, B2m, B2o, B2p⟩ := B2N); (try have B2c := B2.c0); (try have B2d := B2.c1); (try have B2e := B2.c2); (try have B2f := B2.f0); (try have B2g := B2.f1); (try have B2h := B2.f2); (try have A12l := A12.lt); (try have A12N := ne_up A12l); (try obtain ⟨A12n, A12m, A12o, A12p⟩ := A12N); (try have A12c := A12.c0); (try have A12d := A12.c1); (try have A12e := A12.c2); (try have A12f := A12.f0); (try have A12g := A12.f1); (try have A12h := A12.f2); (try have B12l := B12.lt); (try have B12N := ne_up B12l); (try obtain ⟨B12n, B12m, B12o, B12p⟩ := B12N); (try have B12c := B12.c0); (try have B12d := B12.c1); (try have B12e := B12.c2); (try have B12f := B12.f0); (try have B12g := B12.f1); (try have B12h := B12.f2); try clear hb) | (go_at_call 105; refine (HB.out _).mono ?_; rintro e w3 ⟨rfl, hb⟩; have hB3 : Below W0.heap.size W0 w3 := (show Below W0.heap.size W0 _ by (repeat (first | (with_reducible exact Below.refl _ _) | (with_reducible assumption) | (with_reducible apply below_drewN) | (with_reducible apply Below.drew) | ((with_reducible refine Below.setCell ?_ ?_ _); rotate_left; focus (first | (simp; done) | (simp; omega) | omega)) | ((with_reducible refine Below.alloc ?_ ?_ _); rotate_left; focus (first | (simp; done) | (simp; omega) | omega))))).trans (hb.mono (by first | (simp; done) | (simp; omega) | omega)); have hzb3 := hB3.size; have hn3 := Nat.lt_of_lt_of_le hltw hzb3; (try have A3 := one3 (W := w2) hb); (try have AB3 := two3 (W := w2) hb); (try have B3 := AB3.2); (try have A3 := AB3.1); (first | have A23 := I3.step A2 hb | have A23 := I3.stepA A2 hb | have A23 := I3.stepAA A2 hb | skip); (first | have B23 := I3.step B2 hb | have B23 := I3.stepA B2 hb | have B23 := I3.stepAA B2 hb | skip); (first | have A123 := I3.step A12 hb | have A123 := I3.stepA A12 hb | have A123 := I3.stepAA A12 hb | skip); (first | have B123 := I3.step B12 hb | have B123 := I3.stepA B12 hb | have B123 := I3.stepAA B12 hb | skip); (try have A3l := A3.lt); (try have A3N := ne_up A3l); (try obtain ⟨A3n, A3m, A3o, A3p⟩ := A3N); (try have A3c := A3.c0); (try have A3d := A3.c1); (try have A3e := A3.c2); (try have A3f := A3.f0); (try have A3g := A3.f1); (try have A3h := A3.f2); (try have B3l := B3.lt); (try have B3N := ne_up B3l); (try obtain ⟨B3n, B3m, B3o, B3p⟩ := B3N); (try have B3c := B3.c0); (try have B3d := B3.c1); (try have B3e := B3.c2); (try have B3f := B3.f0); (try have B3g := B3.f1); (try have B3h := B3.f2); (try have A23l := A23.lt); (try have A23N := ne_up A23l); (try obtain ⟨A23n, A23m, A23o, A23p⟩ := A23N); (try have A23c := A23.c0); (try have A23d := A23.c1); (try have A23e := A23.c2); (try have A23f := A23.f0); (try have A23g := A23.f1); (try have A23h := A23.f2); (try have B23l := B23.lt); (try have B23N := ne_up B23l); (try obtain ⟨B23n, B23m, B23o, B23p⟩ := B23N); (try have B23c := B23.c0); (try have B23d := B23.c1); (try have B23e := B23.c2); (try have B23f := B23.f0); (try have B23g := B23.f1); (try have B23h := B23.f2); (try have A123l := A123.lt); (try have A123N := ne_up A123l); (try obtain ⟨A123n, A123m, A123o, A123p⟩ := A123N); (try have A123c := A123.c0); (try have A123d := A123.c1); (try have A123e := A123.c2); (try have A123f := A123.f0); (try have A123g := A123.f1); (try have A123h := A123.f2); (try have B123l := B123.lt); (try have B123N := ne_up B123l); (try obtain ⟨B123n, B123m, B123o, B123p⟩ := B123N); (try have B123c := B123.c0); (try have B123d := B123.c1); (try have B123e := B123.c2); (try have B123f := B123.f0); (try have B123g := B123.f1); (try have B123h := B123.f2); try clear hb))
      all_goals
        try go_wp2_with fail
        go_meet
        refine ⟨_, _, rfl, rfl, ?_, ?_, ?_, ⟨?_, ?_, ?_, ?_, ?_, ?_, ?_⟩, ⟨?_, ?_, ?_⟩, ?_⟩
        · first | omega | (simp; omega)
        · first | omega | (simp; omega)
        · first | omega | (simp; omega)
        · first | (simp; done) | (simp; omega)
        · simp [go_sem, *]
        · simp [go_sem, *]
        · simp [go_sem, *]
        · simp [go_sem, *]
        · simp [go_sem, *]
        · simp [go_sem, *]
        · first | (simp; done) | (simp; omega)
        · simp [go_sem, *]
        · simp [go_sem, *]
        · (repeat (first | (with_reducible exact Below.refl _ _) | (with_reducible assumption) | (with_reducible apply below_drewN) | (with_reducible apply Below.drew) | ((with_reducible refine Below.setCell ?_ ?_ _); rotate_left; focus (first | (simp; done) | (simp; omega) | omega)) | ((with_reducible refine Below.alloc ?_ ?_ _); rotate_left; focus (first | (simp; done) | (simp; omega) | omega))))
    case rest =>
      obtain ⟨g, h', rfl, rfl, hgh, hg0, hh0, Y, ⟨yl, y0, y1⟩, hbc⟩ := hcut
      have X := X0.step hbc
      have n1 : g ≠ w.heap.size + 1 := by omega
      have n2 : h' ≠ w.heap.size + 1 := by omega
      have n3 : w.heap.size + 1 ≠ g := by omega
      have n4 : h' ≠ g := fun e => hgh e.symm
      have r0 := X.res.c0
      have r1 := X.res.c1
      have r2 := X.res.c2
      have s0 := X.res.f0
      have s1 := X.res.f1
      have s2 := X.res.f2
      have rl := X.res.lt
      have k0 := Y.c0
      have k1 := Y.c1
      have k2 := Y.c2
      have m0 := Y.f0
      have m1 := Y.f1
      have m2 := Y.f2
      have hgl := Y.lt
      have hbw := X.box.bel
      clear X0 X Y a2 a3 a4 hbc HK HO HB
      rcases HQR.out with rfl | rfl | rfl | rfl
      · go_wp2_with fail
        refine bodyPost_ret (v := .agg #[.string kl, .string ol, .bool false]) (by simp [results, Tryz.results107, go_sem, *]) rfl ⟨rfl, ?_⟩
        (repeat (first | (with_reducible exact Below.refl _ _) | (with_reducible assumption) | (with_reducible apply below_drewN) | (with_reducible apply Below.drew) | ((with_reducible refine Below.setCell ?_ ?_ _); rotate_left; focus (first | (simp; done) | (simp; omega) | omega)) | ((with_reducible refine Below.alloc ?_ ?_ _); rotate_left; focus (first | (simp; done) | (simp; omega) | omega))))
      · go_wp2_with fail
        refine bodyPost_ret (v := .agg #[.string kl, .string oh, .bool false]) (by simp [results, Tryz.results107, go_sem, *]) rfl ⟨rfl, ?_⟩
        (repeat (first | (with_reducible exact Below.refl _ _) | (with_reducible assumption) | (with_reducible apply below_drewN) | (with_reducible apply Below.drew) | ((with_reducible refine Below.setCell ?_ ?_ _); rotate_left; focus (first | (simp; done) | (simp; omega) | omega)) | ((with_reducible refine Below.alloc ?_ ?_ _); rotate_left; focus (first | (simp; done) | (simp; omega) | omega))))
      · go_wp2_with fail
        refine bodyPost_ret (v := .agg #[.string oh, .string kh, .bool false]) (by simp [results, Tryz.results107, go_sem, *]) rfl ⟨rfl, ?_⟩
        (repeat (first | (with_reducible exact Below.refl _ _) | (with_reducible assumption) | (with_reducible apply below_drewN) | (with_reducible apply Below.drew) | ((with_reducible refine Below.setCell ?_ ?_ _); rotate_left; focus (first | (simp; done) | (simp; omega) | omega)) | ((with_reducible refine Below.alloc ?_ ?_ _); rotate_left; focus (first | (simp; done) | (simp; omega) | omega))))
      · go_wp2_with fail
        refine bodyPost_ret (v := .agg #[.string ol, .string kh, .bool false]) (by simp [results, Tryz.results107, go_sem, *]) rfl ⟨rfl, ?_⟩
        (repeat (first | (with_reducible exact Below.refl _ _) | (with_reducible assumption) | (with_reducible apply below_drewN) | (with_reducible apply Below.drew) | ((with_reducible refine Below.setCell ?_ ?_ _); rotate_left; focus (first | (simp; done) | (simp; omega) | omega)) | ((with_reducible refine Below.alloc ?_ ?_ _); rotate_left; focus (first | (simp; done) | (simp; omega) | omega))))
  · have hq2 : turnO op = q := by simpa using HQ.out.symm
    have HQ2 : Hid (_ = _) := hq2
    clear hq2
    go_enter Tryz.func107, Tryz.ntmps107
    go_wp2_with fail
    refine (turnedOp_any op _ HOP.out).mono ?_
    rintro e wf ⟨rfl, rfl⟩
    rw [HQ2.out]
    go_wp2_with fail
    generalize (w.alloc (.cells #[.int .i64 op, .string p, .int .i64 v.k, .int .i64 v.n, .string v.t] 85)).alloc (.cells #[.string em, .string em, .bool false] 34) = W0 at X0 ⊢
    have a2 := X0.box.c2
    have a3 := X0.box.c3
    have a4 := X0.box.c4
    have hlt1 := X0.res.lt
    have hltw := X0.box.lt
    go_cut [6, 7] (fun s6 s7 wx => ∃ g h, s6 = .pointer (some ⟨g, 0, none⟩) ∧ s7 = .pointer (some ⟨h, 0, none⟩) ∧ g ≠ h ∧ W0.heap.size ≤ g ∧ W0.heap.size ≤ h ∧ I3 wx g (.string kl) (.string kh) (.bool false) ∧ (h < wx.heap.size ∧ wx.cell? ⟨h, 0, none⟩ = some (.string ol) ∧ wx.cell? ⟨h, 1, none⟩ = some (.string oh)) ∧ Below W0.heap.size W0 wx)
    case first =>
      go_region_held3 (fun w0 => w0.cell? ⟨w.heap.size, 2, none⟩ = some (.int .i64 v.k) ∧ w0.cell? ⟨w.heap.size, 3, none⟩ = some (.int .i64 v.n) ∧ w0.cell? ⟨w.heap.size, 4, none⟩ = some (.string v.t)) ((refine keepF X0 ?_; (repeat (first | (with_reducible exact Below.refl _ _) | (with_reducible assumption) | (with_reducible apply below_drewN) | (with_reducible apply Below.drew) | ((with_reducible refine Below.setCell ?_ ?_ _); rotate_left; focus (first | (simp; done) | (simp; omega) | omega)) | ((with_reducible refine Below.alloc ?_ ?_ _); rotate_left; focus (first | (simp; done) | (simp; omega) | omega)))))) (first | (go_at_call 106; refine (HK.out _).mono ?_; rintro e w1 ⟨rfl, hb⟩; have hB1 : Below W0.heap.size W0 w1 := (show Below W0.heap.size W0 _ by (repeat (first | (with_reducible exact Below.refl _ _) | (with_reducible assumption) | (with_reducible apply below_drewN) | (with_reducible apply Below.drew) | ((with_reducible refine Below.setCell ?_ ?_ _); rotate_left; focus (first | (simp; done) | (simp; omega) | omega)) | ((with_reducible refine Below.alloc ?_ ?_ _); rotate_left; focus (first | (simp; done) | (simp; omega) | omega))))).trans (hb.mono (by first | (simp; done) | (simp; omega) | omega)); have hzb1 := hB1.size; have hn1 := Nat.lt_of_lt_of_le hltw hzb1; (try have A1 := one3e (W := W0) hb); (try have A1 := one3d (W := W0) hb); (try have A1 := one3 (W := W0) hb); (try have AB1 := two3e (W := W0) hb); (try have AB1 := two3d (W := W0) hb); (try have AB1 := two3 (W := W0) hb); (try have B1 := AB1.2); (try have A1 := AB1.1); (try have A1l := A1.lt); (try have A1N := ne_up A1l); (try obtain ⟨A1n, A1m, A1o, A1p⟩ := A1N); (try have A1c := A1.c0); (try have A1d := A1.c1); (try have A1e := A1.c2); (try have A1f := A1.f0); (try have A1g := A1.f1); (try have A1h := A1.f2); (try have B1l := B1.lt); (try have B1N := ne_up B1l); (try obtain ⟨B1n, B1m, B1o, B1p⟩ := B1N); (try have B1c := B1.c0); (try have B1d := B1.c1); (try have B1e := B1.c2); (try have B1f := B1.f0); (try have B1g := B1.f1); (try have B1h := B1.f2); try clear hb) | (go_at_call 97; refine (HO.out _).mono ?_; rintro e w2 ⟨rfl, hb⟩; have hB2 : Below W0.heap.size W0 w2 := (show Below W0.heap.size W0 _ by (repeat (first | (with_reducible exact Below.refl _ _) | (with_reducible assumption) | (with_reducible apply below_drewN) | (with_reducible apply Below.drew) | ((with_reducible refine Below.setCell ?_ ?_ _); rotate_left; focus (first | (simp; done) | (simp; omega) | omega)) | ((with_reducible refine Below.alloc ?_ ?_ _); rotate_left; focus (first | (simp; done) | (simp; omega) | omega))))).trans (hb.mono (by first | (simp; done) | (simp; omega) | omega)); have hzb2 := hB2.size; have hn2 := Nat.lt_of_lt_of_le hltw hzb2; (try have A2 := one3 (W := w1) hb); (try have AB2 := two3 (W := w1) hb); (try have B2 := AB2.2); (try have A2 := AB2.1); (first | have A12 := I3.step A1 hb | have A12 := I3.stepA A1 hb | have A12 := I3.stepAA A1 hb | skip); (first | have B12 := I3.step B1 hb | have B12 := I3.stepA B1 hb | have B12 := I3.stepAA B1 hb | skip); (try have A2l := A2.lt); (try have A2N := ne_up A2l); (try obtain ⟨A2n, A2m, A2o, A2p⟩ := A2N); (try have A2c := A2.c0); (try have A2d := A2.c1); (try have A2e := A2.c2); (try have A2f := A2.f0); (try have A2g := A2.f1); (try have A2h := A2.f2); (try have B2l := B2.lt); (try have B2N := ne_up B2l); (try obtain ⟨B2n, B2m, B2o, B2p⟩ := B2N); (try have B2c := B2.c0); (try have B2d := B2.c1); (try have B2e := B2.c2); (try have B2f := B2.f0); (try have B2g := B2.f1); (try have B2h := B2.f2); (try have A12l := A12.lt); (try have A12N := ne_up A12l); (try obtain ⟨A12n, A12m, A12o, A12p⟩ := A12N); (try have A12c := A12.c0); (try have A12d := A12.c1); (try have A12e := A12.c2); (try have A12f := A12.f0); (try have A12g := A12.f1); (try have A12h := A12.f2); (try have B12l := B12.lt); (try have B12N := ne_up B12l); (try obtain ⟨B12n, B12m, B12o, B12p⟩ := B12N); (try have B12c := B12.c0); (try have B12d := B12.c1); (try have B12e := B12.c2); (try have B12f := B12.f0); (try have B12g := B12.f1); (try have B12h := B12.f2); try clear hb) | (go_at_call 105; refine (HB.out _).mono ?_; rintro e w3 ⟨rfl, hb⟩; have hB3 : Below W0.heap.size W0 w3 := (show Below W0.heap.size W0 _ by (repeat (first | (with_reducible exact Below.refl _ _) | (with_reducible assumption) | (with_reducible apply below_drewN) | (with_reducible apply Below.drew) | ((with_reducible refine Below.setCell ?_ ?_ _); rotate_left; focus (first | (simp; done) | (simp; omega) | omega)) | ((with_reducible refine Below.alloc ?_ ?_ _); rotate_left; focus (first | (simp; done) | (simp; omega) | omega))))).trans (hb.mono (by first | (simp; done) | (simp; omega) | omega)); have hzb3 := hB3.size; have hn3 := Nat.lt_of_lt_of_le hltw hzb3; (try have A3 := one3 (W := w2) hb); (try have AB3 := two3 (W := w2) hb); (try have B3 := AB3.2); (try have A3 := AB3.1); (first | have A23 := I3.step A2 hb | have A23 := I3.stepA A2 hb | have A23 := I3.stepAA A2 hb | skip); (first | have B23 := I3.step B2 hb | have B23 := I3.stepA B2 hb | have B23 := I3.stepAA B2 hb | skip); (first | have A123 := I3.step A12 hb | have A123 := I3.stepA A12 hb | have A123 := I3.stepAA A12 hb | skip); (first | have B123 := I3.step B12 hb | have B123 := I3.stepA B12 hb | have B123 := I3.stepAA B12 hb | skip); (try have A3l := A3.lt); (try have A3N := ne_up A3l); (try obtain ⟨A3n, A3m, A3o, A3p⟩ := A3N); (try have A3c := A3.c0); (try have A3d := A3.c1); (try have A3e := A3.c2); (try have A3f := A3.f0); (try have A3g := A3.f1); (try have A3h := A3.f2); (try have B3l := B3.lt); (try have B3N := ne_up B3l); (try obtain ⟨B3n, B3m, B3o, B3p⟩ := B3N); (try have B3c := B3.c0); (try have B3d := B3.c1); (try have B3e := B3.c2); (try have B3f := B3.f0); (try have B3g := B3.f1); (try have B3h := B3.f2); (try have A23l := A23.lt); (try have A23N := ne_up A23l); (try obtain ⟨A23n, A23m, A23o, A23p⟩ := A23N); (try have A23c := A23.c0); (try have A23d := A23.c1); (try have A23e := A23.c2); (try have A23f := A23.f0); (try have A23g := A23.f1); (try have A23h := A23.f2); (try have B23l := B23.lt); (try have B23N := ne_up B23l); (try obtain ⟨B23n, B23m, B23o, B23p⟩ := B23N); (try have B23c := B23.c0); (try have B23d := B23.c1); (try have B23e := B23.c2); (try have B23f := B23.f0); (try have B23g := B23.f1); (try have B23h := B23.f2); (try have A123l := A123.lt); (try have A123N := ne_up A123l); (try obtain ⟨A123n, A123m, A123o, A123p⟩ := A123N); (try have A123c := A123.c0); (try have A123d := A123.c1); (try have A123e := A123.c2); (try have A123f := A123.f0); (try have A123g := A123.f1); (try have A123h := A123.f2); (try have B123l := B123.lt); (try have B123N := ne_up B123l); (try obtain ⟨B123n, B123m, B123o, B123p⟩ := B123N); (try have B123c := B123.c0); (try have B123d := B123.c1); (try have B123e := B123.c2); (try have B123f := B123.f0); (try have B123g := B123.f1); (try have B123h := B123.f2); try clear hb))
      all_goals
        try go_wp2_with fail
        go_meet
        refine ⟨_, _, rfl, rfl, ?_, ?_, ?_, ⟨?_, ?_, ?_, ?_, ?_, ?_, ?_⟩, ⟨?_, ?_, ?_⟩, ?_⟩
        · first | omega | (simp; omega)
        · first | omega | (simp; omega)
        · first | omega | (simp; omega)
        · first | (simp; done) | (simp; omega)
        · simp [go_sem, *]
        · simp [go_sem, *]
        · simp [go_sem, *]
        · simp [go_sem, *]
        · simp [go_sem, *]
        · simp [go_sem, *]
        · first | (simp; done) | (simp; omega)
        · simp [go_sem, *]
        · simp [go_sem, *]
        · (repeat (first | (with_reducible exact Below.refl _ _) | (with_reducible assumption) | (with_reducible apply below_drewN) | (with_reducible apply Below.drew) | ((with_reducible refine Below.setCell ?_ ?_ _); rotate_left; focus (first | (simp; done) | (simp; omega) | omega)) | ((with_reducible refine Below.alloc ?_ ?_ _); rotate_left; focus (first | (simp; done) | (simp; omega) | omega))))
    case rest =>
      obtain ⟨g, h', rfl, rfl, hgh, hg0, hh0, Y, ⟨yl, y0, y1⟩, hbc⟩ := hcut
      have X := X0.step hbc
      have n1 : g ≠ w.heap.size + 1 := by omega
      have n2 : h' ≠ w.heap.size + 1 := by omega
      have n3 : w.heap.size + 1 ≠ g := by omega
      have n4 : h' ≠ g := fun e => hgh e.symm
      have r0 := X.res.c0
      have r1 := X.res.c1
      have r2 := X.res.c2
      have s0 := X.res.f0
      have s1 := X.res.f1
      have s2 := X.res.f2
      have rl := X.res.lt
      have k0 := Y.c0
      have k1 := Y.c1
      have k2 := Y.c2
      have m0 := Y.f0
      have m1 := Y.f1
      have m2 := Y.f2
      have hgl := Y.lt
      have hbw := X.box.bel
      clear X0 X Y a2 a3 a4 hbc HK HO HB
      rcases HQR.out with rfl | rfl | rfl | rfl
      · go_wp2_with fail
        refine bodyPost_ret (v := .agg #[.string kl, .string ol, .bool false]) (by simp [results, Tryz.results107, go_sem, *]) rfl ⟨rfl, ?_⟩
        (repeat (first | (with_reducible exact Below.refl _ _) | (with_reducible assumption) | (with_reducible apply below_drewN) | (with_reducible apply Below.drew) | ((with_reducible refine Below.setCell ?_ ?_ _); rotate_left; focus (first | (simp; done) | (simp; omega) | omega)) | ((with_reducible refine Below.alloc ?_ ?_ _); rotate_left; focus (first | (simp; done) | (simp; omega) | omega))))
      · go_wp2_with fail
        refine bodyPost_ret (v := .agg #[.string kl, .string oh, .bool false]) (by simp [results, Tryz.results107, go_sem, *]) rfl ⟨rfl, ?_⟩
        (repeat (first | (with_reducible exact Below.refl _ _) | (with_reducible assumption) | (with_reducible apply below_drewN) | (with_reducible apply Below.drew) | ((with_reducible refine Below.setCell ?_ ?_ _); rotate_left; focus (first | (simp; done) | (simp; omega) | omega)) | ((with_reducible refine Below.alloc ?_ ?_ _); rotate_left; focus (first | (simp; done) | (simp; omega) | omega))))
      · go_wp2_with fail
        refine bodyPost_ret (v := .agg #[.string oh, .string kh, .bool false]) (by simp [results, Tryz.results107, go_sem, *]) rfl ⟨rfl, ?_⟩
        (repeat (first | (with_reducible exact Below.refl _ _) | (with_reducible assumption) | (with_reducible apply below_drewN) | (with_reducible apply Below.drew) | ((with_reducible refine Below.setCell ?_ ?_ _); rotate_left; focus (first | (simp; done) | (simp; omega) | omega)) | ((with_reducible refine Below.alloc ?_ ?_ _); rotate_left; focus (first | (simp; done) | (simp; omega) | omega))))
      · go_wp2_with fail
        refine bodyPost_ret (v := .agg #[.string ol, .string kh, .bool false]) (by simp [results, Tryz.results107, go_sem, *]) rfl ⟨rfl, ?_⟩
        (repeat (first | (with_reducible exact Below.refl _ _) | (with_reducible assumption) | (with_reducible apply below_drewN) | (with_reducible apply Below.drew) | ((with_reducible refine Below.setCell ?_ ?_ _); rotate_left; focus (first | (simp; done) | (simp; omega) | omega)) | ((with_reducible refine Below.alloc ?_ ?_ _); rotate_left; focus (first | (simp; done) | (simp; omega) | omega))))

end Go.Proofs.YtdchhjnmhnehiaaGreatDoor

/- The interval of a term: the specification's answer. -/
namespace Go.Proofs.YtdchhjnmhnehiaaGreatDoor
open Go.RowKit
set_option linter.unusedVariables false

theorem num_of (k : Int) (h0 : 0 ≤ k) (h5 : k ≤ 5) (w : World) : Calls Tryz.prog 87 #[.int .i64 (k + 1), .int .i64 1] w fun e w' => e = .returned (.string (mkB [kb k])) ∧ Below w.heap.size w w' := l01Num (k + 1) (kb k) (num_kb k h0 h5) w
set_option maxRecDepth 8000 in
set_option maxHeartbeats 8000000 in
theorem l04Term_any (op : Int) (p : ByteArray) (v : Val) (desc : Bool) (w : World) (h : okB v = true) (hop : 1 ≤ op ∧ op ≤ 10) (hn : op = 9 → 0 ≤ v.n ∧ v.n ≤ 5) :
    Calls Tryz.prog 85 #[.agg #[.int .i64 op, .string p, .int .i64 v.k, .int .i64 v.n, .string v.t], .bool desc] w fun e w' => e = .returned (.agg #[.string (tintI op v desc).lo, .string (tintI op v desc).hi, .bool (tintI op v desc).op]) ∧ Below w.heap.size w w' := by
  obtain ⟨h0, h5⟩ := fits_kind v h
  have hk1 : IntKind.i64.wrap (v.k + 1) = v.k + 1 := by rw [IntKind.wrap_i64]; omega
  have hN0 := num_of v.k h0 h5
  have hT0 := fun W : World => l04Turned_any [kb v.k] desc W (by simp)
  have hdl : (dirK desc [kb v.k]).length = 1 := by cases desc <;> rfl
  have hG0 := fun W : World => l04Begin_any (dirK desc [kb v.k]) W (by omega)
  have hkz := key_size v h
  rw [mkB_size] at hkz
  have hdz : (dirK desc (keyV 5 v)).length = (keyV 5 v).length := by cases desc; rfl; exact turnL_len _
  have hK0 := fun W : World => l04Key_any v desc W h
  have hB0 := fun W : World => l04Begin_any (dirK desc (keyV 5 v)) W (by rw [hdz]; omega)
  obtain ⟨c, r, s, hc, e1, e2, hs⟩ := one_begin v desc h
  have m1 : meetI ⟨mkB [c], mkB [c + 1], false⟩ ⟨em, mkB s, false⟩ = ⟨mkB [c], mkB s, false⟩ := by
    show (⟨Lib.maxS (mkB [c]) em, Lib.minS (mkB [c + 1]) (mkB s), false⟩ : Ivl) = _
    rw [max_em, up_not c hc s hs]
  have m2 : meetI ⟨mkB [c], mkB [c + 1], false⟩ ⟨em, mkB (c :: r), false⟩ = ⟨mkB [c], mkB (c :: r), false⟩ := by
    show (⟨Lib.maxS (mkB [c]) em, Lib.minS (mkB [c + 1]) (mkB (c :: r)), false⟩ : Ivl) = _
    rw [max_em, up_not c hc (c :: r) (.inr ⟨r, rfl⟩)]
  obtain ⟨kl, hkl⟩ : ∃ kl, kl = mkB [c] := ⟨_, rfl⟩
  obtain ⟨kh, hkh⟩ : ∃ kh, kh = mkB [c + 1] := ⟨_, rfl⟩
  obtain ⟨ol, hol⟩ : ∃ ol, ol = mkB (c :: r) := ⟨_, rfl⟩
  obtain ⟨oh, hoh⟩ : ∃ oh, oh = mkB s := ⟨_, rfl⟩
  rw [← hkl, ← hkh] at e1 m1 m2
  rw [← hol, ← hoh] at e2
  rw [← hoh] at m1
  rw [← hol] at m2
  have f1 : mkB (dirK desc [kb v.k]) = kl := congrArg Ivl.lo e1
  have f2 : mkB (dirK desc (keyV 5 v)) = ol := congrArg Ivl.lo e2
  have g1 : beginI (dirK desc [kb v.k]) = ⟨kl, kh, false⟩ := e1
  have g2 : beginI (dirK desc (keyV 5 v)) = ⟨ol, oh, false⟩ := e2
  rw [f1] at hT0
  rw [f1, g1] at hG0
  rw [f2] at hK0
  rw [f2, g2] at hB0
  simp only at hG0 hB0
  have hM1 := fun W : World => l04Meet_any ⟨kl, kh, false⟩ ⟨em, oh, false⟩ W
  have hM2 := fun W : World => l04Meet_any ⟨kl, kh, false⟩ ⟨em, ol, false⟩ W
  rw [m1] at hM1
  rw [m2] at hM2
  simp only at hM1 hM2
  have HN : Hid (∀ W : World, Calls _ _ _ W _) := hN0
  have HT : Hid (∀ W : World, Calls _ _ _ W _) := hT0
  have HG : Hid (∀ W : World, Calls _ _ _ W _) := hG0
  have HK : Hid (∀ W : World, Calls _ _ _ W _) := hK0
  have HB : Hid (∀ W : World, Calls _ _ _ W _) := hB0
  have HM1 : Hid (∀ W : World, Calls _ _ _ W _) := hM1
  have HM2 : Hid (∀ W : World, Calls _ _ _ W _) := hM2
  have E1 : Hid (kindI v.k desc = _) := e1
  have E2 : Hid (oneI v desc = _) := e2
  obtain ⟨R, hR⟩ : ∃ R, R = tintI op v desc := ⟨_, rfl⟩
  rw [← hR]
  have HR : Hid (_ = _) := hR
  have HNN : Hid _ := hn
  have X0 := Fr.start w (.int .i64 op) (.string p) (.int .i64 v.k) (.int .i64 v.n) (.string v.t) 85 34
  have a2 := X0.box.c2
  clear hN0 hT0 hG0 hK0 hB0 hM1 hM2 e1 e2 f1 f2 g1 g2 hkl hkh hol hoh m1 m2 hs hc hdl hkz hdz hR hn
  go_enter Tryz.func85, Tryz.ntmps85
  go_wp2_with fail
  refine (HN.out _).mono ?_
  rintro e w1 ⟨rfl, hb⟩
  have X1 := X0.step hb
  clear hb X0 a2
  go_wp2_with fail
  refine (HT.out _).mono ?_
  rintro e w2 ⟨rfl, hb⟩
  have X2 := X1.step hb
  clear hb X1
  go_wp2_with fail
  refine (HG.out _).mono ?_
  rintro e w3 ⟨rfl, hb⟩
  have X3 := (X2.step hb).step ((Below.refl _ _).alloc (Nat.le_refl _) (.cells #[.string kl, .string kh, .bool false] 34))
  have K3 := I3.new w3 (.string kl) (.string kh) (.bool false) 34
  obtain ⟨gk, hgk⟩ : ∃ gk, gk = w3.heap.size := ⟨_, rfl⟩
  have hgk0 : w.heap.size + 1 < gk := by have := (X2.step hb).res.lt; omega
  rw [← hgk] at K3
  have a2 := X3.box.c2
  have a3 := X3.box.c3
  have a4 := X3.box.c4
  clear hb X2
  go_wp2_with fail
  rw [← hgk]
  generalize w3.alloc (.cells #[.string kl, .string kh, .bool false] 34) = W3 at X3 K3 a2 a3 a4 ⊢
  clear hgk
  refine (HK.out _).mono ?_
  rintro e w4 ⟨rfl, hb⟩
  have X4 := X3.step hb
  have K4 := K3.step hb
  clear hb X3 K3 a2 a3 a4
  go_wp2_with fail
  refine (HB.out _).mono ?_
  rintro e w5 ⟨rfl, hb⟩
  have hga := (K4.step hb).lt
  have X5 := (X4.step hb).step ((Below.refl _ _).alloc (Nat.le_refl _) (.cells #[.string ol, .string oh, .bool false] 34))
  have K5 := (K4.step hb).step ((Below.refl _ _).alloc (Nat.le_refl _) (.cells #[.string ol, .string oh, .bool false] 34))
  have O5 := I3.new w5 (.string ol) (.string oh) (.bool false) 34
  obtain ⟨go, hgo⟩ : ∃ go, go = w5.heap.size := ⟨_, rfl⟩
  have hgo0 : gk < go := by omega
  rw [← hgo] at O5
  have a0 := X5.box.c0
  have a1 := X5.box.c3
  have k0 := K5.c0
  have k1 := K5.c1
  have k2 := K5.c2
  have kf := K5.f0
  have o0 := O5.c0
  have o1 := O5.c1
  have o2 := O5.c2
  have r0 := X5.res.c0
  have r1 := X5.res.c1
  have r2 := X5.res.c2
  have t0 := X5.res.f0
  have t1 := X5.res.f1
  have t2 := X5.res.f2
  have rl := X5.res.lt
  have kll := K5.lt
  have oll := O5.lt
  have hbw := X5.box.bel
  have n1 : gk ≠ w.heap.size + 1 := by omega
  have n2 : go ≠ w.heap.size + 1 := by omega
  have n3 : w.heap.size + 1 ≠ gk := by omega
  have n4 : w.heap.size + 1 ≠ go := by omega
  have n5 : gk ≠ go := by omega
  have n6 : go ≠ gk := by omega
  clear hb X4 K4 O5 hga
  have hcase : op = 1 ∨ op = 2 ∨ op = 3 ∨ op = 4 ∨ op = 5 ∨ op = 6 ∨ op = 7 ∨ op = 8 ∨ op = 9 ∨ op = 10 := by omega
  clear hop
  go_upto_region 3 with fail
  rw [← hgo]
  generalize w5.alloc (.cells #[.string ol, .string oh, .bool false] 34) = W5 at *
  clear hgo
  rcases hcase with rfl | rfl | rfl | rfl | rfl | rfl | rfl | rfl | rfl | rfl
  · obtain rfl : R = ⟨ol, oh, false⟩ := by rw [HR.out, ← E2.out]; rfl
    go_wp2_with fail
    refine bodyPost_ret (v := .agg #[.string ol, .string oh, .bool false]) (by simp [results, Tryz.results85, go_sem, *]) rfl ⟨rfl, ?_⟩
    (repeat (first | (with_reducible exact Below.refl _ _) | (with_reducible assumption) | (with_reducible apply below_drewN) | (with_reducible apply Below.drew) | ((with_reducible refine Below.setCell ?_ ?_ _); rotate_left; focus (first | (simp; done) | (simp; omega) | omega)) | ((with_reducible refine Below.alloc ?_ ?_ _); rotate_left; focus (first | (simp; done) | (simp; omega) | omega))))
  · obtain rfl : R = ⟨em, em, true⟩ := by rw [HR.out]; rfl
    go_wp2_with fail
    refine bodyPost_ret (v := .agg #[.string em, .string em, .bool true]) (by simp [results, Tryz.results85, go_sem, *]) rfl ⟨rfl, ?_⟩
    (repeat (first | (with_reducible exact Below.refl _ _) | (with_reducible assumption) | (with_reducible apply below_drewN) | (with_reducible apply Below.drew) | ((with_reducible refine Below.setCell ?_ ?_ _); rotate_left; focus (first | (simp; done) | (simp; omega) | omega)) | ((with_reducible refine Below.alloc ?_ ?_ _); rotate_left; focus (first | (simp; done) | (simp; omega) | omega))))
  · cases desc
    · obtain rfl : R = ⟨kl, ol, false⟩ := by rw [HR.out]; show ordT 3 v false = _; unfold ordT; rw [E1.out, E2.out]; rfl
      go_wp2_with fail
      refine (HM2.out _).mono ?_
      rintro e w6 ⟨rfl, hb⟩
      have X6 := X5.step hb
      have r0' := X6.res.c0
      have r1' := X6.res.c1
      have r2' := X6.res.c2
      have t0' := X6.res.f0
      have t1' := X6.res.f1
      have t2' := X6.res.f2
      have rl' := X6.res.lt
      have hbw' := X6.box.bel
      clear hb X5 X6 r0 r1 r2 t0 t1 t2 rl a0 a1 k0 k1 k2 kf o0 o1 o2 hbw
      go_wp2_with fail
      refine bodyPost_ret (v := .agg #[.string kl, .string ol, .bool false]) (by simp [results, Tryz.results85, go_sem, *]) rfl ⟨rfl, ?_⟩
      (repeat (first | (with_reducible exact Below.refl _ _) | (with_reducible assumption) | (with_reducible apply below_drewN) | (with_reducible apply Below.drew) | ((with_reducible refine Below.setCell ?_ ?_ _); rotate_left; focus (first | (simp; done) | (simp; omega) | omega)) | ((with_reducible refine Below.alloc ?_ ?_ _); rotate_left; focus (first | (simp; done) | (simp; omega) | omega))))
    · obtain rfl : R = ⟨oh, kh, false⟩ := by rw [HR.out]; show ordT 3 v true = _; unfold ordT; rw [E1.out, E2.out]; rfl
      go_wp2_with fail
      refine bodyPost_ret (v := .agg #[.string oh, .string kh, .bool false]) (by simp [results, Tryz.results85, go_sem, *]) rfl ⟨rfl, ?_⟩
      (repeat (first | (with_reducible exact Below.refl _ _) | (with_reducible assumption) | (with_reducible apply below_drewN) | (with_reducible apply Below.drew) | ((with_reducible refine Below.setCell ?_ ?_ _); rotate_left; focus (first | (simp; done) | (simp; omega) | omega)) | ((with_reducible refine Below.alloc ?_ ?_ _); rotate_left; focus (first | (simp; done) | (simp; omega) | omega))))
  · cases desc
    · obtain rfl : R = ⟨kl, oh, false⟩ := by rw [HR.out]; show ordT 4 v false = _; unfold ordT; rw [E1.out, E2.out]; rfl
      go_wp2_with fail
      refine (HM1.out _).mono ?_
      rintro e w6 ⟨rfl, hb⟩
      have X6 := X5.step hb
      have r0' := X6.res.c0
      have r1' := X6.res.c1
      have r2' := X6.res.c2
      have t0' := X6.res.f0
      have t1' := X6.res.f1
      have t2' := X6.res.f2
      have rl' := X6.res.lt
      have hbw' := X6.box.bel
      clear hb X5 X6 r0 r1 r2 t0 t1 t2 rl a0 a1 k0 k1 k2 kf o0 o1 o2 hbw
      go_wp2_with fail
      refine bodyPost_ret (v := .agg #[.string kl, .string oh, .bool false]) (by simp [results, Tryz.results85, go_sem, *]) rfl ⟨rfl, ?_⟩
      (repeat (first | (with_reducible exact Below.refl _ _) | (with_reducible assumption) | (with_reducible apply below_drewN) | (with_reducible apply Below.drew) | ((with_reducible refine Below.setCell ?_ ?_ _); rotate_left; focus (first | (simp; done) | (simp; omega) | omega)) | ((with_reducible refine Below.alloc ?_ ?_ _); rotate_left; focus (first | (simp; done) | (simp; omega) | omega))))
    · obtain rfl : R = ⟨ol, kh, false⟩ := by rw [HR.out]; show ordT 4 v true = _; unfold ordT; rw [E1.out, E2.out]; rfl
      go_wp2_with fail
      refine bodyPost_ret (v := .agg #[.string ol, .string kh, .bool false]) (by simp [results, Tryz.results85, go_sem, *]) rfl ⟨rfl, ?_⟩
      (repeat (first | (with_reducible exact Below.refl _ _) | (with_reducible assumption) | (with_reducible apply below_drewN) | (with_reducible apply Below.drew) | ((with_reducible refine Below.setCell ?_ ?_ _); rotate_left; focus (first | (simp; done) | (simp; omega) | omega)) | ((with_reducible refine Below.alloc ?_ ?_ _); rotate_left; focus (first | (simp; done) | (simp; omega) | omega))))
  · cases desc
    · obtain rfl : R = ⟨oh, kh, false⟩ := by rw [HR.out]; show ordT 5 v false = _; unfold ordT; rw [E1.out, E2.out]; rfl
      go_wp2_with fail
      refine bodyPost_ret (v := .agg #[.string oh, .string kh, .bool false]) (by simp [results, Tryz.results85, go_sem, *]) rfl ⟨rfl, ?_⟩
      (repeat (first | (with_reducible exact Below.refl _ _) | (with_reducible assumption) | (with_reducible apply below_drewN) | (with_reducible apply Below.drew) | ((with_reducible refine Below.setCell ?_ ?_ _); rotate_left; focus (first | (simp; done) | (simp; omega) | omega)) | ((with_reducible refine Below.alloc ?_ ?_ _); rotate_left; focus (first | (simp; done) | (simp; omega) | omega))))
    · obtain rfl : R = ⟨kl, ol, false⟩ := by rw [HR.out]; show ordT 5 v true = _; unfold ordT; rw [E1.out, E2.out]; rfl
      go_wp2_with fail
      refine (HM2.out _).mono ?_
      rintro e w6 ⟨rfl, hb⟩
      have X6 := X5.step hb
      have r0' := X6.res.c0
      have r1' := X6.res.c1
      have r2' := X6.res.c2
      have t0' := X6.res.f0
      have t1' := X6.res.f1
      have t2' := X6.res.f2
      have rl' := X6.res.lt
      have hbw' := X6.box.bel
      clear hb X5 X6 r0 r1 r2 t0 t1 t2 rl a0 a1 k0 k1 k2 kf o0 o1 o2 hbw
      go_wp2_with fail
      refine bodyPost_ret (v := .agg #[.string kl, .string ol, .bool false]) (by simp [results, Tryz.results85, go_sem, *]) rfl ⟨rfl, ?_⟩
      (repeat (first | (with_reducible exact Below.refl _ _) | (with_reducible assumption) | (with_reducible apply below_drewN) | (with_reducible apply Below.drew) | ((with_reducible refine Below.setCell ?_ ?_ _); rotate_left; focus (first | (simp; done) | (simp; omega) | omega)) | ((with_reducible refine Below.alloc ?_ ?_ _); rotate_left; focus (first | (simp; done) | (simp; omega) | omega))))
  · cases desc
    · obtain rfl : R = ⟨ol, kh, false⟩ := by rw [HR.out]; show ordT 6 v false = _; unfold ordT; rw [E1.out, E2.out]; rfl
      go_wp2_with fail
      refine bodyPost_ret (v := .agg #[.string ol, .string kh, .bool false]) (by simp [results, Tryz.results85, go_sem, *]) rfl ⟨rfl, ?_⟩
      (repeat (first | (with_reducible exact Below.refl _ _) | (with_reducible assumption) | (with_reducible apply below_drewN) | (with_reducible apply Below.drew) | ((with_reducible refine Below.setCell ?_ ?_ _); rotate_left; focus (first | (simp; done) | (simp; omega) | omega)) | ((with_reducible refine Below.alloc ?_ ?_ _); rotate_left; focus (first | (simp; done) | (simp; omega) | omega))))
    · obtain rfl : R = ⟨kl, oh, false⟩ := by rw [HR.out]; show ordT 6 v true = _; unfold ordT; rw [E1.out, E2.out]; rfl
      go_wp2_with fail
      refine (HM1.out _).mono ?_
      rintro e w6 ⟨rfl, hb⟩
      have X6 := X5.step hb
      have r0' := X6.res.c0
      have r1' := X6.res.c1
      have r2' := X6.res.c2
      have t0' := X6.res.f0
      have t1' := X6.res.f1
      have t2' := X6.res.f2
      have rl' := X6.res.lt
      have hbw' := X6.box.bel
      clear hb X5 X6 r0 r1 r2 t0 t1 t2 rl a0 a1 k0 k1 k2 kf o0 o1 o2 hbw
      go_wp2_with fail
      refine bodyPost_ret (v := .agg #[.string kl, .string oh, .bool false]) (by simp [results, Tryz.results85, go_sem, *]) rfl ⟨rfl, ?_⟩
      (repeat (first | (with_reducible exact Below.refl _ _) | (with_reducible assumption) | (with_reducible apply below_drewN) | (with_reducible apply Below.drew) | ((with_reducible refine Below.setCell ?_ ?_ _); rotate_left; focus (first | (simp; done) | (simp; omega) | omega)) | ((with_reducible refine Below.alloc ?_ ?_ _); rotate_left; focus (first | (simp; done) | (simp; omega) | omega))))
  · obtain rfl : R = ⟨em, em, true⟩ := by rw [HR.out]; rfl
    go_wp2_with fail
    refine bodyPost_ret (v := .agg #[.string em, .string em, .bool true]) (by simp [results, Tryz.results85, go_sem, *]) rfl ⟨rfl, ?_⟩
    (repeat (first | (with_reducible exact Below.refl _ _) | (with_reducible assumption) | (with_reducible apply below_drewN) | (with_reducible apply Below.drew) | ((with_reducible refine Below.setCell ?_ ?_ _); rotate_left; focus (first | (simp; done) | (simp; omega) | omega)) | ((with_reducible refine Below.alloc ?_ ?_ _); rotate_left; focus (first | (simp; done) | (simp; omega) | omega))))
  · obtain rfl : R = ⟨em, em, true⟩ := by rw [HR.out]; rfl
    go_wp2_with fail
    refine bodyPost_ret (v := .agg #[.string em, .string em, .bool true]) (by simp [results, Tryz.results85, go_sem, *]) rfl ⟨rfl, ?_⟩
    (repeat (first | (with_reducible exact Below.refl _ _) | (with_reducible assumption) | (with_reducible apply below_drewN) | (with_reducible apply Below.drew) | ((with_reducible refine Below.setCell ?_ ?_ _); rotate_left; focus (first | (simp; done) | (simp; omega) | omega)) | ((with_reducible refine Below.alloc ?_ ?_ _); rotate_left; focus (first | (simp; done) | (simp; omega) | omega))))
  · obtain ⟨n0, n9⟩ := HNN.out rfl
    have hk2 : IntKind.i64.wrap (v.n + 1) = v.n + 1 := by rw [IntKind.wrap_i64]; omega
    have HN2 : Hid (∀ W : World, Calls _ _ _ W _) := num_of v.n n0 n9
    have HT2 : Hid (∀ W : World, Calls _ _ _ W _) := fun W => l04Turned_any [kb v.n] desc W (by simp)
    have HG2 : Hid (∀ W : World, Calls _ _ _ W _) := fun W => l04Begin_any (dirK desc [kb v.n]) W (by cases desc <;> (show 1 ≤ 100000; omega))
    obtain rfl : R = ⟨mkB (dirK desc [kb v.n]), (beginI (dirK desc [kb v.n])).hi, (beginI (dirK desc [kb v.n])).op⟩ := by rw [HR.out]; rfl
    obtain ⟨bl, hbl⟩ : ∃ bl, bl = mkB (dirK desc [kb v.n]) := ⟨_, rfl⟩
    obtain ⟨bh, hbh⟩ : ∃ bh, bh = (beginI (dirK desc [kb v.n])).hi := ⟨_, rfl⟩
    obtain ⟨bo, hbo⟩ : ∃ bo, bo = (beginI (dirK desc [kb v.n])).op := ⟨_, rfl⟩
    have HT3 : Hid (∀ W : World, Calls _ _ _ W _) := HT2.out
    have HG3 : Hid (∀ W : World, Calls _ _ _ W _) := HG2.out
    simp only [← hbl, ← hbh, ← hbo] at HT3 HG3
    have HF : Hid (_ ∧ _ ∧ _) := ⟨hbl, hbh, hbo⟩
    clear HT2 HG2 hbl hbh hbo k0 k1 k2 kf o0 o1 o2
    go_wp2_with fail
    refine (HN2.out _).mono ?_
    rintro e w6 ⟨rfl, hb⟩
    have X6 := X5.step hb
    clear hb X5 r0 r1 r2 t0 t1 t2 a0 a1 rl
    go_wp2_with fail
    refine (HT3.out _).mono ?_
    rintro e w7 ⟨rfl, hb⟩
    have X7 := X6.step hb
    clear hb X6
    go_wp2_with fail
    refine (HG3.out _).mono ?_
    rintro e w8 ⟨rfl, hb⟩
    have X8 := X7.step hb
    have r0 := X8.res.c0
    have r1 := X8.res.c1
    have r2 := X8.res.c2
    have t0 := X8.res.f0
    have t1 := X8.res.f1
    have t2 := X8.res.f2
    have rl := X8.res.lt
    have hbw2 := X8.box.bel
    clear hb X7 X8
    go_wp2_with fail
    refine bodyPost_ret (v := .agg #[.string bl, .string bh, .bool bo]) (by simp [results, Tryz.results85, go_sem, *]) rfl ⟨?_, ?_⟩
    · obtain ⟨q1, q2, q3⟩ := HF.out; rw [q1, q2, q3]
    · (repeat (first | (with_reducible exact Below.refl _ _) | (with_reducible assumption) | (with_reducible apply below_drewN) | (with_reducible apply Below.drew) | ((with_reducible refine Below.setCell ?_ ?_ _); rotate_left; focus (first | (simp; done) | (simp; omega) | omega)) | ((with_reducible refine Below.alloc ?_ ?_ _); rotate_left; focus (first | (simp; done) | (simp; omega) | omega))))
  · obtain rfl : R = ⟨em, em, true⟩ := by rw [HR.out]; rfl
    go_wp2_with fail
    refine bodyPost_ret (v := .agg #[.string em, .string em, .bool true]) (by simp [results, Tryz.results85, go_sem, *]) rfl ⟨rfl, ?_⟩
    (repeat (first | (with_reducible exact Below.refl _ _) | (with_reducible assumption) | (with_reducible apply below_drewN) | (with_reducible apply Below.drew) | ((with_reducible refine Below.setCell ?_ ?_ _); rotate_left; focus (first | (simp; done) | (simp; omega) | omega)) | ((with_reducible refine Below.alloc ?_ ?_ _); rotate_left; focus (first | (simp; done) | (simp; omega) | omega))))

end Go.Proofs.YtdchhjnmhnehiaaGreatDoor

/- The interval of a term: what the two functions answer, for every term. -/
namespace Go.Proofs.YtdchhjnmhnehiaaGreatDoor
open Go.RowKit
set_option linter.unusedVariables false

theorem term_parts (op : Int) (p : ByteArray) (v : Val) (h : termB op p v = true) : okB v = true ∧ (1 ≤ op ∧ op ≤ 10) ∧ (op = 9 → 0 ≤ v.n ∧ v.n ≤ 5) := by
  unfold termB at h
  rw [Bool.and_eq_true, Bool.and_eq_true] at h
  obtain ⟨_, hv, ht⟩ := h
  refine ⟨hv, ?_, ?_⟩
  · unfold takesT at ht
    split at ht
    · omega
    · split at ht
      · omega
      · split at ht
        · omega
        · split at ht
          · omega
          · split at ht
            · omega
            · cases ht
  · rintro rfl
    have e : takesT 9 v.k v.n = decide (v.k = 2 ∧ 0 ≤ v.n ∧ v.n ≤ 5) := rfl
    rw [e, decide_eq_true_eq] at ht
    exact ht.2

set_option maxRecDepth 4000 in
set_option maxHeartbeats 4000000 in
theorem implTint_any (op : Int) (p : ByteArray) (k n : Int) (t : ByteArray) (desc : Bool) (w : World) (hp : p.size ≤ 1048576) (ht : t.size ≤ 1048576) :
    Calls Tryz.prog 83 #[.agg #[.int .i64 op, .string p, .int .i64 k, .int .i64 n, .string t], .bool desc] w fun e w' => e = .returned (.tuple #[.agg #[.string (tintP op p ⟨k, n, t⟩ desc).1.lo, .string (tintP op p ⟨k, n, t⟩ desc).1.hi, .bool (tintP op p ⟨k, n, t⟩ desc).1.op], .int .i64 (tintP op p ⟨k, n, t⟩ desc).2]) ∧ Below w.heap.size w w' := by
  have X0 := Fr.start w (.int .i64 op) (.string p) (.int .i64 k) (.int .i64 n) (.string t) 85 34
  have HS0 := fun W : World => termOK_any op p k n t W hp ht
  cases hB : termB op p ⟨k, n, t⟩
  · rw [tintP_bad _ _ _ _ hB]
    rw [hB] at HS0
    have HS : Hid (∀ W : World, Calls _ _ _ W _) := HS0
    clear HS0 hB
    go_enter Tryz.func83, Tryz.ntmps83
    go_wp2_with fail
    refine (HS.out _).mono ?_
    rintro e w1 ⟨rfl, hb⟩
    have X := X0.step hb
    have r0 := X.res.c0
    have r1 := X.res.c1
    have r2 := X.res.c2
    have t0 := X.res.f0
    have t1 := X.res.f1
    have t2 := X.res.f2
    have rl := X.res.lt
    have hbw := X.box.bel
    clear hb X0 X
    go_wp2_with fail
    refine bodyPost_ret (v := .tuple #[.agg #[.string em, .string em, .bool false], .int .i64 1]) (by simp [results, Tryz.results83, go_sem, *]) rfl ⟨rfl, ?_⟩
    (repeat (first | (with_reducible exact Below.refl _ _) | (with_reducible assumption) | (with_reducible apply below_drewN) | (with_reducible apply Below.drew) | ((with_reducible refine Below.setCell ?_ ?_ _); rotate_left; focus (first | (simp; done) | (simp; omega) | omega)) | ((with_reducible refine Below.alloc ?_ ?_ _); rotate_left; focus (first | (simp; done) | (simp; omega) | omega))))
  · rw [tintP_ok _ _ _ _ hB]
    rw [hB] at HS0
    obtain ⟨q1, q2, q3⟩ := term_parts op p ⟨k, n, t⟩ hB
    have hcase : op = 1 ∨ op = 2 ∨ op = 3 ∨ op = 4 ∨ op = 5 ∨ op = 6 ∨ op = 7 ∨ op = 8 ∨ op = 9 ∨ op = 10 := by omega
    have HS : Hid (∀ W : World, Calls _ _ _ W _) := HS0
    have Q1 : Hid (okB _ = true) := q1
    have Q3 : Hid _ := q3
    obtain ⟨R, hR⟩ : ∃ R, R = tintI op ⟨k, n, t⟩ desc := ⟨_, rfl⟩
    rw [← hR]
    have HR : Hid (_ = _) := hR
    clear HS0 hB q1 q2 q3 hR
    go_enter Tryz.func83, Tryz.ntmps83
    go_wp2_with fail
    refine (HS.out _).mono ?_
    rintro e w1 ⟨rfl, hb⟩
    have X1 := X0.step hb
    have c0 := X1.box.c0
    have c1 := X1.box.c1
    have c2 := X1.box.c2
    have c3 := X1.box.c3
    have c4 := X1.box.c4
    have r0 := X1.res.c0
    have r1 := X1.res.c1
    have r2 := X1.res.c2
    have t0 := X1.res.f0
    have t1 := X1.res.f1
    have t2 := X1.res.f2
    have rl := X1.res.lt
    have hbw := X1.box.bel
    clear hb X0 HS
    rcases hcase with rfl | rfl | rfl | rfl | rfl | rfl | rfl | rfl | rfl | rfl
    · have hkz := key_size ⟨k, n, t⟩ Q1.out
      rw [mkB_size] at hkz
      have hdz : (dirK desc (keyV 5 ⟨k, n, t⟩)).length = (keyV 5 ⟨k, n, t⟩).length := by cases desc; rfl; exact turnL_len _
      have hB0 := fun W : World => beginning_any (mkB (dirK desc (keyV 5 ⟨k, n, t⟩))) W (by rw [mkB_size, hdz]; omega)
      rw [mkB_data, mkB_size] at hB0
      have hO0 := fun W : World => keyOf_any ⟨k, n, t⟩ desc W Q1.out
      obtain ⟨il, h1⟩ : ∃ il, il = mkB (dirK desc (keyV 5 ⟨k, n, t⟩)) := ⟨_, rfl⟩
      obtain ⟨⟨ih, io⟩, h2⟩ : ∃ b, b = behN (dirK desc (keyV 5 ⟨k, n, t⟩)) (dirK desc (keyV 5 ⟨k, n, t⟩)).length := ⟨_, rfl⟩
      rw [← h1, ← h2] at hB0
      rw [← h1] at hO0
      obtain rfl : R = ⟨il, mkB ih, !io⟩ := by rw [HR.out, h1, show ih = (ih, io).1 from rfl, h2, show io = (ih, io).2 from rfl, h2]; rfl
      have HO : Hid (∀ W : World, Calls _ _ _ W _) := hO0
      have HB : Hid (∀ W : World, Calls _ _ _ W _) := hB0
      clear hO0 hB0 h1 h2 hkz hdz HR
      go_wp2_with fail
      refine (HO.out _).mono ?_
      rintro e w2 ⟨rfl, hb⟩
      have X2 := X1.step hb
      clear hb X1 c0 c1 c2 c3 c4 r0 r1 r2 t0 t1 t2 rl hbw
      go_wp2_with fail
      refine (HB.out _).mono ?_
      rintro e w3 ⟨rfl, hb⟩
      have X := X2.step hb
      have r0 := X.res.c0
      have r1 := X.res.c1
      have r2 := X.res.c2
      have t0 := X.res.f0
      have t1 := X.res.f1
      have t2 := X.res.f2
      have rl := X.res.lt
      have hbw := X.box.bel
      clear hb X2 X
      go_wp2_with fail
      refine bodyPost_ret (v := .tuple #[.agg #[.string il, .string (mkB ih), .bool (!io)], .int .i64 0]) (by simp [results, Tryz.results83, go_sem, *]) rfl ⟨rfl, ?_⟩
      (repeat (first | (with_reducible exact Below.refl _ _) | (with_reducible assumption) | (with_reducible apply below_drewN) | (with_reducible apply Below.drew) | ((with_reducible refine Below.setCell ?_ ?_ _); rotate_left; focus (first | (simp; done) | (simp; omega) | omega)) | ((with_reducible refine Below.alloc ?_ ?_ _); rotate_left; focus (first | (simp; done) | (simp; omega) | omega))))
    · obtain rfl : R = ⟨em, em, true⟩ := by rw [HR.out]; rfl
      go_wp2_with fail
      refine bodyPost_ret (v := .tuple #[.agg #[.string em, .string em, .bool true], .int .i64 0]) (by simp [results, Tryz.results83, go_sem, *]) rfl ⟨rfl, ?_⟩
      (repeat (first | (with_reducible exact Below.refl _ _) | (with_reducible assumption) | (with_reducible apply below_drewN) | (with_reducible apply Below.drew) | ((with_reducible refine Below.setCell ?_ ?_ _); rotate_left; focus (first | (simp; done) | (simp; omega) | omega)) | ((with_reducible refine Below.alloc ?_ ?_ _); rotate_left; focus (first | (simp; done) | (simp; omega) | omega))))
    · have hK0 := fun W : World => orderInterval_any 3 p ⟨k, n, t⟩ desc W Q1.out (by omega)
      obtain ⟨⟨il, ih, io⟩, h1⟩ : ∃ i, i = ordT 3 ⟨k, n, t⟩ desc := ⟨_, rfl⟩
      rw [← h1] at hK0
      obtain rfl : R = ⟨il, ih, io⟩ := by rw [HR.out, h1]; rfl
      simp only at hK0
      have HK : Hid (∀ W : World, Calls _ _ _ W _) := hK0
      clear hK0 h1 HR
      go_wp2_with fail
      refine (HK.out _).mono ?_
      rintro e w2 ⟨rfl, hb⟩
      have X := X1.step hb
      clear hb X1 c0 c1 c2 c3 c4 r0 r1 r2 t0 t1 t2 rl hbw
      have r0 := X.res.c0
      have r1 := X.res.c1
      have r2 := X.res.c2
      have t0 := X.res.f0
      have t1 := X.res.f1
      have t2 := X.res.f2
      have rl := X.res.lt
      have hbw := X.box.bel
      clear X
      go_wp2_with fail
      refine bodyPost_ret (v := .tuple #[.agg #[.string il, .string ih, .bool io], .int .i64 0]) (by simp [results, Tryz.results83, go_sem, *]) rfl ⟨rfl, ?_⟩
      (repeat (first | (with_reducible exact Below.refl _ _) | (with_reducible assumption) | (with_reducible apply below_drewN) | (with_reducible apply Below.drew) | ((with_reducible refine Below.setCell ?_ ?_ _); rotate_left; focus (first | (simp; done) | (simp; omega) | omega)) | ((with_reducible refine Below.alloc ?_ ?_ _); rotate_left; focus (first | (simp; done) | (simp; omega) | omega))))
    · have hK0 := fun W : World => orderInterval_any 4 p ⟨k, n, t⟩ desc W Q1.out (by omega)
      obtain ⟨⟨il, ih, io⟩, h1⟩ : ∃ i, i = ordT 4 ⟨k, n, t⟩ desc := ⟨_, rfl⟩
      rw [← h1] at hK0
      obtain rfl : R = ⟨il, ih, io⟩ := by rw [HR.out, h1]; rfl
      simp only at hK0
      have HK : Hid (∀ W : World, Calls _ _ _ W _) := hK0
      clear hK0 h1 HR
      go_wp2_with fail
      refine (HK.out _).mono ?_
      rintro e w2 ⟨rfl, hb⟩
      have X := X1.step hb
      clear hb X1 c0 c1 c2 c3 c4 r0 r1 r2 t0 t1 t2 rl hbw
      have r0 := X.res.c0
      have r1 := X.res.c1
      have r2 := X.res.c2
      have t0 := X.res.f0
      have t1 := X.res.f1
      have t2 := X.res.f2
      have rl := X.res.lt
      have hbw := X.box.bel
      clear X
      go_wp2_with fail
      refine bodyPost_ret (v := .tuple #[.agg #[.string il, .string ih, .bool io], .int .i64 0]) (by simp [results, Tryz.results83, go_sem, *]) rfl ⟨rfl, ?_⟩
      (repeat (first | (with_reducible exact Below.refl _ _) | (with_reducible assumption) | (with_reducible apply below_drewN) | (with_reducible apply Below.drew) | ((with_reducible refine Below.setCell ?_ ?_ _); rotate_left; focus (first | (simp; done) | (simp; omega) | omega)) | ((with_reducible refine Below.alloc ?_ ?_ _); rotate_left; focus (first | (simp; done) | (simp; omega) | omega))))
    · have hK0 := fun W : World => orderInterval_any 5 p ⟨k, n, t⟩ desc W Q1.out (by omega)
      obtain ⟨⟨il, ih, io⟩, h1⟩ : ∃ i, i = ordT 5 ⟨k, n, t⟩ desc := ⟨_, rfl⟩
      rw [← h1] at hK0
      obtain rfl : R = ⟨il, ih, io⟩ := by rw [HR.out, h1]; rfl
      simp only at hK0
      have HK : Hid (∀ W : World, Calls _ _ _ W _) := hK0
      clear hK0 h1 HR
      go_wp2_with fail
      refine (HK.out _).mono ?_
      rintro e w2 ⟨rfl, hb⟩
      have X := X1.step hb
      clear hb X1 c0 c1 c2 c3 c4 r0 r1 r2 t0 t1 t2 rl hbw
      have r0 := X.res.c0
      have r1 := X.res.c1
      have r2 := X.res.c2
      have t0 := X.res.f0
      have t1 := X.res.f1
      have t2 := X.res.f2
      have rl := X.res.lt
      have hbw := X.box.bel
      clear X
      go_wp2_with fail
      refine bodyPost_ret (v := .tuple #[.agg #[.string il, .string ih, .bool io], .int .i64 0]) (by simp [results, Tryz.results83, go_sem, *]) rfl ⟨rfl, ?_⟩
      (repeat (first | (with_reducible exact Below.refl _ _) | (with_reducible assumption) | (with_reducible apply below_drewN) | (with_reducible apply Below.drew) | ((with_reducible refine Below.setCell ?_ ?_ _); rotate_left; focus (first | (simp; done) | (simp; omega) | omega)) | ((with_reducible refine Below.alloc ?_ ?_ _); rotate_left; focus (first | (simp; done) | (simp; omega) | omega))))
    · have hK0 := fun W : World => orderInterval_any 6 p ⟨k, n, t⟩ desc W Q1.out (by omega)
      obtain ⟨⟨il, ih, io⟩, h1⟩ : ∃ i, i = ordT 6 ⟨k, n, t⟩ desc := ⟨_, rfl⟩
      rw [← h1] at hK0
      obtain rfl : R = ⟨il, ih, io⟩ := by rw [HR.out, h1]; rfl
      simp only at hK0
      have HK : Hid (∀ W : World, Calls _ _ _ W _) := hK0
      clear hK0 h1 HR
      go_wp2_with fail
      refine (HK.out _).mono ?_
      rintro e w2 ⟨rfl, hb⟩
      have X := X1.step hb
      clear hb X1 c0 c1 c2 c3 c4 r0 r1 r2 t0 t1 t2 rl hbw
      have r0 := X.res.c0
      have r1 := X.res.c1
      have r2 := X.res.c2
      have t0 := X.res.f0
      have t1 := X.res.f1
      have t2 := X.res.f2
      have rl := X.res.lt
      have hbw := X.box.bel
      clear X
      go_wp2_with fail
      refine bodyPost_ret (v := .tuple #[.agg #[.string il, .string ih, .bool io], .int .i64 0]) (by simp [results, Tryz.results83, go_sem, *]) rfl ⟨rfl, ?_⟩
      (repeat (first | (with_reducible exact Below.refl _ _) | (with_reducible assumption) | (with_reducible apply below_drewN) | (with_reducible apply Below.drew) | ((with_reducible refine Below.setCell ?_ ?_ _); rotate_left; focus (first | (simp; done) | (simp; omega) | omega)) | ((with_reducible refine Below.alloc ?_ ?_ _); rotate_left; focus (first | (simp; done) | (simp; omega) | omega))))
    · obtain rfl : R = ⟨em, em, true⟩ := by rw [HR.out]; rfl
      go_wp2_with fail
      refine bodyPost_ret (v := .tuple #[.agg #[.string em, .string em, .bool true], .int .i64 0]) (by simp [results, Tryz.results83, go_sem, *]) rfl ⟨rfl, ?_⟩
      (repeat (first | (with_reducible exact Below.refl _ _) | (with_reducible assumption) | (with_reducible apply below_drewN) | (with_reducible apply Below.drew) | ((with_reducible refine Below.setCell ?_ ?_ _); rotate_left; focus (first | (simp; done) | (simp; omega) | omega)) | ((with_reducible refine Below.alloc ?_ ?_ _); rotate_left; focus (first | (simp; done) | (simp; omega) | omega))))
    · obtain rfl : R = ⟨em, em, true⟩ := by rw [HR.out]; rfl
      go_wp2_with fail
      refine bodyPost_ret (v := .tuple #[.agg #[.string em, .string em, .bool true], .int .i64 0]) (by simp [results, Tryz.results83, go_sem, *]) rfl ⟨rfl, ?_⟩
      (repeat (first | (with_reducible exact Below.refl _ _) | (with_reducible assumption) | (with_reducible apply below_drewN) | (with_reducible apply Below.drew) | ((with_reducible refine Below.setCell ?_ ?_ _); rotate_left; focus (first | (simp; done) | (simp; omega) | omega)) | ((with_reducible refine Below.alloc ?_ ?_ _); rotate_left; focus (first | (simp; done) | (simp; omega) | omega))))
    · obtain ⟨n0, n9⟩ := Q3.out rfl
      have hK0 := fun W : World => ofKind_any n desc W n0 n9
      obtain ⟨⟨il, ih, io⟩, h1⟩ : ∃ i, i = kindI n desc := ⟨_, rfl⟩
      rw [← h1] at hK0
      obtain rfl : R = ⟨il, ih, io⟩ := by rw [HR.out, h1]; rfl
      simp only at hK0
      have HK : Hid (∀ W : World, Calls _ _ _ W _) := hK0
      clear hK0 h1 HR
      go_wp2_with fail
      refine (HK.out _).mono ?_
      rintro e w2 ⟨rfl, hb⟩
      have X := X1.step hb
      clear hb X1 c0 c1 c2 c3 c4 r0 r1 r2 t0 t1 t2 rl hbw
      have r0 := X.res.c0
      have r1 := X.res.c1
      have r2 := X.res.c2
      have t0 := X.res.f0
      have t1 := X.res.f1
      have t2 := X.res.f2
      have rl := X.res.lt
      have hbw := X.box.bel
      clear X
      go_wp2_with fail
      refine bodyPost_ret (v := .tuple #[.agg #[.string il, .string ih, .bool io], .int .i64 0]) (by simp [results, Tryz.results83, go_sem, *]) rfl ⟨rfl, ?_⟩
      (repeat (first | (with_reducible exact Below.refl _ _) | (with_reducible assumption) | (with_reducible apply below_drewN) | (with_reducible apply Below.drew) | ((with_reducible refine Below.setCell ?_ ?_ _); rotate_left; focus (first | (simp; done) | (simp; omega) | omega)) | ((with_reducible refine Below.alloc ?_ ?_ _); rotate_left; focus (first | (simp; done) | (simp; omega) | omega))))
    · obtain rfl : R = ⟨em, em, true⟩ := by rw [HR.out]; rfl
      go_wp2_with fail
      refine bodyPost_ret (v := .tuple #[.agg #[.string em, .string em, .bool true], .int .i64 0]) (by simp [results, Tryz.results83, go_sem, *]) rfl ⟨rfl, ?_⟩
      (repeat (first | (with_reducible exact Below.refl _ _) | (with_reducible assumption) | (with_reducible apply below_drewN) | (with_reducible apply Below.drew) | ((with_reducible refine Below.setCell ?_ ?_ _); rotate_left; focus (first | (simp; done) | (simp; omega) | omega)) | ((with_reducible refine Below.alloc ?_ ?_ _); rotate_left; focus (first | (simp; done) | (simp; omega) | omega))))

end Go.Proofs.YtdchhjnmhnehiaaGreatDoor
