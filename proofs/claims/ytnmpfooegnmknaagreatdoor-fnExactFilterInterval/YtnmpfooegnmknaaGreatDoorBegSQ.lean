/- What begins with a text: the specification's answer. -/
import Derived.Test.YtnmpfooegnmknaaGreatDoorBegM
import Derived.Test.YtnmpfooegnmknaaGreatDoorKeySQ
import Derived.Test.YtnmpfooegnmknaaGreatDoorRowV
import Derived.Test.YtnmpfooegnmknaaGreatDoorBegIQ
import Derived.Deep.Cut
import Derived.Test.YtnmpfooegnmknaaGreatDoorSplitWQ
import Derived.Test.YtnmpfooegnmknaaGreatDoorTintJQ
namespace Go.Proofs.YtnmpfooegnmknaaGreatDoor
open Go.RowKit
set_option linter.unusedVariables false

set_option maxRecDepth 4000 in
set_option maxHeartbeats 1000000 in
theorem l04Behind_any (t : ByteArray) (w : World) (ht : t.size ≤ 100000) :
    Calls Tryz.prog 164 #[.string t] w fun e w' => e = .returned (.tuple #[.string (mkB (behN t.data.toList t.size).1), .bool (behN t.data.toList t.size).2]) ∧ Below w.heap.size w w' := by
  obtain ⟨P, hP⟩ : ∃ P, P = behN t.data.toList t.size := ⟨_, rfl⟩
  rw [← hP]
  have HP : Hid (_ = _) := hP
  clear hP
  go_enter Tryz.func164, Tryz.ntmps164
  go_wp2_with fail
  go_loopw [4] (fun i wr => ∃ n : Nat, n ≤ t.size ∧ i = .int .i64 n ∧ P = behN t.data.toList n ∧ Below w.heap.size w wr) (fun i _ => (intOf i).toNat)
  case atStart => exact ⟨t.size, Nat.le_refl _, rfl, HP.out, Below.refl _ _⟩
  case round =>
    obtain ⟨n, hn, rfl, hb, hbel⟩ := hrel
    have hz := hbel.size
    cases n with
    | zero =>
      obtain rfl : P = ([], false) := hb
      clear HP
      go_wp2_with fail
      go_ret2
      exact ⟨rfl, hbel⟩
    | succ m =>
      have hm : m < t.size := hn
      have hc : ((m + 1 : Nat) : Int) = (m : Int) + 1 := by omega
      rw [hc]
      have hpos : (0 : Int) < (m : Int) + 1 := by omega
      have hml : (m : Int) < (t.size : Int) := by omega
      have hml2 : (m : Int) ≤ (t.size : Int) := by omega
      clear hc
      by_cases hlow : t[m] < 255
      · have hlow' := (low_nat t[m]).mp hlow
        rw [behN_low t m hm hlow] at hb
        have hw3 : IntKind.u8.wrap ((t[m].toNat : Int) + 1) = (t[m].toNat : Int) + 1 := by simp only [IntKind.wrap, IntKind.bits, IntKind.signed]; simp; omega
        have hcg : ∀ (W : World) (g : Nat), W.cell? ⟨g, 0, none⟩ = some (.int .u8 ((t[m].toNat : Int) + 1)) → _ := fun W g h => convK W g ((t[m].toNat : Int) + 1) h
        have hR : mkB (t.data.toList.take m ++ [t[m] + 1]) = t.extract 0 m ++ txt [(t[m].toNat : Int) + 1] := by rw [ext_take, txt_succ _ hlow, mkB_app]
        have hs1 : (t.extract 0 m).size = m := by simp; omega
        have hs2 : (txt [(t[m].toNat : Int) + 1]).size = 1 := txt_size _
        obtain ⟨A, hA⟩ : ∃ A, A = txt [(t[m].toNat : Int) + 1] := ⟨_, rfl⟩
        rw [← hA] at hR hs2
        simp only [← hA] at hcg
        have HR : Hid (_ = _) := hR
        subst hb
        clear hR hA HP hlow
        go_wp2_with fail
        go_region
        all_goals
          go_wp2_with fail
          go_ret2
          exact ⟨congrArg (fun s => Ending.returned (Value.tuple #[.string s, .bool true])) HR.out.symm, by (repeat (first | (with_reducible exact Below.refl _ _) | (with_reducible assumption) | (with_reducible apply below_drewN) | (with_reducible apply Below.drew) | ((with_reducible refine Below.setCell ?_ ?_ _); rotate_left; focus (first | (simp; done) | (simp; omega) | omega)) | ((with_reducible refine Below.alloc ?_ ?_ _); rotate_left; focus (first | (simp; done) | (simp; omega) | omega))))⟩
      · have hlow' : ¬ ((t[m].toNat : Nat) : Int) < 255 := fun h => hlow ((low_nat t[m]).mpr h)
        rw [behN_high t m hm hlow] at hb
        have HB : Hid (_ = _) := hb
        clear hb HP hlow
        go_wp2_with fail
        go_roundw
        case rel => exact ⟨m, by omega, by go_num, HB.out, hbel⟩
        case measure => simp [intOf]

set_option maxRecDepth 4000 in
set_option maxHeartbeats 1000000 in
theorem l04Begin_any (l : List UInt8) (w : World) (hl : l.length ≤ 100000) :
    Calls Tryz.prog 111 #[.string (mkB l)] w fun e w' => e = .returned (.agg #[.string (mkB l), .string (beginI l).hi, .bool (beginI l).op]) ∧ Below w.heap.size w w' := by
  have HC0 := fun W : World => l04Behind_any (mkB l) W (by rw [mkB_size]; exact hl)
  rw [mkB_data, mkB_size] at HC0
  unfold beginI
  simp only
  obtain ⟨⟨p1, p2⟩, hP⟩ : ∃ P, P = behN l l.length := ⟨_, rfl⟩
  rw [← hP] at HC0 ⊢
  have HC : Hid (∀ W : World, Calls _ _ _ W _) := HC0
  have Y0 := Res3.start w (.string em) (.string em) (.bool false) 24
  obtain ⟨A, hA⟩ : ∃ A, A = mkB l := ⟨_, rfl⟩
  rw [← hA] at HC ⊢
  clear HC0 hP hA
  go_enter Tryz.func111, Tryz.ntmps111
  go_wp2_with fail
  refine (HC.out _).mono ?_
  rintro e w1 ⟨rfl, hb⟩
  have Y := Y0.step hb
  have g0 := Y.c0
  have g1 := Y.c1
  have g2 := Y.c2
  have z0 := Y.z0
  have z1 := Y.z1
  have z2 := Y.z2
  have hlt := Y.lt
  have hbw := Y.bel
  clear hb Y Y0
  go_wp2_with fail
  refine bodyPost_ret (v := .agg #[.string A, .string (mkB p1), .bool (!p2)]) (by simp [results, Tryz.results111, go_sem, *]) rfl ⟨rfl, ?_⟩
  (repeat (first | (with_reducible exact Below.refl _ _) | (with_reducible assumption) | (with_reducible apply below_drewN) | (with_reducible apply Below.drew) | ((with_reducible refine Below.setCell ?_ ?_ _); rotate_left; focus (first | (simp; done) | (simp; omega) | omega)) | ((with_reducible refine Below.alloc ?_ ?_ _); rotate_left; focus (first | (simp; done) | (simp; omega) | omega))))
set_option maxHeartbeats 1000000 in
theorem l04Turned_any (l : List UInt8) (desc : Bool) (w : World) (hl : l.length ≤ 100000) :
    Calls Tryz.prog 112 #[.string (mkB l), .bool desc] w fun e w' => e = .returned (.string (mkB (dirK desc l))) ∧ Below w.heap.size w w' := by
  have hT := fun W : World => l04Turn_any (mkB l) W (by rw [mkB_size]; exact hl)
  rw [mkB_data] at hT
  have HT : Hid (∀ W : World, Calls _ _ _ W _) := hT
  clear hT
  cases desc
  · show Calls _ _ _ _ fun e w' => e = .returned (.string (mkB l)) ∧ Below w.heap.size w w'
    go_enter Tryz.func112, Tryz.ntmps112
    go_wp2_with fail
    go_ret
    exact ⟨rfl, Below.refl _ _⟩
  · show Calls _ _ _ _ fun e w' => e = .returned (.string (mkB (turnL l))) ∧ Below w.heap.size w w'
    go_enter Tryz.func112, Tryz.ntmps112
    go_wp2_with (go_at_call 93; refine (HT.out _).mono ?_; rintro e w2 ⟨rfl, hb⟩)
    go_ret
    exact ⟨rfl, hb⟩

end Go.Proofs.YtnmpfooegnmknaaGreatDoor

/- The interval of a term: the specification's answer. -/
namespace Go.Proofs.YtnmpfooegnmknaaGreatDoor
open Go.RowKit
set_option linter.unusedVariables false

theorem num_of (k : Int) (h0 : 0 ≤ k) (h5 : k ≤ 5) (w : World) : Calls Tryz.prog 113 #[.int .i64 (k + 1), .int .i64 1] w fun e w' => e = .returned (.string (mkB [kb k])) ∧ Below w.heap.size w w' := l01Num (k + 1) (kb k) (num_kb k h0 h5) w
set_option maxRecDepth 8000 in
set_option maxHeartbeats 8000000 in
theorem l04Term_any (op : Int) (p : ByteArray) (v : Val) (desc : Bool) (w : World) (h : okB v = true) (hop : 1 ≤ op ∧ op ≤ 10) (hn : op = 9 → 0 ≤ v.n ∧ v.n ≤ 5) :
    Calls Tryz.prog 60 #[.agg #[.int .i64 op, .string p, .int .i64 v.k, .int .i64 v.n, .string v.t], .bool desc] w fun e w' => e = .returned (.agg #[.string (tintI op v desc).lo, .string (tintI op v desc).hi, .bool (tintI op v desc).op]) ∧ Below w.heap.size w w' := by
  obtain ⟨h0, h5⟩ := fits_kind v h
  have hk1 : IntKind.i64.wrap (v.k + 1) = v.k + 1 := by rw [IntKind.wrap_i64]; omega
  have hN0 := num_of v.k h0 h5
  have hT0 := fun W : World => l04Turned_any [kb v.k] desc W (by simp)
  have hdl : (dirK desc [kb v.k]).length = 1 := by cases desc <;> rfl
  have hG0 := fun W : World => l04Begin_any (dirK desc [kb v.k]) W (by omega)
  have hkz := key_size v h
  rw [mkB_size] at hkz
  have hdz : (dirK desc (keyV 5 v)).length = (keyV 5 v).length := by cases desc; rfl; exact turnL_len _
  have hK0 := fun W : World => l04Key_any v desc W h
  have hB0 := fun W : World => l04Begin_any (dirK desc (keyV 5 v)) W (by rw [hdz]; omega)
  obtain ⟨c, r, s, hc, e1, e2, hs⟩ := one_begin v desc h
  have m1 : meetI ⟨mkB [c], mkB [c + 1], false⟩ ⟨em, mkB s, false⟩ = ⟨mkB [c], mkB s, false⟩ := by
    show (⟨Lib.maxS (mkB [c]) em, Lib.minS (mkB [c + 1]) (mkB s), false⟩ : Ivl) = _
    rw [max_em, up_not c hc s hs]
  have m2 : meetI ⟨mkB [c], mkB [c + 1], false⟩ ⟨em, mkB (c :: r), false⟩ = ⟨mkB [c], mkB (c :: r), false⟩ := by
    show (⟨Lib.maxS (mkB [c]) em, Lib.minS (mkB [c + 1]) (mkB (c :: r)), false⟩ : Ivl) = _
    rw [max_em, up_not c hc (c :: r) (.inr ⟨r, rfl⟩)]
  obtain ⟨kl, hkl⟩ : ∃ kl, kl = mkB [c] := ⟨_, rfl⟩
  obtain ⟨kh, hkh⟩ : ∃ kh, kh = mkB [c + 1] := ⟨_, rfl⟩
  obtain ⟨ol, hol⟩ : ∃ ol, ol = mkB (c :: r) := ⟨_, rfl⟩
  obtain ⟨oh, hoh⟩ : ∃ oh, oh = mkB s := ⟨_, rfl⟩
  rw [← hkl, ← hkh] at e1 m1 m2
  rw [← hol, ← hoh] at e2
  rw [← hoh] at m1
  rw [← hol] at m2
  have f1 : mkB (dirK desc [kb v.k]) = kl := congrArg Ivl.lo e1
  have f2 : mkB (dirK desc (keyV 5 v)) = ol := congrArg Ivl.lo e2
  have g1 : beginI (dirK desc [kb v.k]) = ⟨kl, kh, false⟩ := e1
  have g2 : beginI (dirK desc (keyV 5 v)) = ⟨ol, oh, false⟩ := e2
  rw [f1] at hT0
  rw [f1, g1] at hG0
  rw [f2] at hK0
  rw [f2, g2] at hB0
  simp only at hG0 hB0
  have hM1 := fun W : World => l04Meet_any ⟨kl, kh, false⟩ ⟨em, oh, false⟩ W
  have hM2 := fun W : World => l04Meet_any ⟨kl, kh, false⟩ ⟨em, ol, false⟩ W
  rw [m1] at hM1
  rw [m2] at hM2
  simp only at hM1 hM2
  have HN : Hid (∀ W : World, Calls _ _ _ W _) := hN0
  have HT : Hid (∀ W : World, Calls _ _ _ W _) := hT0
  have HG : Hid (∀ W : World, Calls _ _ _ W _) := hG0
  have HK : Hid (∀ W : World, Calls _ _ _ W _) := hK0
  have HB : Hid (∀ W : World, Calls _ _ _ W _) := hB0
  have HM1 : Hid (∀ W : World, Calls _ _ _ W _) := hM1
  have HM2 : Hid (∀ W : World, Calls _ _ _ W _) := hM2
  have E1 : Hid (kindI v.k desc = _) := e1
  have E2 : Hid (oneI v desc = _) := e2
  obtain ⟨R, hR⟩ : ∃ R, R = tintI op v desc := ⟨_, rfl⟩
  rw [← hR]
  have HR : Hid (_ = _) := hR
  have HNN : Hid _ := hn
  have X0 := Fr.start w (.int .i64 op) (.string p) (.int .i64 v.k) (.int .i64 v.n) (.string v.t) 34 24
  have a2 := X0.box.c2
  clear hN0 hT0 hG0 hK0 hB0 hM1 hM2 e1 e2 f1 f2 g1 g2 hkl hkh hol hoh m1 m2 hs hc hdl hkz hdz hR hn
  go_enter Tryz.func60, Tryz.ntmps60
  go_wp2_with fail
  refine (HN.out _).mono ?_
  rintro e w1 ⟨rfl, hb⟩
  have X1 := X0.step hb
  clear hb X0 a2
  go_wp2_with fail
  refine (HT.out _).mono ?_
  rintro e w2 ⟨rfl, hb⟩
  have X2 := X1.step hb
  clear hb X1
  go_wp2_with fail
  refine (HG.out _).mono ?_
  rintro e w3 ⟨rfl, hb⟩
  have X3 := (X2.step hb).step ((Below.refl _ _).alloc (Nat.le_refl _) (.cells #[.string kl, .string kh, .bool false] 24))
  have K3 := I3.new w3 (.string kl) (.string kh) (.bool false) 24
  obtain ⟨gk, hgk⟩ : ∃ gk, gk = w3.heap.size := ⟨_, rfl⟩
  have hgk0 : w.heap.size + 1 < gk := by have := (X2.step hb).res.lt; omega
  rw [← hgk] at K3
  have a2 := X3.box.c2
  have a3 := X3.box.c3
  have a4 := X3.box.c4
  clear hb X2
  go_wp2_with fail
  rw [← hgk]
  generalize w3.alloc (.cells #[.string kl, .string kh, .bool false] 24) = W3 at X3 K3 a2 a3 a4 ⊢
  clear hgk
  refine (HK.out _).mono ?_
  rintro e w4 ⟨rfl, hb⟩
  have X4 := X3.step hb
  have K4 := K3.step hb
  clear hb X3 K3 a2 a3 a4
  go_wp2_with fail
  refine (HB.out _).mono ?_
  rintro e w5 ⟨rfl, hb⟩
  have hga := (K4.step hb).lt
  have X5 := (X4.step hb).step ((Below.refl _ _).alloc (Nat.le_refl _) (.cells #[.string ol, .string oh, .bool false] 24))
  have K5 := (K4.step hb).step ((Below.refl _ _).alloc (Nat.le_refl _) (.cells #[.string ol, .string oh, .bool false] 24))
  have O5 := I3.new w5 (.string ol) (.string oh) (.bool false) 24
  obtain ⟨go, hgo⟩ : ∃ go, go = w5.heap.size := ⟨_, rfl⟩
  have hgo0 : gk < go := by omega
  rw [← hgo] at O5
  have a0 := X5.box.c0
  have a1 := X5.box.c3
  have k0 := K5.c0
  have k1 := K5.c1
  have k2 := K5.c2
  have kf := K5.f0
  have o0 := O5.c0
  have o1 := O5.c1
  have o2 := O5.c2
  have r0 := X5.res.c0
  have r1 := X5.res.c1
  have r2 := X5.res.c2
  have t0 := X5.res.f0
  have t1 := X5.res.f1
  have t2 := X5.res.f2
  have rl := X5.res.lt
  have kll := K5.lt
  have oll := O5.lt
  have hbw := X5.box.bel
  have n1 : gk ≠ w.heap.size + 1 := by omega
  have n2 : go ≠ w.heap.size + 1 := by omega
  have n3 : w.heap.size + 1 ≠ gk := by omega
  have n4 : w.heap.size + 1 ≠ go := by omega
  have n5 : gk ≠ go := by omega
  have n6 : go ≠ gk := by omega
  clear hb X4 K4 O5 hga
  have hcase : op = 1 ∨ op = 2 ∨ op = 3 ∨ op = 4 ∨ op = 5 ∨ op = 6 ∨ op = 7 ∨ op = 8 ∨ op = 9 ∨ op = 10 := by omega
  clear hop
  go_upto_region 3 with fail
  rw [← hgo]
  generalize w5.alloc (.cells #[.string ol, .string oh, .bool false] 24) = W5 at *
  clear hgo
  rcases hcase with rfl | rfl | rfl | rfl | rfl | rfl | rfl | rfl | rfl | rfl
  · obtain rfl : R = ⟨ol, oh, false⟩ := by rw [HR.out, ← E2.out]; rfl
    go_wp2_with fail
    refine bodyPost_ret (v := .agg #[.string ol, .string oh, .bool false]) (by simp [results, Tryz.results60, go_sem, *]) rfl ⟨rfl, ?_⟩
    (repeat (first | (with_reducible exact Below.refl _ _) | (with_reducible assumption) | (with_reducible apply below_drewN) | (with_reducible apply Below.drew) | ((with_reducible refine Below.setCell ?_ ?_ _); rotate_left; focus (first | (simp; done) | (simp; omega) | omega)) | ((with_reducible refine Below.alloc ?_ ?_ _); rotate_left; focus (first | (simp; done) | (simp; omega) | omega))))
  · obtain rfl : R = ⟨em, em, true⟩ := by rw [HR.out]; rfl
    go_wp2_with fail
    refine bodyPost_ret (v := .agg #[.string em, .string em, .bool true]) (by simp [results, Tryz.results60, go_sem, *]) rfl ⟨rfl, ?_⟩
    (repeat (first | (with_reducible exact Below.refl _ _) | (with_reducible assumption) | (with_reducible apply below_drewN) | (with_reducible apply Below.drew) | ((with_reducible refine Below.setCell ?_ ?_ _); rotate_left; focus (first | (simp; done) | (simp; omega) | omega)) | ((with_reducible refine Below.alloc ?_ ?_ _); rotate_left; focus (first | (simp; done) | (simp; omega) | omega))))
  · cases desc
    · obtain rfl : R = ⟨kl, ol, false⟩ := by rw [HR.out]; show ordT 3 v false = _; unfold ordT; rw [E1.out, E2.out]; rfl
      go_wp2_with fail
      refine (HM2.out _).mono ?_
      rintro e w6 ⟨rfl, hb⟩
      have X6 := X5.step hb
      have r0' := X6.res.c0
      have r1' := X6.res.c1
      have r2' := X6.res.c2
      have t0' := X6.res.f0
      have t1' := X6.res.f1
      have t2' := X6.res.f2
      have rl' := X6.res.lt
      have hbw' := X6.box.bel
      clear hb X5 X6 r0 r1 r2 t0 t1 t2 rl a0 a1 k0 k1 k2 kf o0 o1 o2 hbw
      go_wp2_with fail
      refine bodyPost_ret (v := .agg #[.string kl, .string ol, .bool false]) (by simp [results, Tryz.results60, go_sem, *]) rfl ⟨rfl, ?_⟩
      (repeat (first | (with_reducible exact Below.refl _ _) | (with_reducible assumption) | (with_reducible apply below_drewN) | (with_reducible apply Below.drew) | ((with_reducible refine Below.setCell ?_ ?_ _); rotate_left; focus (first | (simp; done) | (simp; omega) | omega)) | ((with_reducible refine Below.alloc ?_ ?_ _); rotate_left; focus (first | (simp; done) | (simp; omega) | omega))))
    · obtain rfl : R = ⟨oh, kh, false⟩ := by rw [HR.out]; show ordT 3 v true = _; unfold ordT; rw [E1.out, E2.out]; rfl
      go_wp2_with fail
      refine bodyPost_ret (v := .agg #[.string oh, .string kh, .bool false]) (by simp [results, Tryz.results60, go_sem, *]) rfl ⟨rfl, ?_⟩
      (repeat (first | (with_reducible exact Below.refl _ _) | (with_reducible assumption) | (with_reducible apply below_drewN) | (with_reducible apply Below.drew) | ((with_reducible refine Below.setCell ?_ ?_ _); rotate_left; focus (first | (simp; done) | (simp; omega) | omega)) | ((with_reducible refine Below.alloc ?_ ?_ _); rotate_left; focus (first | (simp; done) | (simp; omega) | omega))))
  · cases desc
    · obtain rfl : R = ⟨kl, oh, false⟩ := by rw [HR.out]; show ordT 4 v false = _; unfold ordT; rw [E1.out, E2.out]; rfl
      go_wp2_with fail
      refine (HM1.out _).mono ?_
      rintro e w6 ⟨rfl, hb⟩
      have X6 := X5.step hb
      have r0' := X6.res.c0
      have r1' := X6.res.c1
      have r2' := X6.res.c2
      have t0' := X6.res.f0
      have t1' := X6.res.f1
      have t2' := X6.res.f2
      have rl' := X6.res.lt
      have hbw' := X6.box.bel
      clear hb X5 X6 r0 r1 r2 t0 t1 t2 rl a0 a1 k0 k1 k2 kf o0 o1 o2 hbw
      go_wp2_with fail
      refine bodyPost_ret (v := .agg #[.string kl, .string oh, .bool false]) (by simp [results, Tryz.results60, go_sem, *]) rfl ⟨rfl, ?_⟩
      (repeat (first | (with_reducible exact Below.refl _ _) | (with_reducible assumption) | (with_reducible apply below_drewN) | (with_reducible apply Below.drew) | ((with_reducible refine Below.setCell ?_ ?_ _); rotate_left; focus (first | (simp; done) | (simp; omega) | omega)) | ((with_reducible refine Below.alloc ?_ ?_ _); rotate_left; focus (first | (simp; done) | (simp; omega) | omega))))
    · obtain rfl : R = ⟨ol, kh, false⟩ := by rw [HR.out]; show ordT 4 v true = _; unfold ordT; rw [E1.out, E2.out]; rfl
      go_wp2_with fail
      refine bodyPost_ret (v := .agg #[.string ol, .string kh, .bool false]) (by simp [results, Tryz.results60, go_sem, *]) rfl ⟨rfl, ?_⟩
      (repeat (first | (with_reducible exact Below.refl _ _) | (with_reducible assumption) | (with_reducible apply below_drewN) | (with_reducible apply Below.drew) | ((with_reducible refine Below.setCell ?_ ?_ _); rotate_left; focus (first | (simp; done) | (simp; omega) | omega)) | ((with_reducible refine Below.alloc ?_ ?_ _); rotate_left; focus (first | (simp; done) | (simp; omega) | omega))))
  · cases desc
    · obtain rfl : R = ⟨oh, kh, false⟩ := by rw [HR.out]; show ordT 5 v false = _; unfold ordT; rw [E1.out, E2.out]; rfl
      go_wp2_with fail
      refine bodyPost_ret (v := .agg #[.string oh, .string kh, .bool false]) (by simp [results, Tryz.results60, go_sem, *]) rfl ⟨rfl, ?_⟩
      (repeat (first | (with_reducible exact Below.refl _ _) | (with_reducible assumption) | (with_reducible apply below_drewN) | (with_reducible apply Below.drew) | ((with_reducible refine Below.setCell ?_ ?_ _); rotate_left; focus (first | (simp; done) | (simp; omega) | omega)) | ((with_reducible refine Below.alloc ?_ ?_ _); rotate_left; focus (first | (simp; done) | (simp; omega) | omega))))
    · obtain rfl : R = ⟨kl, ol, false⟩ := by rw [HR.out]; show ordT 5 v true = _; unfold ordT; rw [E1.out, E2.out]; rfl
      go_wp2_with fail
      refine (HM2.out _).mono ?_
      rintro e w6 ⟨rfl, hb⟩
      have X6 := X5.step hb
      have r0' := X6.res.c0
      have r1' := X6.res.c1
      have r2' := X6.res.c2
      have t0' := X6.res.f0
      have t1' := X6.res.f1
      have t2' := X6.res.f2
      have rl' := X6.res.lt
      have hbw' := X6.box.bel
      clear hb X5 X6 r0 r1 r2 t0 t1 t2 rl a0 a1 k0 k1 k2 kf o0 o1 o2 hbw
      go_wp2_with fail
      refine bodyPost_ret (v := .agg #[.string kl, .string ol, .bool false]) (by simp [results, Tryz.results60, go_sem, *]) rfl ⟨rfl, ?_⟩
      (repeat (first | (with_reducible exact Below.refl _ _) | (with_reducible assumption) | (with_reducible apply below_drewN) | (with_reducible apply Below.drew) | ((with_reducible refine Below.setCell ?_ ?_ _); rotate_left; focus (first | (simp; done) | (simp; omega) | omega)) | ((with_reducible refine Below.alloc ?_ ?_ _); rotate_left; focus (first | (simp; done) | (simp; omega) | omega))))
  · cases desc
    · obtain rfl : R = ⟨ol, kh, false⟩ := by rw [HR.out]; show ordT 6 v false = _; unfold ordT; rw [E1.out, E2.out]; rfl
      go_wp2_with fail
      refine bodyPost_ret (v := .agg #[.string ol, .string kh, .bool false]) (by simp [results, Tryz.results60, go_sem, *]) rfl ⟨rfl, ?_⟩
      (repeat (first | (with_reducible exact Below.refl _ _) | (with_reducible assumption) | (with_reducible apply below_drewN) | (with_reducible apply Below.drew) | ((with_reducible refine Below.setCell ?_ ?_ _); rotate_left; focus (first | (simp; done) | (simp; omega) | omega)) | ((with_reducible refine Below.alloc ?_ ?_ _); rotate_left; focus (first | (simp; done) | (simp; omega) | omega))))
    · obtain rfl : R = ⟨kl, oh, false⟩ := by rw [HR.out]; show ordT 6 v true = _; unfold ordT; rw [E1.out, E2.out]; rfl
      go_wp2_with fail
      refine (HM1.out _).mono ?_
      rintro e w6 ⟨rfl, hb⟩
      have X6 := X5.step hb
      have r0' := X6.res.c0
      have r1' := X6.res.c1
      have r2' := X6.res.c2
      have t0' := X6.res.f0
      have t1' := X6.res.f1
      have t2' := X6.res.f2
      have rl' := X6.res.lt
      have hbw' := X6.box.bel
      clear hb X5 X6 r0 r1 r2 t0 t1 t2 rl a0 a1 k0 k1 k2 kf o0 o1 o2 hbw
      go_wp2_with fail
      refine bodyPost_ret (v := .agg #[.string kl, .string oh, .bool false]) (by simp [results, Tryz.results60, go_sem, *]) rfl ⟨rfl, ?_⟩
      (repeat (first | (with_reducible exact Below.refl _ _) | (with_reducible assumption) | (with_reducible apply below_drewN) | (with_reducible apply Below.drew) | ((with_reducible refine Below.setCell ?_ ?_ _); rotate_left; focus (first | (simp; done) | (simp; omega) | omega)) | ((with_reducible refine Below.alloc ?_ ?_ _); rotate_left; focus (first | (simp; done) | (simp; omega) | omega))))
  · obtain rfl : R = ⟨em, em, true⟩ := by rw [HR.out]; rfl
    go_wp2_with fail
    refine bodyPost_ret (v := .agg #[.string em, .string em, .bool true]) (by simp [results, Tryz.results60, go_sem, *]) rfl ⟨rfl, ?_⟩
    (repeat (first | (with_reducible exact Below.refl _ _) | (with_reducible assumption) | (with_reducible apply below_drewN) | (with_reducible apply Below.drew) | ((with_reducible refine Below.setCell ?_ ?_ _); rotate_left; focus (first | (simp; done) | (simp; omega) | omega)) | ((with_reducible refine Below.alloc ?_ ?_ _); rotate_left; focus (first | (simp; done) | (simp; omega) | omega))))
  · obtain rfl : R = ⟨em, em, true⟩ := by rw [HR.out]; rfl
    go_wp2_with fail
    refine bodyPost_ret (v := .agg #[.string em, .string em, .bool true]) (by simp [results, Tryz.results60, go_sem, *]) rfl ⟨rfl, ?_⟩
    (repeat (first | (with_reducible exact Below.refl _ _) | (with_reducible assumption) | (with_reducible apply below_drewN) | (with_reducible apply Below.drew) | ((with_reducible refine Below.setCell ?_ ?_ _); rotate_left; focus (first | (simp; done) | (simp; omega) | omega)) | ((with_reducible refine Below.alloc ?_ ?_ _); rotate_left; focus (first | (simp; done) | (simp; omega) | omega))))
  · obtain ⟨n0, n9⟩ := HNN.out rfl
    have hk2 : IntKind.i64.wrap (v.n + 1) = v.n + 1 := by rw [IntKind.wrap_i64]; omega
    have HN2 : Hid (∀ W : World, Calls _ _ _ W _) := num_of v.n n0 n9
    have HT2 : Hid (∀ W : World, Calls _ _ _ W _) := fun W => l04Turned_any [kb v.n] desc W (by simp)
    have HG2 : Hid (∀ W : World, Calls _ _ _ W _) := fun W => l04Begin_any (dirK desc [kb v.n]) W (by cases desc <;> (show 1 ≤ 100000; omega))
    obtain rfl : R = ⟨mkB (dirK desc [kb v.n]), (beginI (dirK desc [kb v.n])).hi, (beginI (dirK desc [kb v.n])).op⟩ := by rw [HR.out]; rfl
    obtain ⟨bl, hbl⟩ : ∃ bl, bl = mkB (dirK desc [kb v.n]) := ⟨_, rfl⟩
    obtain ⟨bh, hbh⟩ : ∃ bh, bh = (beginI (dirK desc [kb v.n])).hi := ⟨_, rfl⟩
    obtain ⟨bo, hbo⟩ : ∃ bo, bo = (beginI (dirK desc [kb v.n])).op := ⟨_, rfl⟩
    have HT3 : Hid (∀ W : World, Calls _ _ _ W _) := HT2.out
    have HG3 : Hid (∀ W : World, Calls _ _ _ W _) := HG2.out
    simp only [← hbl, ← hbh, ← hbo] at HT3 HG3
    have HF : Hid (_ ∧ _ ∧ _) := ⟨hbl, hbh, hbo⟩
    clear HT2 HG2 hbl hbh hbo k0 k1 k2 kf o0 o1 o2
    go_wp2_with fail
    refine (HN2.out _).mono ?_
    rintro e w6 ⟨rfl, hb⟩
    have X6 := X5.step hb
    clear hb X5 r0 r1 r2 t0 t1 t2 a0 a1 rl
    go_wp2_with fail
    refine (HT3.out _).mono ?_
    rintro e w7 ⟨rfl, hb⟩
    have X7 := X6.step hb
    clear hb X6
    go_wp2_with fail
    refine (HG3.out _).mono ?_
    rintro e w8 ⟨rfl, hb⟩
    have X8 := X7.step hb
    have r0 := X8.res.c0
    have r1 := X8.res.c1
    have r2 := X8.res.c2
    have t0 := X8.res.f0
    have t1 := X8.res.f1
    have t2 := X8.res.f2
    have rl := X8.res.lt
    have hbw2 := X8.box.bel
    clear hb X7 X8
    go_wp2_with fail
    refine bodyPost_ret (v := .agg #[.string bl, .string bh, .bool bo]) (by simp [results, Tryz.results60, go_sem, *]) rfl ⟨?_, ?_⟩
    · obtain ⟨q1, q2, q3⟩ := HF.out; rw [q1, q2, q3]
    · (repeat (first | (with_reducible exact Below.refl _ _) | (with_reducible assumption) | (with_reducible apply below_drewN) | (with_reducible apply Below.drew) | ((with_reducible refine Below.setCell ?_ ?_ _); rotate_left; focus (first | (simp; done) | (simp; omega) | omega)) | ((with_reducible refine Below.alloc ?_ ?_ _); rotate_left; focus (first | (simp; done) | (simp; omega) | omega))))
  · obtain rfl : R = ⟨em, em, true⟩ := by rw [HR.out]; rfl
    go_wp2_with fail
    refine bodyPost_ret (v := .agg #[.string em, .string em, .bool true]) (by simp [results, Tryz.results60, go_sem, *]) rfl ⟨rfl, ?_⟩
    (repeat (first | (with_reducible exact Below.refl _ _) | (with_reducible assumption) | (with_reducible apply below_drewN) | (with_reducible apply Below.drew) | ((with_reducible refine Below.setCell ?_ ?_ _); rotate_left; focus (first | (simp; done) | (simp; omega) | omega)) | ((with_reducible refine Below.alloc ?_ ?_ _); rotate_left; focus (first | (simp; done) | (simp; omega) | omega))))

end Go.Proofs.YtnmpfooegnmknaaGreatDoor

/- What the laws' own small helpers on terms answer. -/
namespace Go.Proofs.YtnmpfooegnmknaaGreatDoor
open Go.RowKit
set_option linter.unusedVariables false

set_option maxRecDepth 4000 in
set_option maxHeartbeats 1000000 in
theorem szTerm_any (op : Int) (p : ByteArray) (k n : Int) (t : ByteArray) (c : Int) (w : World) (hp : p.size ≤ maxLen) (ht : t.size ≤ maxLen) (hc : 0 ≤ c) (hc2 : c ≤ 1048576) :
    Calls Tryz.prog 194 #[.agg #[.int .i64 op, .string p, .int .i64 k, .int .i64 n, .string t], .int .i64 c] w fun e w' => (∃ r : Int, e = .returned (.int .i64 r) ∧ (r < 0 ∨ (0 ≤ r ∧ r ≤ c ∧ p.size ≤ 1048576 ∧ t.size ≤ 1048576))) ∧ Below w.heap.size w w' := by
  have X0 := Box5.start w (.int .i64 op) (.string p) (.int .i64 k) (.int .i64 n) (.string t) 215
  unfold maxLen at hp
  by_cases h : c < p.size
  · go_enter Tryz.func194, Tryz.ntmps194
    go_wp2_with fail
    go_ret
    exact ⟨⟨-1, rfl, .inl (by omega)⟩, X0.bel⟩
  · go_enter Tryz.func194, Tryz.ntmps194
    go_wp2_with fail
    refine (szValue_any k n t _ _ ht (by omega) (by omega)).mono ?_
    rintro e w1 ⟨rfl, hb⟩
    have X1 := X0.step hb
    clear hb X0
    by_cases h2 : c - p.size < t.size
    · rw [if_pos h2]
      go_wp2_with fail
      go_ret
      exact ⟨⟨-1, rfl, .inl (by omega)⟩, X1.bel⟩
    · rw [if_neg h2]
      go_wp2_with fail
      go_ret
      exact ⟨⟨_, rfl, .inr ⟨by omega, by omega, by omega, by omega⟩⟩, X1.bel⟩

set_option maxRecDepth 4000 in
set_option maxHeartbeats 1000000 in
theorem toTerm_any (op : Int) (p : ByteArray) (k n : Int) (t : ByteArray) (w : World) :
    Calls Tryz.prog 195 #[.agg #[.int .i64 op, .string p, .int .i64 k, .int .i64 n, .string t]] w fun e w' => e = .returned (.agg #[.int .i64 op, .string p, .int .i64 k, .int .i64 n, .string t]) ∧ Below w.heap.size w w' := by
  go_enter Tryz.func195, Tryz.ntmps195
  go_wp2_with fail
  refine (toValue_any k n t _).mono ?_
  rintro e w1 ⟨rfl, hb⟩
  obtain ⟨hc, hf⟩ := bcell hb
  have hz : w.heap.size + 2 < w1.heap.size := by have := hb.size; simp at this; omega
  have hbw : Below w.heap.size w w1 := ((((Below.refl _ _).alloc (Nat.le_refl _) _).alloc (by simp) _).alloc (by simp; omega) _).trans (hb.mono (by simp; omega))
  clear hb
  go_wp2_with fail
  refine bodyPost_ret (v := .agg #[.int .i64 op, .string p, .int .i64 k, .int .i64 n, .string t]) (by simp [results, Tryz.results195, go_sem, *]) rfl ⟨rfl, ?_⟩
  (repeat (first | (with_reducible exact Below.refl _ _) | (with_reducible assumption) | (with_reducible apply below_drewN) | (with_reducible apply Below.drew) | ((with_reducible refine Below.setCell ?_ ?_ _); rotate_left; focus (first | (simp; done) | (simp; omega) | omega)) | ((with_reducible refine Below.alloc ?_ ?_ _); rotate_left; focus (first | (simp; done) | (simp; omega) | omega))))

end Go.Proofs.YtnmpfooegnmknaaGreatDoor

/- The interval of a term: what the two functions answer, for every term. -/
namespace Go.Proofs.YtnmpfooegnmknaaGreatDoor
open Go.RowKit
set_option linter.unusedVariables false

theorem term_parts (op : Int) (p : ByteArray) (v : Val) (h : termB op p v = true) : okB v = true ∧ (1 ≤ op ∧ op ≤ 10) ∧ (op = 9 → 0 ≤ v.n ∧ v.n ≤ 5) := by
  unfold termB at h
  rw [Bool.and_eq_true, Bool.and_eq_true] at h
  obtain ⟨_, hv, ht⟩ := h
  refine ⟨hv, ?_, ?_⟩
  · unfold takesT at ht
    split at ht
    · omega
    · split at ht
      · omega
      · split at ht
        · omega
        · split at ht
          · omega
          · split at ht
            · omega
            · cases ht
  · rintro rfl
    have e : takesT 9 v.k v.n = decide (v.k = 2 ∧ 0 ≤ v.n ∧ v.n ≤ 5) := rfl
    rw [e, decide_eq_true_eq] at ht
    exact ht.2

set_option maxRecDepth 4000 in
set_option maxHeartbeats 2000000 in
theorem specTint_any (op : Int) (p : ByteArray) (k n : Int) (t : ByteArray) (desc : Bool) (w : World) (hp : p.size ≤ 1048576) (ht : t.size ≤ 1048576) :
    Calls Tryz.prog 18 #[.agg #[.int .i64 op, .string p, .int .i64 k, .int .i64 n, .string t], .bool desc] w fun e w' => e = .returned (.tuple #[.agg #[.string (tintP op p ⟨k, n, t⟩ desc).1.lo, .string (tintP op p ⟨k, n, t⟩ desc).1.hi, .bool (tintP op p ⟨k, n, t⟩ desc).1.op], .int .i64 (tintP op p ⟨k, n, t⟩ desc).2]) ∧ Below w.heap.size w w' := by
  have X0 := Fr.start w (.int .i64 op) (.string p) (.int .i64 k) (.int .i64 n) (.string t) 34 24
  have HS0 := fun W : World => specTerm_any op p k n t W hp ht
  cases hB : termB op p ⟨k, n, t⟩
  · rw [tintP_bad _ _ _ _ hB]
    rw [hB] at HS0
    have HS : Hid (∀ W : World, Calls _ _ _ W _) := HS0
    clear HS0 hB
    go_enter Tryz.func18, Tryz.ntmps18
    go_wp2_with fail
    refine (HS.out _).mono ?_
    rintro e w1 ⟨rfl, hb⟩
    have X := X0.step hb
    have r0 := X.res.c0
    have r1 := X.res.c1
    have r2 := X.res.c2
    have t0 := X.res.f0
    have t1 := X.res.f1
    have t2 := X.res.f2
    have rl := X.res.lt
    have hbw := X.box.bel
    clear hb X0 X
    go_wp2_with fail
    refine bodyPost_ret (v := .tuple #[.agg #[.string em, .string em, .bool false], .int .i64 1]) (by simp [results, Tryz.results18, go_sem, *]) rfl ⟨rfl, ?_⟩
    (repeat (first | (with_reducible exact Below.refl _ _) | (with_reducible assumption) | (with_reducible apply below_drewN) | (with_reducible apply Below.drew) | ((with_reducible refine Below.setCell ?_ ?_ _); rotate_left; focus (first | (simp; done) | (simp; omega) | omega)) | ((with_reducible refine Below.alloc ?_ ?_ _); rotate_left; focus (first | (simp; done) | (simp; omega) | omega))))
  · rw [tintP_ok _ _ _ _ hB]
    rw [hB] at HS0
    obtain ⟨q1, q2, q3⟩ := term_parts op p ⟨k, n, t⟩ hB
    have HT0 := fun W : World => l04Term_any op p ⟨k, n, t⟩ desc W q1 q2 q3
    obtain ⟨⟨il, ih, io⟩, hi⟩ : ∃ i, i = tintI op ⟨k, n, t⟩ desc := ⟨_, rfl⟩
    rw [← hi] at HT0 ⊢
    simp only at HT0
    have HS : Hid (∀ W : World, Calls _ _ _ W _) := HS0
    have HT : Hid (∀ W : World, Calls _ _ _ W _) := HT0
    clear HS0 HT0 hB hi q1 q2 q3
    go_enter Tryz.func18, Tryz.ntmps18
    go_wp2_with fail
    refine (HS.out _).mono ?_
    rintro e w1 ⟨rfl, hb⟩
    have X1 := X0.step hb
    have c0 := X1.box.c0
    have c1 := X1.box.c1
    have c2 := X1.box.c2
    have c3 := X1.box.c3
    have c4 := X1.box.c4
    clear hb X0
    go_wp2_with fail
    refine (HT.out _).mono ?_
    rintro e w2 ⟨rfl, hb⟩
    have X := X1.step hb
    have r0 := X.res.c0
    have r1 := X.res.c1
    have r2 := X.res.c2
    have t0 := X.res.f0
    have t1 := X.res.f1
    have t2 := X.res.f2
    have rl := X.res.lt
    have hbw := X.box.bel
    clear hb X1 X c0 c1 c2 c3 c4
    go_wp2_with fail
    refine bodyPost_ret (v := .tuple #[.agg #[.string il, .string ih, .bool io], .int .i64 0]) (by simp [results, Tryz.results18, go_sem, *]) rfl ⟨rfl, ?_⟩
    (repeat (first | (with_reducible exact Below.refl _ _) | (with_reducible assumption) | (with_reducible apply below_drewN) | (with_reducible apply Below.drew) | ((with_reducible refine Below.setCell ?_ ?_ _); rotate_left; focus (first | (simp; done) | (simp; omega) | omega)) | ((with_reducible refine Below.alloc ?_ ?_ _); rotate_left; focus (first | (simp; done) | (simp; omega) | omega))))

set_option maxRecDepth 4000 in
set_option maxHeartbeats 4000000 in
theorem implTint_any (op : Int) (p : ByteArray) (k n : Int) (t : ByteArray) (desc : Bool) (w : World) (hp : p.size ≤ 1048576) (ht : t.size ≤ 1048576) :
    Calls Tryz.prog 17 #[.agg #[.int .i64 op, .string p, .int .i64 k, .int .i64 n, .string t], .bool desc] w fun e w' => e = .returned (.tuple #[.agg #[.string (tintP op p ⟨k, n, t⟩ desc).1.lo, .string (tintP op p ⟨k, n, t⟩ desc).1.hi, .bool (tintP op p ⟨k, n, t⟩ desc).1.op], .int .i64 (tintP op p ⟨k, n, t⟩ desc).2]) ∧ Below w.heap.size w w' := by
  have X0 := Fr.start w (.int .i64 op) (.string p) (.int .i64 k) (.int .i64 n) (.string t) 34 24
  have HS0 := fun W : World => termOK_any op p k n t W hp ht
  cases hB : termB op p ⟨k, n, t⟩
  · rw [tintP_bad _ _ _ _ hB]
    rw [hB] at HS0
    have HS : Hid (∀ W : World, Calls _ _ _ W _) := HS0
    clear HS0 hB
    go_enter Tryz.func17, Tryz.ntmps17
    go_wp2_with fail
    refine (HS.out _).mono ?_
    rintro e w1 ⟨rfl, hb⟩
    have X := X0.step hb
    have r0 := X.res.c0
    have r1 := X.res.c1
    have r2 := X.res.c2
    have t0 := X.res.f0
    have t1 := X.res.f1
    have t2 := X.res.f2
    have rl := X.res.lt
    have hbw := X.box.bel
    clear hb X0 X
    go_wp2_with fail
    refine bodyPost_ret (v := .tuple #[.agg #[.string em, .string em, .bool false], .int .i64 1]) (by simp [results, Tryz.results17, go_sem, *]) rfl ⟨rfl, ?_⟩
    (repeat (first | (with_reducible exact Below.refl _ _) | (with_reducible assumption) | (with_reducible apply below_drewN) | (with_reducible apply Below.drew) | ((with_reducible refine Below.setCell ?_ ?_ _); rotate_left; focus (first | (simp; done) | (simp; omega) | omega)) | ((with_reducible refine Below.alloc ?_ ?_ _); rotate_left; focus (first | (simp; done) | (simp; omega) | omega))))
  · rw [tintP_ok _ _ _ _ hB]
    rw [hB] at HS0
    obtain ⟨q1, q2, q3⟩ := term_parts op p ⟨k, n, t⟩ hB
    have hcase : op = 1 ∨ op = 2 ∨ op = 3 ∨ op = 4 ∨ op = 5 ∨ op = 6 ∨ op = 7 ∨ op = 8 ∨ op = 9 ∨ op = 10 := by omega
    have HS : Hid (∀ W : World, Calls _ _ _ W _) := HS0
    have Q1 : Hid (okB _ = true) := q1
    have Q3 : Hid _ := q3
    obtain ⟨R, hR⟩ : ∃ R, R = tintI op ⟨k, n, t⟩ desc := ⟨_, rfl⟩
    rw [← hR]
    have HR : Hid (_ = _) := hR
    clear HS0 hB q1 q2 q3 hR
    go_enter Tryz.func17, Tryz.ntmps17
    go_wp2_with fail
    refine (HS.out _).mono ?_
    rintro e w1 ⟨rfl, hb⟩
    have X1 := X0.step hb
    have c0 := X1.box.c0
    have c1 := X1.box.c1
    have c2 := X1.box.c2
    have c3 := X1.box.c3
    have c4 := X1.box.c4
    have r0 := X1.res.c0
    have r1 := X1.res.c1
    have r2 := X1.res.c2
    have t0 := X1.res.f0
    have t1 := X1.res.f1
    have t2 := X1.res.f2
    have rl := X1.res.lt
    have hbw := X1.box.bel
    clear hb X0 HS
    rcases hcase with rfl | rfl | rfl | rfl | rfl | rfl | rfl | rfl | rfl | rfl
    · have hkz := key_size ⟨k, n, t⟩ Q1.out
      rw [mkB_size] at hkz
      have hdz : (dirK desc (keyV 5 ⟨k, n, t⟩)).length = (keyV 5 ⟨k, n, t⟩).length := by cases desc; rfl; exact turnL_len _
      have hB0 := fun W : World => beginning_any (mkB (dirK desc (keyV 5 ⟨k, n, t⟩))) W (by rw [mkB_size, hdz]; omega)
      rw [mkB_data, mkB_size] at hB0
      have hO0 := fun W : World => keyOf_any ⟨k, n, t⟩ desc W Q1.out
      obtain ⟨il, h1⟩ : ∃ il, il = mkB (dirK desc (keyV 5 ⟨k, n, t⟩)) := ⟨_, rfl⟩
      obtain ⟨⟨ih, io⟩, h2⟩ : ∃ b, b = behN (dirK desc (keyV 5 ⟨k, n, t⟩)) (dirK desc (keyV 5 ⟨k, n, t⟩)).length := ⟨_, rfl⟩
      rw [← h1, ← h2] at hB0
      rw [← h1] at hO0
      obtain rfl : R = ⟨il, mkB ih, !io⟩ := by rw [HR.out, h1, show ih = (ih, io).1 from rfl, h2, show io = (ih, io).2 from rfl, h2]; rfl
      have HO : Hid (∀ W : World, Calls _ _ _ W _) := hO0
      have HB : Hid (∀ W : World, Calls _ _ _ W _) := hB0
      clear hO0 hB0 h1 h2 hkz hdz HR
      go_wp2_with fail
      refine (HO.out _).mono ?_
      rintro e w2 ⟨rfl, hb⟩
      have X2 := X1.step hb
      clear hb X1 c0 c1 c2 c3 c4 r0 r1 r2 t0 t1 t2 rl hbw
      go_wp2_with fail
      refine (HB.out _).mono ?_
      rintro e w3 ⟨rfl, hb⟩
      have X := X2.step hb
      have r0 := X.res.c0
      have r1 := X.res.c1
      have r2 := X.res.c2
      have t0 := X.res.f0
      have t1 := X.res.f1
      have t2 := X.res.f2
      have rl := X.res.lt
      have hbw := X.box.bel
      clear hb X2 X
      go_wp2_with fail
      refine bodyPost_ret (v := .tuple #[.agg #[.string il, .string (mkB ih), .bool (!io)], .int .i64 0]) (by simp [results, Tryz.results17, go_sem, *]) rfl ⟨rfl, ?_⟩
      (repeat (first | (with_reducible exact Below.refl _ _) | (with_reducible assumption) | (with_reducible apply below_drewN) | (with_reducible apply Below.drew) | ((with_reducible refine Below.setCell ?_ ?_ _); rotate_left; focus (first | (simp; done) | (simp; omega) | omega)) | ((with_reducible refine Below.alloc ?_ ?_ _); rotate_left; focus (first | (simp; done) | (simp; omega) | omega))))
    · obtain rfl : R = ⟨em, em, true⟩ := by rw [HR.out]; rfl
      go_wp2_with fail
      refine bodyPost_ret (v := .tuple #[.agg #[.string em, .string em, .bool true], .int .i64 0]) (by simp [results, Tryz.results17, go_sem, *]) rfl ⟨rfl, ?_⟩
      (repeat (first | (with_reducible exact Below.refl _ _) | (with_reducible assumption) | (with_reducible apply below_drewN) | (with_reducible apply Below.drew) | ((with_reducible refine Below.setCell ?_ ?_ _); rotate_left; focus (first | (simp; done) | (simp; omega) | omega)) | ((with_reducible refine Below.alloc ?_ ?_ _); rotate_left; focus (first | (simp; done) | (simp; omega) | omega))))
    · have hK0 := fun W : World => orderInterval_any 3 p ⟨k, n, t⟩ desc W Q1.out (by omega)
      obtain ⟨⟨il, ih, io⟩, h1⟩ : ∃ i, i = ordT 3 ⟨k, n, t⟩ desc := ⟨_, rfl⟩
      rw [← h1] at hK0
      obtain rfl : R = ⟨il, ih, io⟩ := by rw [HR.out, h1]; rfl
      simp only at hK0
      have HK : Hid (∀ W : World, Calls _ _ _ W _) := hK0
      clear hK0 h1 HR
      go_wp2_with fail
      refine (HK.out _).mono ?_
      rintro e w2 ⟨rfl, hb⟩
      have X := X1.step hb
      clear hb X1 c0 c1 c2 c3 c4 r0 r1 r2 t0 t1 t2 rl hbw
      have r0 := X.res.c0
      have r1 := X.res.c1
      have r2 := X.res.c2
      have t0 := X.res.f0
      have t1 := X.res.f1
      have t2 := X.res.f2
      have rl := X.res.lt
      have hbw := X.box.bel
      clear X
      go_wp2_with fail
      refine bodyPost_ret (v := .tuple #[.agg #[.string il, .string ih, .bool io], .int .i64 0]) (by simp [results, Tryz.results17, go_sem, *]) rfl ⟨rfl, ?_⟩
      (repeat (first | (with_reducible exact Below.refl _ _) | (with_reducible assumption) | (with_reducible apply below_drewN) | (with_reducible apply Below.drew) | ((with_reducible refine Below.setCell ?_ ?_ _); rotate_left; focus (first | (simp; done) | (simp; omega) | omega)) | ((with_reducible refine Below.alloc ?_ ?_ _); rotate_left; focus (first | (simp; done) | (simp; omega) | omega))))
    · have hK0 := fun W : World => orderInterval_any 4 p ⟨k, n, t⟩ desc W Q1.out (by omega)
      obtain ⟨⟨il, ih, io⟩, h1⟩ : ∃ i, i = ordT 4 ⟨k, n, t⟩ desc := ⟨_, rfl⟩
      rw [← h1] at hK0
      obtain rfl : R = ⟨il, ih, io⟩ := by rw [HR.out, h1]; rfl
      simp only at hK0
      have HK : Hid (∀ W : World, Calls _ _ _ W _) := hK0
      clear hK0 h1 HR
      go_wp2_with fail
      refine (HK.out _).mono ?_
      rintro e w2 ⟨rfl, hb⟩
      have X := X1.step hb
      clear hb X1 c0 c1 c2 c3 c4 r0 r1 r2 t0 t1 t2 rl hbw
      have r0 := X.res.c0
      have r1 := X.res.c1
      have r2 := X.res.c2
      have t0 := X.res.f0
      have t1 := X.res.f1
      have t2 := X.res.f2
      have rl := X.res.lt
      have hbw := X.box.bel
      clear X
      go_wp2_with fail
      refine bodyPost_ret (v := .tuple #[.agg #[.string il, .string ih, .bool io], .int .i64 0]) (by simp [results, Tryz.results17, go_sem, *]) rfl ⟨rfl, ?_⟩
      (repeat (first | (with_reducible exact Below.refl _ _) | (with_reducible assumption) | (with_reducible apply below_drewN) | (with_reducible apply Below.drew) | ((with_reducible refine Below.setCell ?_ ?_ _); rotate_left; focus (first | (simp; done) | (simp; omega) | omega)) | ((with_reducible refine Below.alloc ?_ ?_ _); rotate_left; focus (first | (simp; done) | (simp; omega) | omega))))
    · have hK0 := fun W : World => orderInterval_any 5 p ⟨k, n, t⟩ desc W Q1.out (by omega)
      obtain ⟨⟨il, ih, io⟩, h1⟩ : ∃ i, i = ordT 5 ⟨k, n, t⟩ desc := ⟨_, rfl⟩
      rw [← h1] at hK0
      obtain rfl : R = ⟨il, ih, io⟩ := by rw [HR.out, h1]; rfl
      simp only at hK0
      have HK : Hid (∀ W : World, Calls _ _ _ W _) := hK0
      clear hK0 h1 HR
      go_wp2_with fail
      refine (HK.out _).mono ?_
      rintro e w2 ⟨rfl, hb⟩
      have X := X1.step hb
      clear hb X1 c0 c1 c2 c3 c4 r0 r1 r2 t0 t1 t2 rl hbw
      have r0 := X.res.c0
      have r1 := X.res.c1
      have r2 := X.res.c2
      have t0 := X.res.f0
      have t1 := X.res.f1
      have t2 := X.res.f2
      have rl := X.res.lt
      have hbw := X.box.bel
      clear X
      go_wp2_with fail
      refine bodyPost_ret (v := .tuple #[.agg #[.string il, .string ih, .bool io], .int .i64 0]) (by simp [results, Tryz.results17, go_sem, *]) rfl ⟨rfl, ?_⟩
      (repeat (first | (with_reducible exact Below.refl _ _) | (with_reducible assumption) | (with_reducible apply below_drewN) | (with_reducible apply Below.drew) | ((with_reducible refine Below.setCell ?_ ?_ _); rotate_left; focus (first | (simp; done) | (simp; omega) | omega)) | ((with_reducible refine Below.alloc ?_ ?_ _); rotate_left; focus (first | (simp; done) | (simp; omega) | omega))))
    · have hK0 := fun W : World => orderInterval_any 6 p ⟨k, n, t⟩ desc W Q1.out (by omega)
      obtain ⟨⟨il, ih, io⟩, h1⟩ : ∃ i, i = ordT 6 ⟨k, n, t⟩ desc := ⟨_, rfl⟩
      rw [← h1] at hK0
      obtain rfl : R = ⟨il, ih, io⟩ := by rw [HR.out, h1]; rfl
      simp only at hK0
      have HK : Hid (∀ W : World, Calls _ _ _ W _) := hK0
      clear hK0 h1 HR
      go_wp2_with fail
      refine (HK.out _).mono ?_
      rintro e w2 ⟨rfl, hb⟩
      have X := X1.step hb
      clear hb X1 c0 c1 c2 c3 c4 r0 r1 r2 t0 t1 t2 rl hbw
      have r0 := X.res.c0
      have r1 := X.res.c1
      have r2 := X.res.c2
      have t0 := X.res.f0
      have t1 := X.res.f1
      have t2 := X.res.f2
      have rl := X.res.lt
      have hbw := X.box.bel
      clear X
      go_wp2_with fail
      refine bodyPost_ret (v := .tuple #[.agg #[.string il, .string ih, .bool io], .int .i64 0]) (by simp [results, Tryz.results17, go_sem, *]) rfl ⟨rfl, ?_⟩
      (repeat (first | (with_reducible exact Below.refl _ _) | (with_reducible assumption) | (with_reducible apply below_drewN) | (with_reducible apply Below.drew) | ((with_reducible refine Below.setCell ?_ ?_ _); rotate_left; focus (first | (simp; done) | (simp; omega) | omega)) | ((with_reducible refine Below.alloc ?_ ?_ _); rotate_left; focus (first | (simp; done) | (simp; omega) | omega))))
    · obtain rfl : R = ⟨em, em, true⟩ := by rw [HR.out]; rfl
      go_wp2_with fail
      refine bodyPost_ret (v := .tuple #[.agg #[.string em, .string em, .bool true], .int .i64 0]) (by simp [results, Tryz.results17, go_sem, *]) rfl ⟨rfl, ?_⟩
      (repeat (first | (with_reducible exact Below.refl _ _) | (with_reducible assumption) | (with_reducible apply below_drewN) | (with_reducible apply Below.drew) | ((with_reducible refine Below.setCell ?_ ?_ _); rotate_left; focus (first | (simp; done) | (simp; omega) | omega)) | ((with_reducible refine Below.alloc ?_ ?_ _); rotate_left; focus (first | (simp; done) | (simp; omega) | omega))))
    · obtain rfl : R = ⟨em, em, true⟩ := by rw [HR.out]; rfl
      go_wp2_with fail
      refine bodyPost_ret (v := .tuple #[.agg #[.string em, .string em, .bool true], .int .i64 0]) (by simp [results, Tryz.results17, go_sem, *]) rfl ⟨rfl, ?_⟩
      (repeat (first | (with_reducible exact Below.refl _ _) | (with_reducible assumption) | (with_reducible apply below_drewN) | (with_reducible apply Below.drew) | ((with_reducible refine Below.setCell ?_ ?_ _); rotate_left; focus (first | (simp; done) | (simp; omega) | omega)) | ((with_reducible refine Below.alloc ?_ ?_ _); rotate_left; focus (first | (simp; done) | (simp; omega) | omega))))
    · obtain ⟨n0, n9⟩ := Q3.out rfl
      have hK0 := fun W : World => ofKind_any n desc W n0 n9
      obtain ⟨⟨il, ih, io⟩, h1⟩ : ∃ i, i = kindI n desc := ⟨_, rfl⟩
      rw [← h1] at hK0
      obtain rfl : R = ⟨il, ih, io⟩ := by rw [HR.out, h1]; rfl
      simp only at hK0
      have HK : Hid (∀ W : World, Calls _ _ _ W _) := hK0
      clear hK0 h1 HR
      go_wp2_with fail
      refine (HK.out _).mono ?_
      rintro e w2 ⟨rfl, hb⟩
      have X := X1.step hb
      clear hb X1 c0 c1 c2 c3 c4 r0 r1 r2 t0 t1 t2 rl hbw
      have r0 := X.res.c0
      have r1 := X.res.c1
      have r2 := X.res.c2
      have t0 := X.res.f0
      have t1 := X.res.f1
      have t2 := X.res.f2
      have rl := X.res.lt
      have hbw := X.box.bel
      clear X
      go_wp2_with fail
      refine bodyPost_ret (v := .tuple #[.agg #[.string il, .string ih, .bool io], .int .i64 0]) (by simp [results, Tryz.results17, go_sem, *]) rfl ⟨rfl, ?_⟩
      (repeat (first | (with_reducible exact Below.refl _ _) | (with_reducible assumption) | (with_reducible apply below_drewN) | (with_reducible apply Below.drew) | ((with_reducible refine Below.setCell ?_ ?_ _); rotate_left; focus (first | (simp; done) | (simp; omega) | omega)) | ((with_reducible refine Below.alloc ?_ ?_ _); rotate_left; focus (first | (simp; done) | (simp; omega) | omega))))
    · obtain rfl : R = ⟨em, em, true⟩ := by rw [HR.out]; rfl
      go_wp2_with fail
      refine bodyPost_ret (v := .tuple #[.agg #[.string em, .string em, .bool true], .int .i64 0]) (by simp [results, Tryz.results17, go_sem, *]) rfl ⟨rfl, ?_⟩
      (repeat (first | (with_reducible exact Below.refl _ _) | (with_reducible assumption) | (with_reducible apply below_drewN) | (with_reducible apply Below.drew) | ((with_reducible refine Below.setCell ?_ ?_ _); rotate_left; focus (first | (simp; done) | (simp; omega) | omega)) | ((with_reducible refine Below.alloc ?_ ?_ _); rotate_left; focus (first | (simp; done) | (simp; omega) | omega))))

end Go.Proofs.YtnmpfooegnmknaaGreatDoor
