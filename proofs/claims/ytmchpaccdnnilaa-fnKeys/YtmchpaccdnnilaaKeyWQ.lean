/- The law on keys: what it leans on, and that it returns true for every two codes. -/
import Derived.Test.YtmchpaccdnnilaaTrMQ
import Derived.Test.YtmchpaccdnnilaaKeySQ
import Derived.Test.YtmchpaccdnnilaaSplitWQ
import Derived.Test.YtmchpaccdnnilaaOrdIQ
import Derived.Test.YtmchpaccdnnilaaDrawEQ
import Derived.Test.YtmchpaccdnnilaaSplIQ
namespace Go.Proofs.Ytmchpaccdnnilaa
open Go.RowKit
set_option linter.unusedVariables false

theorem mk_list (l : List UInt8) : (mkB l).toList = l := by rw [ByteArray.toList_eq, mkB_data]
theorem mk_ne {x y : List UInt8} (h : x ≠ y) : ((mkB x).toList == (mkB y).toList) = false := by
  rw [mk_list, mk_list, beq_eq_false_iff_ne]; exact h
theorem join_two (x y : List UInt8) (hx : x.length ≤ 1000) (hy : y.length ≤ 1000) : joinP [mkB x, mkB y] = (mkB (x ++ y), 0) := by
  have l1 : longB (mkB x) = false := by unfold longB; rw [mkB_size]; exact decide_eq_false (by omega)
  have l2 : longB (mkB y) = false := by unfold longB; rw [mkB_size]; exact decide_eq_false (by omega)
  unfold joinP
  rw [if_neg (by simp), if_neg (by simp), if_neg (by simp [l1, l2])]
  unfold catL
  simp [mkB_data]
theorem split_code2 (a b : Val) (ha : okB a = true) (hb : okB b = true) : Tr.splC (mkB (keyV 5 a ++ keyV 5 b)) 2 = 0 ∧ Tr.splL (mkB (keyV 5 a ++ keyV 5 b)) 2 = [mkB (keyV 5 a), mkB (keyV 5 b)] ∧ Tr.splC (mkB (keyV 5 a ++ keyV 5 b)) 3 = 3 := by
  have h1 := key_short a ha
  have h2 := key_short b hb
  obtain ⟨s2, s3⟩ := split_two a b ha hb
  have hsz : ¬ 65536 < (mkB (keyV 5 a ++ keyV 5 b)).size := by rw [mkB_size, List.length_append]; omega
  refine ⟨?_, ?_, ?_⟩
  · unfold Tr.splC; rw [if_neg hsz, if_pos (by omega), show (2 : Int).toNat = 2 from rfl, s2]; rfl
  · unfold Tr.splL; rw [if_neg hsz, if_pos (by omega), show (2 : Int).toNat = 2 from rfl, s2]; rfl
  · unfold Tr.splC; rw [if_neg hsz, if_pos (by omega), show (3 : Int).toNat = 3 from rfl, s3]; rfl
/-- How the two keys stand to each other, in the words of the law. -/
structure KF (n : Int) (x y p q : ByteArray) : Prop where
  lt : Op.bytesLess x.toList y.toList = decide (n < 0)
  eq : (x.toList == y.toList) = decide (n = 0)
  gl : Op.bytesLess p.toList q.toList = decide (0 < n)
  ge : (p.toList == q.toList) = decide (n = 0)
  pre : n ≠ 0 → x.size ≤ y.size → ((y.extract 0 x.size).toList == x.toList) = false
theorem kf_of (a b : Val) (ha : okB a = true) (hb : okB b = true) : KF (ordV 5 a b) (mkB (keyV 5 a)) (mkB (keyV 5 b)) (mkB (turnL (keyV 5 a))) (mkB (turnL (keyV 5 b))) := by
  by_cases h : ordV 5 a b = 0
  · have e := ordV_zero 5 a b ha hb h
    subst e
    rw [h]
    refine ⟨?_, ?_, ?_, ?_, ?_⟩
    · rw [less_irrefl]; rfl
    · simp
    · rw [less_irrefl]; rfl
    · simp
    · intro h; exact absurd rfl h
  · have d := keyV_order 5 a b ha hb h
    have t := d.turn
    have ho := d.one
    refine ⟨?_, ?_, ?_, ?_, ?_⟩
    · rw [mk_list, mk_list]; exact d.less
    · rw [mk_ne d.ne, decide_eq_false h]
    · rw [mk_list, mk_list, t.less]; exact decide_eq_decide.2 ⟨fun h => by omega, fun h => by omega⟩
    · rw [mk_ne t.ne, decide_eq_false h]
    · intro _ hs
      rw [beq_eq_false_iff_ne]
      intro e
      rw [mkB_size, mkB_size] at hs
      rw [mk_list, ByteArray.toList_eq, extract_list, mkB_data, mkB_size] at e
      simp only [List.drop_zero, Nat.sub_zero] at e
      exact d.apart ((keyV 5 b).drop (keyV 5 a).length) (by rw [← e, List.length_take, Nat.min_eq_left hs]; exact (List.take_append_drop _ _).symm)

theorem two_cells {w : World} {base : Nat} {v : Value} {x y : ByteArray} (h : Tr.OwnS w base v [x, y]) : ∃ g c, v = .slice (some ⟨g, 0, none⟩) 2 c ∧ g < w.heap.size ∧ w.cell? ⟨g, 0, none⟩ = some (.string x) ∧ w.cell? ⟨g, 1, none⟩ = some (.string y) := by
  rcases h.form with ⟨_, h2⟩ | ⟨g, c, rfl, _, hl⟩
  · cases h2
  · exact ⟨g, c, rfl, hl, Tr.owns_cell h 0 _ rfl, Tr.owns_cell h 1 _ rfl⟩
theorem read_two (w : World) (x y : ByteArray) (T : TypeId) : ReadS (w.alloc (.cells #[.string x, .string y] T)) w.heap.size 0 [x, y] := by
  refine ⟨by simp, fun i hi => ?_⟩
  have : i = 0 ∨ i = 1 := by simp at hi; omega
  rcases this with rfl | rfl <;> simp [go_sem]
set_option maxRecDepth 8000 in
set_option maxHeartbeats 4000000 in
theorem lawKeys (x x' : Option Addr) (cap cap' : Nat) (zs zs' : List Int) (w : World) (hin : InB w x zs) (hin' : InB w x' zs') (hby : ∀ i, i < zs.length → 0 ≤ zs.getD i 0 ∧ zs.getD i 0 < 256) (hby' : ∀ i, i < zs'.length → 0 ≤ zs'.getD i 0 ∧ zs'.getD i 0 < 256)
    (hm : zs.length ≤ maxLen) (hm' : zs'.length ≤ maxLen) (hcut : ∃ m, w.cell? ⟨Try.laysCut_ren.g 1, 0, none⟩ = some (.int .i64 m)) :
    Calls Try.prog 3 #[.slice x zs.length cap, .slice x' zs'.length cap'] w fun e w' => e = .returned (.bool true) ∧ Below w.heap.size w w' := by
  have HIN : Hid _ := hin
  have HIN' : Hid _ := hin'
  have HBY : Hid _ := hby
  have HBY' : Hid _ := hby'
  unfold maxLen at hm hm'
  obtain ⟨m, hcut⟩ := hcut
  have hcl : Try.laysCut_ren.g 1 < w.heap.size := by
    rcases Nat.lt_or_ge (Try.laysCut_ren.g 1) w.heap.size with h | h
    · exact h
    · simp [World.cell?, Array.getElem?_eq_none h] at hcut
  have HCUT : Hid (∀ W : World, Below w.heap.size w W → Try.laysCut_ren.g 1 < W.heap.size ∧ W.cell? ⟨Try.laysCut_ren.g 1, 0, none⟩ = some (.int .i64 m)) := fun W hW => ⟨Nat.lt_of_lt_of_le hcl hW.size, (hW.cell hcl).trans hcut⟩
  clear hin hin' hby hby' hcut hcl
  by_cases h1 : (1048576 : Int) < zs.length
  · go_enter Try.func3, Try.ntmps3
    go_wp2_with fail
    go_ret
    exact ⟨rfl, Below.refl _ _⟩
  by_cases h2 : (1048576 : Int) < zs'.length
  · go_enter Try.func3, Try.ntmps3
    go_wp2_with fail
    go_ret
    exact ⟨rfl, Below.refl _ _⟩
  have C1 : InC w x zs := ⟨HIN.out, HBY.out, by omega⟩
  have C2 : InC w x' zs' := ⟨HIN'.out, HBY'.out, by omega⟩
  have HV1 : Hid (Calls _ _ _ _ _) := drawnValue_any x cap zs w C1
  have HC2 : Hid (InC _ _ _) := C2
  clear C1 C2 HIN HIN' HBY HBY'
  go_enter Try.func3, Try.ntmps3
  go_wp2_with fail
  refine HV1.out.mono ?_
  rintro e w1 ⟨⟨a, rfl, ha⟩, b1⟩
  have A1 := VBx.new w1 a 24
  have B1 : Below w.heap.size w (w1.alloc (.cells #[.int .i64 a.k, .int .i64 a.n, .string a.t] 24)) := b1.alloc b1.size _
  have HV2 : Hid (Calls _ _ _ _ _) := drawnValue_any x' cap' zs' (w1.alloc (.cells #[.int .i64 a.k, .int .i64 a.n, .string a.t] 24)) (HC2.out.step B1)
  clear HV1 HC2 b1
  go_wp2_with fail
  generalize w1.alloc (.cells #[.int .i64 a.k, .int .i64 a.n, .string a.t] 24) = W1 at A1 B1 HV2 ⊢
  obtain ⟨ba, hba⟩ : ∃ ba, ba = w1.heap.size := ⟨_, rfl⟩
  rw [← hba] at A1 ⊢
  clear hba
  refine HV2.out.mono ?_
  rintro e w2 ⟨⟨b, rfl, hb⟩, b2⟩
  have hbA : Below W1.heap.size W1 (w2.alloc (.cells #[.int .i64 b.k, .int .i64 b.n, .string b.t] 24)) := b2.alloc b2.size _
  have A2 := A1.step hbA
  have D2 := VBx.new w2 b 24
  have E2 := A1.step b2
  have e0 := E2.c0; have e1 := E2.c1; have e2 := E2.c2; have el := E2.lt
  have B2 := B1.trans (hbA.mono B1.size)
  clear HV2 b2 A1 B1 hbA
  have hsa : a.t.size ≤ 1048576 := by
    rcases Nat.lt_or_ge 300 a.t.size with h' | h'
    · rw [ok_big a h'] at ha; cases ha
    · omega
  have hsb : b.t.size ≤ 1048576 := by
    rcases Nat.lt_or_ge 300 b.t.size with h' | h'
    · rw [ok_big b h'] at hb; cases hb
    · omega
  have HO : Hid (∀ W : World, Calls _ _ _ W _) := fun W => implOrder_ok a.k a.n b.k b.n a.t b.t W hsa hsb ha hb
  have HX : Hid (∀ W : World, Calls _ _ _ W _) := fun W => implKeyOf_any a.k a.n a.t false W hsa
  have HY : Hid (∀ W : World, Calls _ _ _ W _) := fun W => implKeyOf_any b.k b.n b.t false W hsb
  have HP : Hid (∀ W : World, Calls _ _ _ W _) := fun W => implKeyOf_any a.k a.n a.t true W hsa
  have HQ : Hid (∀ W : World, Calls _ _ _ W _) := fun W => implKeyOf_any b.k b.n b.t true W hsb
  have HS : Hid (∀ W : World, Calls _ _ _ W _) := fun W => specKeyOf_any a.k a.n a.t false W hsa
  have ea : (⟨a.k, a.n, a.t⟩ : Val) = a := rfl
  have eb : (⟨b.k, b.n, b.t⟩ : Val) = b := rfl
  rw [ea, keyP_ok a false ha] at HX HS
  rw [eb, keyP_ok b false hb] at HY
  rw [ea, keyP_ok a true ha] at HP
  rw [eb, keyP_ok b true hb] at HQ
  rw [ea, eb] at HO
  have kf := kf_of a b ha hb
  have sx := key_short a ha
  have sy := key_short b hb
  have hj := join_two (keyV 5 a) (keyV 5 b) sx sy
  obtain ⟨hp2, hp2l, hp3⟩ := split_code2 a b ha hb
  have hcat := mkB_app (keyV 5 a) (keyV 5 b)
  have hjs : (mkB (keyV 5 a ++ keyV 5 b)).size ≤ 2000 := by rw [mkB_size, List.length_append]; omega
  have hxs : (mkB (keyV 5 a)).size ≤ 1000 := by rw [mkB_size]; exact sx
  have hys : (mkB (keyV 5 b)).size ≤ 1000 := by rw [mkB_size]; exact sy
  have hrn := ordV_range 5 a b
  unfold dirK at HX HY HP HQ HS
  rw [if_pos rfl] at HP HQ
  rw [if_neg (by simp)] at HX HY HS
  obtain ⟨n, hn⟩ : ∃ n, n = ordV 5 a b := ⟨_, rfl⟩
  obtain ⟨X, hX⟩ : ∃ X, X = mkB (keyV 5 a) := ⟨_, rfl⟩
  obtain ⟨Y, hY⟩ : ∃ Y, Y = mkB (keyV 5 b) := ⟨_, rfl⟩
  obtain ⟨J, hJ⟩ : ∃ J, J = mkB (keyV 5 a ++ keyV 5 b) := ⟨_, rfl⟩
  obtain ⟨P, hP⟩ : ∃ P, P = mkB (turnL (keyV 5 a)) := ⟨_, rfl⟩
  obtain ⟨Q, hQ⟩ : ∃ Q, Q = mkB (turnL (keyV 5 b)) := ⟨_, rfl⟩
  rw [← hn] at HO kf hrn
  rw [← hX] at HX HS kf hj hp2l hcat hxs
  rw [← hY] at HY kf hj hp2l hcat hys
  rw [← hJ] at hj hp2 hp2l hp3 hcat hjs
  rw [← hP] at HP kf
  rw [← hQ] at HQ kf
  have HJ : Hid (joinP [X, Y] = (J, 0)) := hj
  have HP2 : Hid (Tr.splC J 2 = 0) := hp2
  have HL2 : Hid (Tr.splL J 2 = [X, Y]) := hp2l
  have HP3 : Hid (Tr.splC J 3 = 3) := hp3
  clear hn hX hY hJ hP hQ ha hb hsa hsb ea eb sx sy hj hp2 hp2l hp3
  go_wp2_with fail
  clear e0 e1 e2 el E2
  generalize w2.alloc (.cells #[.int .i64 b.k, .int .i64 b.n, .string b.t] 24) = W2 at A2 D2 B2 ⊢
  obtain ⟨bb, hbb⟩ : ∃ bb, bb = w2.heap.size := ⟨_, rfl⟩
  rw [← hbb] at D2 ⊢
  clear hbb
  refine (HO.out _).mono ?_
  rintro e w3 ⟨rfl, hb⟩
  have A3 := A2.step hb
  have D3 := D2.step hb
  have B3 := B2.trans (hb.mono B2.size)
  clear hb A2 D2 B2 HO
  have a0 := A3.c0; have a1 := A3.c1; have a2 := A3.c2
  go_wp2_with fail
  refine (HX.out _).mono ?_
  rintro e w4 ⟨rfl, hb⟩
  have A4 := A3.step hb
  have D4 := D3.step hb
  have B4 := B3.trans (hb.mono B3.size)
  clear hb A3 D3 B3 HX a0 a1 a2
  have a0 := D4.c0; have a1 := D4.c1; have a2 := D4.c2
  go_wp2_with fail
  refine (HY.out _).mono ?_
  rintro e w5 ⟨rfl, hb⟩
  have A5 := A4.step hb
  have D5 := D4.step hb
  have B5 := B4.trans (hb.mono B4.size)
  clear hb A4 D4 B4 HY a0 a1 a2
  have a0 := A5.c0; have a1 := A5.c1; have a2 := A5.c2
  go_wp2_with fail
  refine (HP.out _).mono ?_
  rintro e w6 ⟨rfl, hb⟩
  have A6 := A5.step hb
  have D6 := D5.step hb
  have B6 := B5.trans (hb.mono B5.size)
  clear hb A5 D5 B5 HP a0 a1 a2
  have a0 := D6.c0; have a1 := D6.c1; have a2 := D6.c2
  go_wp2_with fail
  refine (HQ.out _).mono ?_
  rintro e w7 ⟨rfl, hb⟩
  have A7 := A6.step hb
  have B7 := B6.trans (hb.mono B6.size)
  clear hb A6 D6 B6 HQ a0 a1 a2
  have a0 := A7.c0; have a1 := A7.c1; have a2 := A7.c2
  go_wp2_with fail
  refine (HS.out _).mono ?_
  rintro e w8 ⟨rfl, hb⟩
  have B8 := B7.trans (hb.mono B7.size)
  clear hb A7 B7 HS a0 a1 a2
  have R9 := read_two w8 X Y 9
  have hb9 : Below w8.heap.size w8 (w8.alloc (.cells #[.string X, .string Y] 9)) := (Below.refl _ _).alloc (Nat.le_refl _) _
  have HJN : Hid (Calls _ _ _ _ _) := implJoin_any w8.heap.size 2 [X, Y] (w8.alloc (.cells #[.string X, .string Y] 9)) R9 (by simp) (fun v hv => by simp at hv; rcases hv with rfl | rfl <;> omega)
  rw [HJ.out] at HJN
  have B9 := B8.trans (hb9.mono B8.size)
  have k1 := kf.lt
  have k2 := kf.eq
  have k3 := kf.gl
  have k4 := kf.ge
  have HPRE : Hid (n ≠ 0 → X.size ≤ Y.size → ((Y.extract 0 X.size).toList == X.toList) = false) := kf.pre
  have hn3 : n = -1 ∨ n = 0 ∨ n = 1 := by omega
  clear kf R9 hb9 hrn HJ
  have tail : ∀ W : World, True := fun _ => trivial
  rcases hn3 with rfl | rfl | rfl
  · simp only [show decide ((-1 : Int) < 0) = true from rfl, show decide ((-1 : Int) = 0) = false from rfl, show decide ((0 : Int) < -1) = false from rfl] at k1 k2 k3 k4
    by_cases hle : X.size ≤ Y.size
    · have hpre := HPRE.out (by decide) hle
      have hle' : (X.size : Int) ≤ (Y.size : Int) := by omega
      clear HPRE tail
      go_wp2_with fail
      refine HJN.out.mono ?_
      rintro e w10 ⟨rfl, hb⟩
      have B10 := B9.trans (hb.mono B9.size)
      obtain ⟨u0, u1⟩ := HCUT.out w10 B10
      have HS2 : Hid (Calls _ _ _ _ _) := Tr.implSplit_any J 2 m w10 (by omega) u0 u1
      clear hb HJN B9 u0 u1
      go_wp2_with fail
      refine HS2.out.mono ?_
      rintro e w11 ⟨⟨v, rfl, ho⟩, hb⟩
      rw [HL2.out] at ho
      rw [HP2.out]
      have B11 := B10.trans (hb.mono B10.size)
      obtain ⟨gs, cs, rfl, y0, y1, y2⟩ := two_cells ho
      obtain ⟨u0, u1⟩ := HCUT.out w11 B11
      have HS3 : Hid (Calls _ _ _ _ _) := Tr.implSplit_any J 3 m w11 (by omega) u0 u1
      clear hb HS2 B10 u0 u1 ho
      go_wp2_with fail
      refine HS3.out.mono ?_
      rintro e w12 ⟨⟨v3, rfl, ho3⟩, hb⟩
      rw [HP3.out]
      have B12 := B11.trans (hb.mono B11.size)
      have z0 := (hb.cell y0).trans y1
      have z1 := (hb.cell y0).trans y2
      clear hb HS3 B11 ho3 y0 y1 y2
      go_wp2_with fail
      go_ret
      exact ⟨rfl, B12⟩
    · have hle' : ¬ (X.size : Int) ≤ (Y.size : Int) := by omega
      clear HPRE tail
      go_wp2_with fail
      refine HJN.out.mono ?_
      rintro e w10 ⟨rfl, hb⟩
      have B10 := B9.trans (hb.mono B9.size)
      obtain ⟨u0, u1⟩ := HCUT.out w10 B10
      have HS2 : Hid (Calls _ _ _ _ _) := Tr.implSplit_any J 2 m w10 (by omega) u0 u1
      clear hb HJN B9 u0 u1
      go_wp2_with fail
      refine HS2.out.mono ?_
      rintro e w11 ⟨⟨v, rfl, ho⟩, hb⟩
      rw [HL2.out] at ho
      rw [HP2.out]
      have B11 := B10.trans (hb.mono B10.size)
      obtain ⟨gs, cs, rfl, y0, y1, y2⟩ := two_cells ho
      obtain ⟨u0, u1⟩ := HCUT.out w11 B11
      have HS3 : Hid (Calls _ _ _ _ _) := Tr.implSplit_any J 3 m w11 (by omega) u0 u1
      clear hb HS2 B10 u0 u1 ho
      go_wp2_with fail
      refine HS3.out.mono ?_
      rintro e w12 ⟨⟨v3, rfl, ho3⟩, hb⟩
      rw [HP3.out]
      have B12 := B11.trans (hb.mono B11.size)
      have z0 := (hb.cell y0).trans y1
      have z1 := (hb.cell y0).trans y2
      clear hb HS3 B11 ho3 y0 y1 y2
      go_wp2_with fail
      go_ret
      exact ⟨rfl, B12⟩
  · simp only [show decide ((0 : Int) < 0) = false from rfl] at k1 k2 k3 k4
    clear HPRE tail
    go_wp2_with fail
    refine HJN.out.mono ?_
    rintro e w10 ⟨rfl, hb⟩
    have B10 := B9.trans (hb.mono B9.size)
    obtain ⟨u0, u1⟩ := HCUT.out w10 B10
    have HS2 : Hid (Calls _ _ _ _ _) := Tr.implSplit_any J 2 m w10 (by omega) u0 u1
    clear hb HJN B9 u0 u1
    go_wp2_with fail
    refine HS2.out.mono ?_
    rintro e w11 ⟨⟨v, rfl, ho⟩, hb⟩
    rw [HL2.out] at ho
    rw [HP2.out]
    have B11 := B10.trans (hb.mono B10.size)
    obtain ⟨gs, cs, rfl, y0, y1, y2⟩ := two_cells ho
    obtain ⟨u0, u1⟩ := HCUT.out w11 B11
    have HS3 : Hid (Calls _ _ _ _ _) := Tr.implSplit_any J 3 m w11 (by omega) u0 u1
    clear hb HS2 B10 u0 u1 ho
    go_wp2_with fail
    refine HS3.out.mono ?_
    rintro e w12 ⟨⟨v3, rfl, ho3⟩, hb⟩
    rw [HP3.out]
    have B12 := B11.trans (hb.mono B11.size)
    have z0 := (hb.cell y0).trans y1
    have z1 := (hb.cell y0).trans y2
    clear hb HS3 B11 ho3 y0 y1 y2
    go_wp2_with fail
    go_ret
    exact ⟨rfl, B12⟩
  · simp only [show decide ((1 : Int) < 0) = false from rfl, show decide ((1 : Int) = 0) = false from rfl, show decide ((0 : Int) < 1) = true from rfl] at k1 k2 k3 k4
    by_cases hle : X.size ≤ Y.size
    · have hpre := HPRE.out (by decide) hle
      have hle' : (X.size : Int) ≤ (Y.size : Int) := by omega
      clear HPRE tail
      go_wp2_with fail
      refine HJN.out.mono ?_
      rintro e w10 ⟨rfl, hb⟩
      have B10 := B9.trans (hb.mono B9.size)
      obtain ⟨u0, u1⟩ := HCUT.out w10 B10
      have HS2 : Hid (Calls _ _ _ _ _) := Tr.implSplit_any J 2 m w10 (by omega) u0 u1
      clear hb HJN B9 u0 u1
      go_wp2_with fail
      refine HS2.out.mono ?_
      rintro e w11 ⟨⟨v, rfl, ho⟩, hb⟩
      rw [HL2.out] at ho
      rw [HP2.out]
      have B11 := B10.trans (hb.mono B10.size)
      obtain ⟨gs, cs, rfl, y0, y1, y2⟩ := two_cells ho
      obtain ⟨u0, u1⟩ := HCUT.out w11 B11
      have HS3 : Hid (Calls _ _ _ _ _) := Tr.implSplit_any J 3 m w11 (by omega) u0 u1
      clear hb HS2 B10 u0 u1 ho
      go_wp2_with fail
      refine HS3.out.mono ?_
      rintro e w12 ⟨⟨v3, rfl, ho3⟩, hb⟩
      rw [HP3.out]
      have B12 := B11.trans (hb.mono B11.size)
      have z0 := (hb.cell y0).trans y1
      have z1 := (hb.cell y0).trans y2
      clear hb HS3 B11 ho3 y0 y1 y2
      go_wp2_with fail
      go_ret
      exact ⟨rfl, B12⟩
    · have hle' : ¬ (X.size : Int) ≤ (Y.size : Int) := by omega
      clear HPRE tail
      go_wp2_with fail
      refine HJN.out.mono ?_
      rintro e w10 ⟨rfl, hb⟩
      have B10 := B9.trans (hb.mono B9.size)
      obtain ⟨u0, u1⟩ := HCUT.out w10 B10
      have HS2 : Hid (Calls _ _ _ _ _) := Tr.implSplit_any J 2 m w10 (by omega) u0 u1
      clear hb HJN B9 u0 u1
      go_wp2_with fail
      refine HS2.out.mono ?_
      rintro e w11 ⟨⟨v, rfl, ho⟩, hb⟩
      rw [HL2.out] at ho
      rw [HP2.out]
      have B11 := B10.trans (hb.mono B10.size)
      obtain ⟨gs, cs, rfl, y0, y1, y2⟩ := two_cells ho
      obtain ⟨u0, u1⟩ := HCUT.out w11 B11
      have HS3 : Hid (Calls _ _ _ _ _) := Tr.implSplit_any J 3 m w11 (by omega) u0 u1
      clear hb HS2 B10 u0 u1 ho
      go_wp2_with fail
      refine HS3.out.mono ?_
      rintro e w12 ⟨⟨v3, rfl, ho3⟩, hb⟩
      rw [HP3.out]
      have B12 := B11.trans (hb.mono B11.size)
      have z0 := (hb.cell y0).trans y1
      have z1 := (hb.cell y0).trans y2
      clear hb HS3 B11 ho3 y0 y1 y2
      go_wp2_with fail
      go_ret
      exact ⟨rfl, B12⟩

end Go.Proofs.Ytmchpaccdnnilaa
