/- The law on values and their bytes returns true for every two codes. -/
import Derived.Test.YtgjknfbkkfidbaaCodecW
namespace Go.Proofs.Ytgjknfbkkfidbaa
open Go.RowKit
set_option linter.unusedVariables false

/-- Some block holds a value. -/
structure V3 (U : World) (b : Nat) (v : Val) : Prop where
  lt : b < U.heap.size
  c0 : U.cell? ⟨b, 0, none⟩ = some (.int .i64 v.k)
  c1 : U.cell? ⟨b, 1, none⟩ = some (.int .i64 v.n)
  c2 : U.cell? ⟨b, 2, none⟩ = some (.string v.t)
theorem V3.step {U U' : World} {b : Nat} {v : Val} (h : V3 U b v) (hb : Below U.heap.size U U') : V3 U' b v :=
  ⟨Nat.lt_of_lt_of_le h.lt hb.size, (hb.cell h.lt).trans h.c0, (hb.cell h.lt).trans h.c1, (hb.cell h.lt).trans h.c2⟩
theorem V3.stepB {U U' : World} {b B : Nat} {v : Val} (h : V3 U b v) (hb : Below B U U') (hlt : b < B) : V3 U' b v :=
  ⟨Nat.lt_of_lt_of_le h.lt hb.size, (hb.cell hlt).trans h.c0, (hb.cell hlt).trans h.c1, (hb.cell hlt).trans h.c2⟩
theorem V3.new (U : World) (v : Val) (T : TypeId) : V3 (U.alloc (.cells #[.int .i64 v.k, .int .i64 v.n, .string v.t] T)) U.heap.size v :=
  ⟨by simp, by simp [go_sem], by simp [go_sem], by simp [go_sem]⟩
theorem txt_nil : txt [] = em := by apply ByteArray.ext; apply Array.ext'; rw [txt_list]; rfl
theorem decR_same (v : Val) (h : okB v = true) : decR (encB v) = (v, 0) := by
  have hl := encB_len v h
  have hc := cutV_enc v h []
  rw [List.append_nil, txt_nil] at hc
  unfold decR
  rw [if_neg (by omega)]
  have hc' : cutV (strOfNums (encB v)) = some (v, em) := hc
  rw [hc']
  simp only
  rw [if_neg (by decide), h]; rfl
theorem decR_head (v : Val) (h : okB v = true) (m : Nat) (hm : m < (encB v).length) : decR ((encB v).take m) = (⟨0, 0, em⟩, 3) := by
  have hl := encB_len v h
  have hc : cutV (strOfNums ((encB v).take m)) = none := cutV_head v h m hm
  unfold decR
  rw [if_neg (by simp; omega), hc]
theorem decR_more (v : Val) (h : okB v = true) : decR (encB v ++ [0]) = (⟨0, 0, em⟩, 3) := by
  have hl := encB_len v h
  have hc : cutV (strOfNums (encB v ++ [0])) = some (v, txt [0]) := cutV_enc v h [0]
  unfold decR
  rw [if_neg (by simp; omega), hc]
  simp only
  rw [if_pos (by rw [txt_size]; decide)]

set_option maxRecDepth 8000 in
set_option maxHeartbeats 4000000 in
theorem lawCodec (x x' : Option Addr) (cap cap' : Nat) (zs zs' : List Int) (w : World) (hin : InB w x zs) (hin' : InB w x' zs') (hby : ∀ i, i < zs.length → 0 ≤ zs.getD i 0 ∧ zs.getD i 0 < 256) (hby' : ∀ i, i < zs'.length → 0 ≤ zs'.getD i 0 ∧ zs'.getD i 0 < 256)
    (hm : zs.length ≤ maxLen) (hm' : zs'.length ≤ maxLen) :
    Calls Try.prog 3 #[.slice x zs.length cap, .slice x' zs'.length cap'] w fun e w' => e = .returned (.bool true) ∧ Below w.heap.size w w' := by
  have HIN : Hid _ := hin
  have HIN' : Hid _ := hin'
  have HBY : Hid _ := hby
  have HBY' : Hid _ := hby'
  unfold maxLen at hm hm'
  clear hin hin' hby hby'
  by_cases h1 : (1048576 : Int) < zs.length
  · go_enter Try.func3, Try.ntmps3
    go_wp2_with fail
    go_ret
    exact ⟨rfl, Below.refl _ _⟩
  by_cases h2 : (1048576 : Int) < zs'.length
  · go_enter Try.func3, Try.ntmps3
    go_wp2_with fail
    go_ret
    exact ⟨rfl, Below.refl _ _⟩
  obtain ⟨i0, hi0, hz0, hz1, hz2⟩ := info_parts infoB
  have C1 : InC w x zs := ⟨HIN.out, HBY.out, by omega⟩
  have C2 : InC w x' zs' := ⟨HIN'.out, HBY'.out, by omega⟩
  have HV1 : Hid (Calls _ _ _ _ _) := valueOf_any x cap zs w C1
  have HC2 : Hid (InC _ _ _) := C2
  clear C1 C2 HIN HIN' HBY HBY'
  go_enter Try.func3, Try.ntmps3
  go_wp2_with fail
  refine HV1.out.mono ?_
  rintro e w1 ⟨⟨v, rfl, hv⟩, b1⟩
  have hsv : v.t.size ≤ 300 := by
    rcases Nat.lt_or_ge 300 v.t.size with h' | h'
    · rw [ok_big v h'] at hv; cases hv
    · exact h'
  have hlen := encB_len v hv
  have HD1 : Hid _ := decR_same v hv
  have HD2 : Hid _ := decR_head v hv
  have HD3 : Hid _ := decR_more v hv
  have HOK : Hid (okB v = true) := hv
  have HE1 : Hid (∀ W : World, Calls _ _ _ W _) := fun W => enc_ok v.k v.n v.t W (by omega) hv
  have HE2 : Hid (∀ W : World, Calls _ _ _ W _) := fun W => specEnc_ok v.k v.n v.t W (by omega) hv
  have HP1 : Hid (∀ W : World, Calls _ _ _ W _) := fun W => depth_ok v.k v.n v.t W (by omega) hv
  have HP2 : Hid (∀ W : World, Calls _ _ _ W _) := fun W => specDepth_ok v.k v.n v.t W (by omega) hv
  have hdb := depthV_bd 5 v
  have ev : (⟨v.k, v.n, v.t⟩ : Val) = v := rfl
  rw [ev] at HE1 HE2 HP1 HP2
  obtain ⟨Z, hZ⟩ : ∃ Z, Z = encB v := ⟨_, rfl⟩
  rw [← hZ] at hlen HD1 HD2 HD3 HE1 HE2
  obtain ⟨dv, hdv⟩ : ∃ dv, dv = depthV 5 v := ⟨_, rfl⟩
  rw [← hdv] at HP1 HP2 hdb
  have hd5 : dv ≤ 5 := by have := hdb.2; omega
  have Y1 := V3.new w1 v 24
  have B2 : Below w.heap.size w (w1.alloc (.cells #[.int .i64 v.k, .int .i64 v.n, .string v.t] 24)) := b1.alloc b1.size _
  clear HV1 hv b1 hZ hdv hdb
  go_wp2_with fail
  generalize w1.alloc (.cells #[.int .i64 v.k, .int .i64 v.n, .string v.t] 24) = W2 at Y1 B2 ⊢
  obtain ⟨bv, hbv⟩ : ∃ bv, bv = w1.heap.size := ⟨_, rfl⟩
  rw [← hbv] at Y1 ⊢
  clear hbv
  refine (HE1.out _).mono ?_
  rintro e w3 ⟨g, cap3, rfl, hO, hb⟩
  have Y3 := Y1.step hb
  have B3 : Below w.heap.size w w3 := B2.trans (hb.mono B2.size)
  have R3 := ReadE.of_own hO
  have hcapZ : Z.length ≤ cap3 := by
    obtain ⟨_, hh⟩ := hO
    rcases hh with ⟨e, _⟩ | ⟨g', c', cur, e, _, _, hle, _⟩
    · cases e
    · injection e with _ _ e3; omega
  have a0 := Y3.c0
  have a1 := Y3.c1
  have a2 := Y3.c2
  have HR3 : Hid (ReadE _ _ _) := R3
  clear hO hb R3 Y1 B2 HE1
  go_wp2_with fail
  refine (HE2.out _).mono ?_
  rintro e w4 ⟨gS, cS, rfl, hRS, hb⟩
  have Y4 := Y3.step hb
  have B4 : Below w.heap.size w w4 := B3.trans (hb.mono B3.size)
  have HR4 : Hid (ReadE _ _ _) := HR3.out.step hb
  have k1 := conv_atR g cap3 Z w4 HR4.out
  have k2 := conv_atR gS cS Z w4 hRS
  clear hb a0 a1 a2 HR3 Y3 B3 hRS HE2
  go_wp2_with fail
  clear k1 k2
  refine (dec_anyR g cap3 Z _ HR4.out (by omega)).mono ?_
  rintro e w5 ⟨rfl, hb⟩
  rw [HD1.out]
  have hbA : Below w4.heap.size w4 (w5.alloc (.cells #[.int .i64 v.k, .int .i64 v.n, .string v.t] 24)) := hb.alloc hb.size _
  have Y6 := Y4.step hbA
  have B6 : Below w.heap.size w (w5.alloc (.cells #[.int .i64 v.k, .int .i64 v.n, .string v.t] 24)) := B4.trans (hbA.mono B4.size)
  have HR6 : Hid (ReadE _ _ _) := HR4.out.step hbA
  have U6 := V3.new w5 v 24
  clear hb hbA Y4 B4 HR4
  go_wp2_with fail
  generalize w5.alloc (.cells #[.int .i64 v.k, .int .i64 v.n, .string v.t] 24) = W6 at Y6 B6 HR6 U6 ⊢
  obtain ⟨bb, hbb⟩ : ∃ bb, bb = w5.heap.size := ⟨_, rfl⟩
  rw [← hbb] at U6 ⊢
  clear hbb
  refine (at_any x' cap' zs' Z.length _ (HC2.out.step B6) (by omega) (by omega)).mono ?_
  rintro e w7 ⟨⟨m, rfl, hmZ⟩, hb⟩
  have Y7 := Y6.step hb
  have U7 := U6.step hb
  have B7 : Below w.heap.size w w7 := B6.trans (hb.mono B6.size)
  have HR7 : Hid (ReadE _ _ _) := HR6.out.step hb
  have HT : Hid (ReadE w7 g (Z.take m)) := ⟨HR7.out.1, fun i hi => by
    have hi2 : i < m := by simp at hi; omega
    have := HR7.out.2 i (by omega)
    rw [this]
    congr 2
    simp [List.getD_eq_getElem?_getD, hi2]⟩
  have hmc : (m : Int) ≤ (cap3 : Int) := by omega
  have hmn : (0 : Int) ≤ (m : Int) := by omega
  have hml : (Z.take m).length = m := by simp; omega
  have HDT : Hid (Calls Try.prog 10 #[.slice (some ⟨g, 0, none⟩) m cap3] w7 fun e w' => e = .returned (.tuple #[.agg #[.int .i64 0, .int .i64 0, .string em], .int .i64 3]) ∧ Below w7.heap.size w7 w') := by
    have hh := dec_anyR g cap3 (Z.take m) w7 HT.out (by omega)
    rw [hml, HD2.out m hmZ] at hh
    exact hh
  clear hb Y6 U6 B6 HR6 HT hml
  go_wp2_with fail
  refine HDT.out.mono ?_
  rintro e w8 ⟨rfl, hb⟩
  have hbA : Below w7.heap.size w7 (w8.alloc (.cells #[.int .i64 0, .int .i64 0, .string em] 24)) := hb.alloc hb.size _
  have Y9 := Y7.step hbA
  have U9 := U7.step hbA
  have B9 : Below w.heap.size w (w8.alloc (.cells #[.int .i64 0, .int .i64 0, .string em] 24)) := B7.trans (hbA.mono B7.size)
  have HR9 : Hid (ReadE _ _ _) := HR7.out.step hbA
  clear hb hbA HDT Y7 U7 B7 HR7
  obtain ⟨W9, hW9⟩ : ∃ W9, W9 = w8.alloc (.cells #[.int .i64 0, .int .i64 0, .string em] 24) := ⟨_, rfl⟩
  rw [← hW9] at Y9 U9 B9 HR9
  have hbE : Below W9.heap.size W9 (W9.alloc (.cells #[] 5)) := (Below.refl _ _).alloc (Nat.le_refl _) _
  have OE := World.ownsRow_made (base := W9.heap.size) (size := 1) (e := 5) W9 #[] 0 (Nat.le_refl _) (by unfold maxLen; omega) rfl
  have RE := HR9.out.step hbE
  have hzE := hbE.size
  have hbG : Below w.heap.size w (W9.alloc (.cells #[] 5)) := B9.trans (hbE.mono B9.size)
  have Y10 := Y9.step hbE
  have U10 := U9.step hbE
  have hW9s : W9.heap.size = w8.heap.size + 1 := by rw [hW9]; simp
  rw [hW9s] at OE hzE hbE
  rw [hW9] at OE RE hzE hbG Y10 U10
  have hbz : w.heap.size ≤ w8.heap.size + 1 := by have := B9.size; omega
  have hYl : bv < w8.heap.size + 1 := by have := Y9.lt; omega
  have hUl : bb < w8.heap.size + 1 := by have := U9.lt; omega
  have HGB : Hid (Below _ _ _) := hbG
  have HY10 : Hid (V3 _ _ _) := Y10
  have HU10 : Hid (V3 _ _ _) := U10
  clear hbE Y9 U9 B9 HR9 hbG Y10 U10 hW9s
  subst hW9
  go_wp2_with (at_builtin; refine wpList_append_own _ rfl (.tmp 75) (.tmp 76) 22 rfl (w8.heap.size + 1) 5 i0 (.int .u8 0) 1 1 Try.underlying22 hi0 hz0 hz1 hz2 rfl (by decide) _ _ _ rfl OE ⟨g, 0, none⟩ Z.length cap3 (rowE Z) rfl ?d0 ?d1 ?d2 ?c3 ?c4 hzE ?_)
  case d0 => simp [rowE]
  case d1 =>
    intro j u hj
    have hjl : j < Z.length := by
      rcases Nat.lt_or_ge j Z.length with h | h
      · exact h
      · rw [List.getElem?_eq_none (by simp [rowE]; omega)] at hj; cases hj
    unfold rowE at hj
    rw [List.getElem?_map, List.getElem?_eq_getElem hjl] at hj
    injection hj with hj
    subst hj
    have e : ((⟨g, 0, none⟩ : Addr).add j) = ⟨g, j, none⟩ := by unfold Addr.add; split <;> simp_all
    rw [e, RE.2 j hjl, gd Z j hjl]
  case d2 => intro u hu; simp [rowE] at hu; obtain ⟨z, _, rfl⟩ := hu; rfl
  case c3 => unfold maxLen; omega
  case c4 => omega
  intro v' w10 hown1 hgrow hnv
  have hnn : ¬ v' = .slice none 0 0 := hnv
  have hbB := Below.grown (Below.refl (w8.heap.size + 1) _) hgrow hzE (owns_block OE)
  have Y10 := HY10.out.stepB hbB hYl
  have U10 := HU10.out.stepB hbB hUl
  have B10 : Below w.heap.size w w10 := HGB.out.trans (hbB.mono hbz)
  have hz10 : w8.heap.size + 1 ≤ w10.heap.size := Nat.le_trans hzE hbB.size
  clear OE RE hgrow hnv hbB HGB HY10 HU10 hzE
  go_wp2_with (at_builtin; refine wpList_append_own _ rfl (.tmp 77) (.tmp 78) 22 rfl (w8.heap.size + 1) 5 i0 (.int .u8 0) 1 1 Try.underlying22 hi0 hz0 hz1 hz2 rfl (by decide) _ _ _ rfl (hown1.alloc _) ⟨w10.heap.size, 0, none⟩ 1 1 [.int .u8 0] rfl rfl ?e1 ?e2 ?e3 ?e4 ?e5 ?_)
  case e1 =>
    intro j u hj
    match j, hj with
    | 0, hj => simp at hj; subst hj; simp [Addr.add, go_sem]
    | j + 1, hj => simp at hj
  case e2 => intro u hu; simp at hu; subst hu; rfl
  case e3 => unfold maxLen; omega
  case e4 => omega
  case e5 => simp; omega
  intro v2 w11 hown2 hgrow2 hnv2
  have hnn2 : ¬ v2 = .slice none 0 0 := by
    intro e
    have := hnv2
    simp_all
  have hbB : Below (w8.heap.size + 1) w10 w11 := Below.grown ((Below.refl _ _).alloc hz10 _) hgrow2 (by simp; omega) (owns_block hown1)
  have Y11 := Y10.stepB hbB hYl
  have U11 := U10.stepB hbB hUl
  have B11 : Below w.heap.size w w11 := B10.trans (hbB.mono hbz)
  obtain ⟨g4, cap4, hv4⟩ := owns_shape hown2 hnn2
  subst hv4
  have e0 : rowE Z ++ [Value.int .u8 0] = rowE (Z ++ [0]) := by unfold rowE; simp
  have el : (Z ++ [(0 : Int)]).length = Z.length + 1 := by simp
  have R11 : ReadE w11 g4 (Z ++ [0]) := ReadE.of_own (base := w8.heap.size + 1) (cap := cap4) (by unfold OwnE; rw [el, ← e0]; exact hown2)
  have HDT2 : Hid (Calls Try.prog 10 #[.slice (some ⟨g4, 0, none⟩) (Z.length + 1) cap4] w11 fun e w' => e = .returned (.tuple #[.agg #[.int .i64 0, .int .i64 0, .string em], .int .i64 3]) ∧ Below w11.heap.size w11 w') := by
    have hh := dec_anyR g4 cap4 (Z ++ [0]) w11 R11 (by omega)
    rw [el, HD3.out] at hh
    exact hh
  clear hown1 hown2 hgrow2 hnv2 hnn2 hbB R11 e0 el Y10 U10 B10 hnn
  go_wp2_with fail
  refine HDT2.out.mono ?_
  rintro e w12 ⟨rfl, hb⟩
  have hbA : Below w11.heap.size w11 (w12.alloc (.cells #[.int .i64 0, .int .i64 0, .string em] 24)) := hb.alloc hb.size _
  have Y13 := Y11.step hbA
  have U13 := U11.step hbA
  have B13 : Below w.heap.size w (w12.alloc (.cells #[.int .i64 0, .int .i64 0, .string em] 24)) := B11.trans (hbA.mono B11.size)
  have p0 := Y13.c0
  have p1 := Y13.c1
  have p2 := Y13.c2
  clear hb hbA HDT2 Y11 U11 B11
  go_wp2_with fail
  refine (HP1.out _).mono ?_
  rintro e w14 ⟨rfl, hb⟩
  have Y14 := Y13.step hb
  have U14 := U13.step hb
  have B14 := B13.trans (hb.mono B13.size)
  clear hb p0 p1 p2 Y13 U13 B13
  have p0 := Y14.c0
  have p1 := Y14.c1
  have p2 := Y14.c2
  go_wp2_with fail
  refine (HP2.out _).mono ?_
  rintro e w15 ⟨rfl, hb⟩
  have Y15 := Y14.step hb
  have U15 := U14.step hb
  have B15 := B14.trans (hb.mono B14.size)
  clear hb p0 p1 p2 Y14 U14 B14
  have p0 := Y15.c0
  have p1 := Y15.c1
  have p2 := Y15.c2
  have u0 := U15.c0
  have u1 := U15.c1
  have u2 := U15.c2
  go_wp2_with fail
  refine (valueOK_any v.k v.n v.t _ (by unfold maxLen; omega)).mono ?_
  rintro e w16 ⟨rfl, hb⟩
  have hokv : okB ⟨v.k, v.n, v.t⟩ = true := HOK.out
  rw [hokv]
  have B16 := B15.trans (hb.mono B15.size)
  clear hb p0 p1 p2 u0 u1 u2
  go_wp2_with fail
  go_ret
  exact ⟨rfl, B16⟩

end Go.Proofs.Ytgjknfbkkfidbaa
