import Derived.Test.YtejphhhmblpapaaDoorDrawEQ
import Derived.Test.YtejphhhmblpapaaDoorOrdNQ
import Derived.Test.YtejphhhmblpapaaDoorOrdLQ
import Derived.Test.YtejphhhmblpapaaDoorTextVQ
import Derived.Test.YtejphhhmblpapaaDoorGetSQ
import Derived.Deep.RegionWith
/- The law on the order of drawn values returns true for every two codes. -/
namespace Go.Proofs.YtejphhhmblpapaaDoor
open Go.RowKit
set_option linter.unusedVariables false

theorem ok_small (v : Val) (h : okB v = true) : v.t.size ≤ 1048576 := by
  rcases Nat.lt_or_ge 300 v.t.size with h' | h'
  · rw [ok_big v h'] at h; cases h
  · omega
theorem implOrd (a b : Val) (ha : okB a = true) (hb : okB b = true) (w : World) :
    Calls Tryd.prog 7 #[.agg #[.int .i64 a.k, .int .i64 a.n, .string a.t], .agg #[.int .i64 b.k, .int .i64 b.n, .string b.t]] w fun e w' => e = .returned (.tuple #[.int .i64 (ordV 5 a b), .int .i64 0]) ∧ Below w.heap.size w w' :=
  implOrder_ok a.k a.n b.k b.n a.t b.t w (ok_small a ha) (ok_small b hb) ha hb
theorem specOrd (a b : Val) (ha : okB a = true) (hb : okB b = true) (w : World) :
    Calls Tryd.prog 8 #[.agg #[.int .i64 a.k, .int .i64 a.n, .string a.t], .agg #[.int .i64 b.k, .int .i64 b.n, .string b.t]] w fun e w' => e = .returned (.tuple #[.int .i64 (ordV 5 a b), .int .i64 0]) ∧ Below w.heap.size w w' :=
  specOrder_ok a.k a.n b.k b.n a.t b.t w (ok_small a ha) (ok_small b hb) ha hb

set_option maxRecDepth 8000 in
set_option maxHeartbeats 4000000 in
theorem lawOrder (x x' : Option Addr) (cap cap' : Nat) (zs zs' : List Int) (w : World) (hin : InB w x zs) (hin' : InB w x' zs') (hby : ∀ i, i < zs.length → 0 ≤ zs.getD i 0 ∧ zs.getD i 0 < 256) (hby' : ∀ i, i < zs'.length → 0 ≤ zs'.getD i 0 ∧ zs'.getD i 0 < 256)
    (hm : zs.length ≤ maxLen) (hm' : zs'.length ≤ maxLen) (htab : Tab w.heap.size w) :
    Calls Tryd.prog 3 #[.slice x zs.length cap, .slice x' zs'.length cap'] w fun e w' => e = .returned (.bool true) ∧ Below w.heap.size w w' := by
  have HT : Hid (Tab w.heap.size w) := htab
  have HIN : Hid _ := hin
  have HIN' : Hid _ := hin'
  have HBY : Hid _ := hby
  have HBY' : Hid _ := hby'
  unfold maxLen at hm hm'
  clear htab hin hin' hby hby'
  by_cases h1 : (1048576 : Int) < zs.length
  · go_enter Tryd.func3, Tryd.ntmps3
    go_wp2_with fail
    go_ret
    exact ⟨rfl, Below.refl _ _⟩
  by_cases h2 : (1048576 : Int) < zs'.length
  · go_enter Tryd.func3, Tryd.ntmps3
    go_wp2_with fail
    go_ret
    exact ⟨rfl, Below.refl _ _⟩
  obtain ⟨i0, hi0, hz0, hz1, hz2⟩ := info_parts infoV
  have C1 : InC w x zs := ⟨HIN.out, HBY.out, by omega⟩
  have C2 : InC w x' zs' := ⟨HIN'.out, HBY'.out, by omega⟩
  have HV1 : Hid (Calls _ _ _ _ _) := valuesOf_any x cap zs 3 w C1 (by omega)
  have HC2 : Hid (InC _ _ _) := C2
  clear C1 C2 HIN HIN' HBY HBY'
  go_enter Tryd.func3, Tryd.ntmps3
  go_wp2_with fail
  refine HV1.out.mono ?_
  rintro e w1 ⟨⟨g1, c1, l1, rfl, hl1, ha1, o1⟩, b1⟩
  have HV2 : Hid (Calls _ _ _ _ _) := valuesOf_any x' cap' zs' 3 w1 (HC2.out.step b1) (by omega)
  have HO1 : Hid (World.ownsRow _ _ _ _ _ _ _) := o1
  have HA1 : Hid _ := ha1
  clear HV1 HC2 o1 ha1
  go_wp2_with fail
  refine HV2.out.mono ?_
  rintro e w2 ⟨⟨g2, c2, l2, rfl, hl2, ha2, o2⟩, b2⟩
  have B2 : Below w.heap.size w w2 := b1.trans (b2.mono b1.size)
  have O1 := owns_below HO1.out b2
  have HA2 : Hid _ := ha2
  have HO2 : Hid (World.ownsRow _ _ _ _ _ _ _) := o2
  have hfl : (flat l2).length = 3 * 3 := o2.1
  have hzw := B2.size
  clear HV2 o2 ha2 HO1 b1 b2
  go_wp2_with (at_builtin; refine wpList_append_own _ rfl (.tmp 34) (.tmp 36) 23 rfl w.heap.size 26 i0 (.agg #[.int .i64 0, .int .i64 0, .string em]) 3 32 Tryd.underlying23 hi0 hz0 hz1 hz2 rfl (by decide) _ _ _ rfl O1 ⟨g2, 0, none⟩ 3 c2 (flat l2) rfl hfl ?d1 (flat_one l2) (by unfold maxLen; omega) (by omega) hzw ?_)
  case d1 => intro j u hj; rw [addr0]; exact owns_cell HO2.out j u hj
  intro v' w3 hown3 hgrow hnv
  have B3 : Below w.heap.size w w3 := Below.grown B2 hgrow hzw (fun j hj => (O1.lt j hj).1)
  have hnn : ¬ v' = .slice none 0 0 := hnv
  obtain ⟨g3, cap3, hv⟩ := owns_shape hown3 hnn
  subst hv
  obtain ⟨L, hL⟩ : ∃ L, L = l1 ++ l2 := ⟨_, rfl⟩
  have hLl : L.length = 6 := by rw [hL, List.length_append, hl1, hl2]
  have hAL : ∀ v ∈ L, okB v = true := fun v hv => by rw [hL] at hv; rcases List.mem_append.mp hv with h | h; exact HA1.out v h; exact HA2.out v h
  have R3 : ReadV w3 g3 L := by
    apply ReadV.of_own (base := w.heap.size) (cap := cap3)
    rw [hLl, hL, flat_app]; exact hown3
  have HR3 : Hid (ReadV _ _ _) := R3
  have HB3 : Hid (Below _ _ _) := B3
  have HA : Hid _ := hAL
  clear hown3 hgrow hnv hnn hAL R3 B3 hL O1 HA1 HA2 HO2 B2 hfl hzw hl1 hl2
  go_wp2_with fail
  go_loopw [6] (fun i wr => ∃ p : Nat, p ≤ 6 ∧ i = .int .i64 p ∧ ReadV wr g3 L ∧ Below w.heap.size w wr) (fun i _ => 6 - (intOf i).toNat)
  case atStart => exact ⟨0, by omega, rfl, HR3.out, HB3.out⟩
  case round =>
    obtain ⟨p, hp, rfl, hr, hbel⟩ := hrel
    have HR : Hid (ReadV _ _ _) := hr
    have HB : Hid (Below _ _ _) := hbel
    clear hr hbel HR3 HB3
    by_cases hp6 : p < 6
    · go_wp2_with fail
      rw [show decide ((p : Int) < 6) = true from decide_eq_true (by omega)]
      go_loopw [7] (fun i wr => ∃ q : Nat, q ≤ 6 ∧ i = .int .i64 q ∧ ReadV wr g3 L ∧ Below w.heap.size w wr) (fun i _ => 6 - (intOf i).toNat)
      case atStart => exact ⟨0, by omega, rfl, HR.out, HB.out⟩
      case round =>
        obtain ⟨q, hq, rfl, hr, hbel⟩ := hrel
        have HR2 : Hid (ReadV _ _ _) := hr
        have HB2 : Hid (Below _ _ _) := hbel
        have hzr := hbel.size
        clear hbel HR HB
        by_cases hq6 : q < 6
        · obtain ⟨x0, x1, x2⟩ := hr.cells p (by omega)
          obtain ⟨y0, y1, y2⟩ := hr.cells q (by omega)
          have hgr := hr.lt
          have hoa := HA.out L[p] (List.getElem_mem _)
          have hob := HA.out L[q] (List.getElem_mem _)
          obtain ⟨a, ea⟩ : ∃ a, a = L[p] := ⟨_, rfl⟩
          obtain ⟨b, eb⟩ : ∃ b, b = L[q] := ⟨_, rfl⟩
          rw [← ea] at x0 x1 x2 hoa
          rw [← eb] at y0 y1 y2 hob
          have hNM := (ordL_ordV 5).turn a b
          have hNr := ordV_range 5 a b
          have hNz : ordV 5 a b = 0 → a = b := ordV_zero 5 a b hoa hob
          have HTR : Hid (∀ c, ordV 5 a b ≤ 0 → ordV 5 b c ≤ 0 → ordV 5 a c ≤ 0) := fun c => (ordL_ordV 5).tr a b c
          have HOA : Hid _ := hoa
          have HOB : Hid _ := hob
          have HIab := implOrd a b hoa hob
          have HSab := specOrd a b hoa hob
          have HIba := implOrd b a hob hoa
          rw [hNM] at HIba
          have hrefl : a = b → ordV 5 a b = 0 := fun e => by rw [e]; exact ordV_refl 5 b
          obtain ⟨N, hN⟩ : ∃ N, N = ordV 5 a b := ⟨_, rfl⟩
          rw [← hN] at HIab HSab HIba hNr hNz hrefl HTR
          have KI : Hid _ := HIab
          have KS : Hid _ := HSab
          have KB : Hid _ := HIba
          have hfacts : (a = b ∧ N = 0) ∨ (a ≠ b ∧ N ≠ 0) := by
            by_cases e : a = b
            · exact .inl ⟨e, hrefl e⟩
            · exact .inr ⟨e, fun h => e (hNz h)⟩
          obtain ⟨hN0, hN1⟩ := hNr
          obtain ⟨ak, an, at'⟩ := a
          obtain ⟨bk, bn, bt⟩ := b
          obtain ⟨wq, rfl⟩ : ∃ wq, wq = wr := ⟨wr, rfl⟩
          have X0 := Two.start wq (.int .i64 ak) (.int .i64 an) (.string at') (.int .i64 bk) (.int .i64 bn) (.string bt) 26
          clear HIab HSab HIba hoa hob hNM hNz hrefl hN ea eb hr
          go_wp2_with fail
          refine (KI.out _).mono ?_
          rintro e w5 ⟨rfl, hb⟩
          have X1 := X0.step hb
          have u0 := X1.c0
          have u1 := X1.c1
          have u2 := X1.c2
          have v0 := X1.d0
          have v1 := X1.d1
          have v2 := X1.d2
          clear hb X0
          go_wp2_with fail
          refine (KS.out _).mono ?_
          rintro e w6 ⟨rfl, hb⟩
          have X2 := X1.step hb
          clear hb X1 u0 u1 u2 v0 v1 v2
          have u0 := X2.c0
          have u1 := X2.c1
          have u2 := X2.c2
          have v0 := X2.d0
          have v1 := X2.d1
          have v2 := X2.d2
          go_wp2_with fail
          refine (KB.out _).mono ?_
          rintro e w7 ⟨rfl, hb⟩
          have X3 := X2.step hb
          clear hb X2 u0 u1 u2 v0 v1 v2
          have u0 := X3.c0
          have u1 := X3.c1
          have u2 := X3.c2
          have v0 := X3.d0
          have v1 := X3.d1
          have v2 := X3.d2
          have R7 : ReadV w7 g3 L := HR2.out.next X3.bel
          have HR7 : Hid (ReadV _ _ _) := R7
          have HX3 : Hid (Two _ _ _ _ _ _ _ _) := X3
          have hlt7 := X3.lt
          have hbw7 := X3.bel
          clear X3 R7 x0 x1 x2 y0 y1 y2
          rcases hfacts with ⟨he, hNe⟩ | ⟨hne, hNe⟩
          · injection he with e1 e2 e3
            subst e1; subst e2; subst e3
            go_wp2_with fail
            go_loopw [16] (fun i ws => ∃ j : Nat, j ≤ 6 ∧ i = .int .i64 j ∧ ReadV ws g3 L ∧ Two wq ws (.int .i64 ak) (.int .i64 an) (.string at') (.int .i64 ak) (.int .i64 an) (.string at')) (fun i _ => 6 - (intOf i).toNat)
            case atStart => exact ⟨0, by omega, rfl, HR7.out, HX3.out⟩
            case round =>
              obtain ⟨j, hj, rfl, hrs, X4⟩ := hrel
              by_cases hj6 : j < 6
              · obtain ⟨z0, z1, z2⟩ := hrs.cells j (by omega)
                have hoc := HA.out L[j] (List.getElem_mem _)
                obtain ⟨c, ec⟩ : ∃ c, c = L[j] := ⟨_, rfl⟩
                rw [← ec] at z0 z1 z2 hoc
                have HRC : Hid (∀ W, ReadV W g3 L → W.cell? ⟨g3, j * 3, none⟩ = some (.int .i64 c.k) ∧ W.cell? ⟨g3, j * 3 + 1, none⟩ = some (.int .i64 c.n) ∧ W.cell? ⟨g3, j * 3 + 2, none⟩ = some (.string c.t)) := fun W hW => by
                  have := hW.cells j (by omega)
                  rwa [← ec] at this
                obtain ⟨P, hP⟩ : ∃ P, P = ordV 5 ⟨ak, an, at'⟩ c := ⟨_, rfl⟩
                obtain ⟨Q, hQ⟩ : ∃ Q, Q = ordV 5 ⟨ak, an, at'⟩ c := ⟨_, rfl⟩
                have htr : N ≤ 0 → P ≤ 0 → Q ≤ 0 := by rw [hP, hQ]; exact HTR.out c
                have KP0 : ∀ W : World, Calls Tryd.prog 7 #[.agg #[.int .i64 ak, .int .i64 an, .string at'], .agg #[.int .i64 c.k, .int .i64 c.n, .string c.t]] W fun e w' => e = .returned (.tuple #[.int .i64 P, .int .i64 0]) ∧ Below W.heap.size W w' := fun W => by rw [hP]; exact implOrd ⟨ak, an, at'⟩ c HOB.out hoc W
                have KQ0 : ∀ W : World, Calls Tryd.prog 7 #[.agg #[.int .i64 ak, .int .i64 an, .string at'], .agg #[.int .i64 c.k, .int .i64 c.n, .string c.t]] W fun e w' => e = .returned (.tuple #[.int .i64 Q, .int .i64 0]) ∧ Below W.heap.size W w' := fun W => by rw [hQ]; exact implOrd ⟨ak, an, at'⟩ c HOA.out hoc W
                have KP : Hid _ := KP0
                have KQ : Hid _ := KQ0
                have HTQ : Hid _ := htr
                have HRS : Hid (ReadV _ _ _) := hrs
                have HX4 : Hid (Two _ _ _ _ _ _ _ _) := X4
                have hlt4 := X4.lt
                have hgs := hrs.lt
                have u0 := X4.c0
                have u1 := X4.c1
                have u2 := X4.c2
                have v0 := X4.d0
                have v1 := X4.d1
                have v2 := X4.d2
                clear KP0 KQ0 hP hQ htr hrs X4 ec hoc HR7 HX3
                go_wp2_with fail
                go_region_with (go_at_call 7; refine (KP.out _).mono ?_; rintro e w8 ⟨rfl, hb⟩)
                all_goals
                  have hb8 : Below wr.heap.size wr w8 := Below.trans (by (repeat (first | (with_reducible exact Below.refl _ _) | (with_reducible assumption) | (with_reducible apply below_drewN) | (with_reducible apply Below.drew) | ((with_reducible refine Below.setCell ?_ ?_ _); rotate_left; focus (first | (simp; done) | (simp; omega) | omega)) | ((with_reducible refine Below.alloc ?_ ?_ _); rotate_left; focus (first | (simp; done) | (simp; omega) | omega))))) (hb.mono (by simp))
                  have HX8 : Hid (Two _ _ _ _ _ _ _ _) := HX4.out.step hb8
                  have HR8 : Hid (ReadV _ _ _) := HRS.out.next hb8
                  clear hb hb8 u0 u1 u2 v0 v1 v2 z0 z1 z2
                  have u0 := HX8.out.c0
                  have u1 := HX8.out.c1
                  have u2 := HX8.out.c2
                  have hlt8 := HX8.out.lt
                  have hg8 := HR8.out.lt
                  obtain ⟨z0, z1, z2⟩ := HRC.out w8 HR8.out
                  go_wp2_with fail
                  go_region_with (go_at_call 7; refine (KQ.out _).mono ?_; rintro e w9 ⟨rfl, hb⟩)
                  all_goals
                    have hb9 : Below w8.heap.size w8 w9 := Below.trans (by (repeat (first | (with_reducible exact Below.refl _ _) | (with_reducible assumption) | (with_reducible apply below_drewN) | (with_reducible apply Below.drew) | ((with_reducible refine Below.setCell ?_ ?_ _); rotate_left; focus (first | (simp; done) | (simp; omega) | omega)) | ((with_reducible refine Below.alloc ?_ ?_ _); rotate_left; focus (first | (simp; done) | (simp; omega) | omega))))) (hb.mono (by simp))
                    have HX9 : Hid (Two _ _ _ _ _ _ _ _) := HX8.out.step hb9
                    have HR9 : Hid (ReadV _ _ _) := HR8.out.next hb9
                    clear hb hb9 u0 u1 u2 z0 z1 z2
                    by_cases hN0' : N ≤ 0
                    · by_cases hP0 : P ≤ 0
                      · have hQ0 : Q ≤ 0 := HTQ.out hN0' hP0
                        go_wp2_with fail
                        go_roundw
                        case rel => exact ⟨j + 1, by omega, by go_num, HR9.out, HX9.out⟩
                        case measure => simp [intOf]; omega
                      · go_wp2_with fail
                        go_roundw
                        case rel => exact ⟨j + 1, by omega, by go_num, HR9.out, HX9.out⟩
                        case measure => simp [intOf]; omega
                    · exact absurd (show N ≤ 0 by omega) hN0'
              · obtain rfl : j = 6 := by omega
                have HBW : Hid (Below _ _ _) := X4.bel
                have HRS : Hid (ReadV _ _ _) := hrs
                clear hrs X4 HR7 HX3
                go_wp2_with fail
                go_roundw
                case rel => exact ⟨q + 1, by omega, by go_num, HRS.out, HB2.out.trans (HBW.out.mono hzr)⟩
                case measure => simp [intOf]; omega
          · have hN0b : (N == 0) = false := beq_eq_false_iff_ne.mpr hNe
            by_cases hk : ak = bk
            · subst hk
              by_cases hn : an = bn
              · subst hn
                have htl := toList_ne (show at' ≠ bt from fun e => hne (by rw [e]))
                clear hne
                go_wp2_with fail
                go_loopw [16] (fun i ws => ∃ j : Nat, j ≤ 6 ∧ i = .int .i64 j ∧ ReadV ws g3 L ∧ Two wq ws (.int .i64 ak) (.int .i64 an) (.string at') (.int .i64 ak) (.int .i64 an) (.string bt)) (fun i _ => 6 - (intOf i).toNat)
                case atStart => exact ⟨0, by omega, rfl, HR7.out, HX3.out⟩
                case round =>
                  obtain ⟨j, hj, rfl, hrs, X4⟩ := hrel
                  by_cases hj6 : j < 6
                  · obtain ⟨z0, z1, z2⟩ := hrs.cells j (by omega)
                    have hoc := HA.out L[j] (List.getElem_mem _)
                    obtain ⟨c, ec⟩ : ∃ c, c = L[j] := ⟨_, rfl⟩
                    rw [← ec] at z0 z1 z2 hoc
                    have HRC : Hid (∀ W, ReadV W g3 L → W.cell? ⟨g3, j * 3, none⟩ = some (.int .i64 c.k) ∧ W.cell? ⟨g3, j * 3 + 1, none⟩ = some (.int .i64 c.n) ∧ W.cell? ⟨g3, j * 3 + 2, none⟩ = some (.string c.t)) := fun W hW => by
                      have := hW.cells j (by omega)
                      rwa [← ec] at this
                    obtain ⟨P, hP⟩ : ∃ P, P = ordV 5 ⟨ak, an, bt⟩ c := ⟨_, rfl⟩
                    obtain ⟨Q, hQ⟩ : ∃ Q, Q = ordV 5 ⟨ak, an, at'⟩ c := ⟨_, rfl⟩
                    have htr : N ≤ 0 → P ≤ 0 → Q ≤ 0 := by rw [hP, hQ]; exact HTR.out c
                    have KP0 : ∀ W : World, Calls Tryd.prog 7 #[.agg #[.int .i64 ak, .int .i64 an, .string bt], .agg #[.int .i64 c.k, .int .i64 c.n, .string c.t]] W fun e w' => e = .returned (.tuple #[.int .i64 P, .int .i64 0]) ∧ Below W.heap.size W w' := fun W => by rw [hP]; exact implOrd ⟨ak, an, bt⟩ c HOB.out hoc W
                    have KQ0 : ∀ W : World, Calls Tryd.prog 7 #[.agg #[.int .i64 ak, .int .i64 an, .string at'], .agg #[.int .i64 c.k, .int .i64 c.n, .string c.t]] W fun e w' => e = .returned (.tuple #[.int .i64 Q, .int .i64 0]) ∧ Below W.heap.size W w' := fun W => by rw [hQ]; exact implOrd ⟨ak, an, at'⟩ c HOA.out hoc W
                    have KP : Hid _ := KP0
                    have KQ : Hid _ := KQ0
                    have HTQ : Hid _ := htr
                    have HRS : Hid (ReadV _ _ _) := hrs
                    have HX4 : Hid (Two _ _ _ _ _ _ _ _) := X4
                    have hlt4 := X4.lt
                    have hgs := hrs.lt
                    have u0 := X4.c0
                    have u1 := X4.c1
                    have u2 := X4.c2
                    have v0 := X4.d0
                    have v1 := X4.d1
                    have v2 := X4.d2
                    clear KP0 KQ0 hP hQ htr hrs X4 ec hoc HR7 HX3
                    go_wp2_with fail
                    go_region_with (go_at_call 7; refine (KP.out _).mono ?_; rintro e w8 ⟨rfl, hb⟩)
                    all_goals
                      have hb8 : Below wr.heap.size wr w8 := Below.trans (by (repeat (first | (with_reducible exact Below.refl _ _) | (with_reducible assumption) | (with_reducible apply below_drewN) | (with_reducible apply Below.drew) | ((with_reducible refine Below.setCell ?_ ?_ _); rotate_left; focus (first | (simp; done) | (simp; omega) | omega)) | ((with_reducible refine Below.alloc ?_ ?_ _); rotate_left; focus (first | (simp; done) | (simp; omega) | omega))))) (hb.mono (by simp))
                      have HX8 : Hid (Two _ _ _ _ _ _ _ _) := HX4.out.step hb8
                      have HR8 : Hid (ReadV _ _ _) := HRS.out.next hb8
                      clear hb hb8 u0 u1 u2 v0 v1 v2 z0 z1 z2
                      have u0 := HX8.out.c0
                      have u1 := HX8.out.c1
                      have u2 := HX8.out.c2
                      have hlt8 := HX8.out.lt
                      have hg8 := HR8.out.lt
                      obtain ⟨z0, z1, z2⟩ := HRC.out w8 HR8.out
                      go_wp2_with fail
                      go_region_with (go_at_call 7; refine (KQ.out _).mono ?_; rintro e w9 ⟨rfl, hb⟩)
                      all_goals
                        have hb9 : Below w8.heap.size w8 w9 := Below.trans (by (repeat (first | (with_reducible exact Below.refl _ _) | (with_reducible assumption) | (with_reducible apply below_drewN) | (with_reducible apply Below.drew) | ((with_reducible refine Below.setCell ?_ ?_ _); rotate_left; focus (first | (simp; done) | (simp; omega) | omega)) | ((with_reducible refine Below.alloc ?_ ?_ _); rotate_left; focus (first | (simp; done) | (simp; omega) | omega))))) (hb.mono (by simp))
                        have HX9 : Hid (Two _ _ _ _ _ _ _ _) := HX8.out.step hb9
                        have HR9 : Hid (ReadV _ _ _) := HR8.out.next hb9
                        clear hb hb9 u0 u1 u2 z0 z1 z2
                        by_cases hN0' : N ≤ 0
                        · by_cases hP0 : P ≤ 0
                          · have hQ0 : Q ≤ 0 := HTQ.out hN0' hP0
                            go_wp2_with fail
                            go_roundw
                            case rel => exact ⟨j + 1, by omega, by go_num, HR9.out, HX9.out⟩
                            case measure => simp [intOf]; omega
                          · go_wp2_with fail
                            go_roundw
                            case rel => exact ⟨j + 1, by omega, by go_num, HR9.out, HX9.out⟩
                            case measure => simp [intOf]; omega
                        · go_wp2_with fail
                          go_roundw
                          case rel => exact ⟨j + 1, by omega, by go_num, HR9.out, HX9.out⟩
                          case measure => simp [intOf]; omega
                  · obtain rfl : j = 6 := by omega
                    have HBW : Hid (Below _ _ _) := X4.bel
                    have HRS : Hid (ReadV _ _ _) := hrs
                    clear hrs X4 HR7 HX3
                    go_wp2_with fail
                    go_roundw
                    case rel => exact ⟨q + 1, by omega, by go_num, HRS.out, HB2.out.trans (HBW.out.mono hzr)⟩
                    case measure => simp [intOf]; omega
              · have hnb : (an == bn) = false := beq_eq_false_iff_ne.mpr hn
                clear hne
                go_wp2_with fail
                go_loopw [16] (fun i ws => ∃ j : Nat, j ≤ 6 ∧ i = .int .i64 j ∧ ReadV ws g3 L ∧ Two wq ws (.int .i64 ak) (.int .i64 an) (.string at') (.int .i64 ak) (.int .i64 bn) (.string bt)) (fun i _ => 6 - (intOf i).toNat)
                case atStart => exact ⟨0, by omega, rfl, HR7.out, HX3.out⟩
                case round =>
                  obtain ⟨j, hj, rfl, hrs, X4⟩ := hrel
                  by_cases hj6 : j < 6
                  · obtain ⟨z0, z1, z2⟩ := hrs.cells j (by omega)
                    have hoc := HA.out L[j] (List.getElem_mem _)
                    obtain ⟨c, ec⟩ : ∃ c, c = L[j] := ⟨_, rfl⟩
                    rw [← ec] at z0 z1 z2 hoc
                    have HRC : Hid (∀ W, ReadV W g3 L → W.cell? ⟨g3, j * 3, none⟩ = some (.int .i64 c.k) ∧ W.cell? ⟨g3, j * 3 + 1, none⟩ = some (.int .i64 c.n) ∧ W.cell? ⟨g3, j * 3 + 2, none⟩ = some (.string c.t)) := fun W hW => by
                      have := hW.cells j (by omega)
                      rwa [← ec] at this
                    obtain ⟨P, hP⟩ : ∃ P, P = ordV 5 ⟨ak, bn, bt⟩ c := ⟨_, rfl⟩
                    obtain ⟨Q, hQ⟩ : ∃ Q, Q = ordV 5 ⟨ak, an, at'⟩ c := ⟨_, rfl⟩
                    have htr : N ≤ 0 → P ≤ 0 → Q ≤ 0 := by rw [hP, hQ]; exact HTR.out c
                    have KP0 : ∀ W : World, Calls Tryd.prog 7 #[.agg #[.int .i64 ak, .int .i64 bn, .string bt], .agg #[.int .i64 c.k, .int .i64 c.n, .string c.t]] W fun e w' => e = .returned (.tuple #[.int .i64 P, .int .i64 0]) ∧ Below W.heap.size W w' := fun W => by rw [hP]; exact implOrd ⟨ak, bn, bt⟩ c HOB.out hoc W
                    have KQ0 : ∀ W : World, Calls Tryd.prog 7 #[.agg #[.int .i64 ak, .int .i64 an, .string at'], .agg #[.int .i64 c.k, .int .i64 c.n, .string c.t]] W fun e w' => e = .returned (.tuple #[.int .i64 Q, .int .i64 0]) ∧ Below W.heap.size W w' := fun W => by rw [hQ]; exact implOrd ⟨ak, an, at'⟩ c HOA.out hoc W
                    have KP : Hid _ := KP0
                    have KQ : Hid _ := KQ0
                    have HTQ : Hid _ := htr
                    have HRS : Hid (ReadV _ _ _) := hrs
                    have HX4 : Hid (Two _ _ _ _ _ _ _ _) := X4
                    have hlt4 := X4.lt
                    have hgs := hrs.lt
                    have u0 := X4.c0
                    have u1 := X4.c1
                    have u2 := X4.c2
                    have v0 := X4.d0
                    have v1 := X4.d1
                    have v2 := X4.d2
                    clear KP0 KQ0 hP hQ htr hrs X4 ec hoc HR7 HX3
                    go_wp2_with fail
                    go_region_with (go_at_call 7; refine (KP.out _).mono ?_; rintro e w8 ⟨rfl, hb⟩)
                    all_goals
                      have hb8 : Below wr.heap.size wr w8 := Below.trans (by (repeat (first | (with_reducible exact Below.refl _ _) | (with_reducible assumption) | (with_reducible apply below_drewN) | (with_reducible apply Below.drew) | ((with_reducible refine Below.setCell ?_ ?_ _); rotate_left; focus (first | (simp; done) | (simp; omega) | omega)) | ((with_reducible refine Below.alloc ?_ ?_ _); rotate_left; focus (first | (simp; done) | (simp; omega) | omega))))) (hb.mono (by simp))
                      have HX8 : Hid (Two _ _ _ _ _ _ _ _) := HX4.out.step hb8
                      have HR8 : Hid (ReadV _ _ _) := HRS.out.next hb8
                      clear hb hb8 u0 u1 u2 v0 v1 v2 z0 z1 z2
                      have u0 := HX8.out.c0
                      have u1 := HX8.out.c1
                      have u2 := HX8.out.c2
                      have hlt8 := HX8.out.lt
                      have hg8 := HR8.out.lt
                      obtain ⟨z0, z1, z2⟩ := HRC.out w8 HR8.out
                      go_wp2_with fail
                      go_region_with (go_at_call 7; refine (KQ.out _).mono ?_; rintro e w9 ⟨rfl, hb⟩)
                      all_goals
                        have hb9 : Below w8.heap.size w8 w9 := Below.trans (by (repeat (first | (with_reducible exact Below.refl _ _) | (with_reducible assumption) | (with_reducible apply below_drewN) | (with_reducible apply Below.drew) | ((with_reducible refine Below.setCell ?_ ?_ _); rotate_left; focus (first | (simp; done) | (simp; omega) | omega)) | ((with_reducible refine Below.alloc ?_ ?_ _); rotate_left; focus (first | (simp; done) | (simp; omega) | omega))))) (hb.mono (by simp))
                        have HX9 : Hid (Two _ _ _ _ _ _ _ _) := HX8.out.step hb9
                        have HR9 : Hid (ReadV _ _ _) := HR8.out.next hb9
                        clear hb hb9 u0 u1 u2 z0 z1 z2
                        by_cases hN0' : N ≤ 0
                        · by_cases hP0 : P ≤ 0
                          · have hQ0 : Q ≤ 0 := HTQ.out hN0' hP0
                            go_wp2_with fail
                            go_roundw
                            case rel => exact ⟨j + 1, by omega, by go_num, HR9.out, HX9.out⟩
                            case measure => simp [intOf]; omega
                          · go_wp2_with fail
                            go_roundw
                            case rel => exact ⟨j + 1, by omega, by go_num, HR9.out, HX9.out⟩
                            case measure => simp [intOf]; omega
                        · go_wp2_with fail
                          go_roundw
                          case rel => exact ⟨j + 1, by omega, by go_num, HR9.out, HX9.out⟩
                          case measure => simp [intOf]; omega
                  · obtain rfl : j = 6 := by omega
                    have HBW : Hid (Below _ _ _) := X4.bel
                    have HRS : Hid (ReadV _ _ _) := hrs
                    clear hrs X4 HR7 HX3
                    go_wp2_with fail
                    go_roundw
                    case rel => exact ⟨q + 1, by omega, by go_num, HRS.out, HB2.out.trans (HBW.out.mono hzr)⟩
                    case measure => simp [intOf]; omega
            · have hkb : (ak == bk) = false := beq_eq_false_iff_ne.mpr hk
              clear hne
              go_wp2_with fail
              go_loopw [16] (fun i ws => ∃ j : Nat, j ≤ 6 ∧ i = .int .i64 j ∧ ReadV ws g3 L ∧ Two wq ws (.int .i64 ak) (.int .i64 an) (.string at') (.int .i64 bk) (.int .i64 bn) (.string bt)) (fun i _ => 6 - (intOf i).toNat)
              case atStart => exact ⟨0, by omega, rfl, HR7.out, HX3.out⟩
              case round =>
                obtain ⟨j, hj, rfl, hrs, X4⟩ := hrel
                by_cases hj6 : j < 6
                · obtain ⟨z0, z1, z2⟩ := hrs.cells j (by omega)
                  have hoc := HA.out L[j] (List.getElem_mem _)
                  obtain ⟨c, ec⟩ : ∃ c, c = L[j] := ⟨_, rfl⟩
                  rw [← ec] at z0 z1 z2 hoc
                  have HRC : Hid (∀ W, ReadV W g3 L → W.cell? ⟨g3, j * 3, none⟩ = some (.int .i64 c.k) ∧ W.cell? ⟨g3, j * 3 + 1, none⟩ = some (.int .i64 c.n) ∧ W.cell? ⟨g3, j * 3 + 2, none⟩ = some (.string c.t)) := fun W hW => by
                    have := hW.cells j (by omega)
                    rwa [← ec] at this
                  obtain ⟨P, hP⟩ : ∃ P, P = ordV 5 ⟨bk, bn, bt⟩ c := ⟨_, rfl⟩
                  obtain ⟨Q, hQ⟩ : ∃ Q, Q = ordV 5 ⟨ak, an, at'⟩ c := ⟨_, rfl⟩
                  have htr : N ≤ 0 → P ≤ 0 → Q ≤ 0 := by rw [hP, hQ]; exact HTR.out c
                  have KP0 : ∀ W : World, Calls Tryd.prog 7 #[.agg #[.int .i64 bk, .int .i64 bn, .string bt], .agg #[.int .i64 c.k, .int .i64 c.n, .string c.t]] W fun e w' => e = .returned (.tuple #[.int .i64 P, .int .i64 0]) ∧ Below W.heap.size W w' := fun W => by rw [hP]; exact implOrd ⟨bk, bn, bt⟩ c HOB.out hoc W
                  have KQ0 : ∀ W : World, Calls Tryd.prog 7 #[.agg #[.int .i64 ak, .int .i64 an, .string at'], .agg #[.int .i64 c.k, .int .i64 c.n, .string c.t]] W fun e w' => e = .returned (.tuple #[.int .i64 Q, .int .i64 0]) ∧ Below W.heap.size W w' := fun W => by rw [hQ]; exact implOrd ⟨ak, an, at'⟩ c HOA.out hoc W
                  have KP : Hid _ := KP0
                  have KQ : Hid _ := KQ0
                  have HTQ : Hid _ := htr
                  have HRS : Hid (ReadV _ _ _) := hrs
                  have HX4 : Hid (Two _ _ _ _ _ _ _ _) := X4
                  have hlt4 := X4.lt
                  have hgs := hrs.lt
                  have u0 := X4.c0
                  have u1 := X4.c1
                  have u2 := X4.c2
                  have v0 := X4.d0
                  have v1 := X4.d1
                  have v2 := X4.d2
                  clear KP0 KQ0 hP hQ htr hrs X4 ec hoc HR7 HX3
                  go_wp2_with fail
                  go_region_with (go_at_call 7; refine (KP.out _).mono ?_; rintro e w8 ⟨rfl, hb⟩)
                  all_goals
                    have hb8 : Below wr.heap.size wr w8 := Below.trans (by (repeat (first | (with_reducible exact Below.refl _ _) | (with_reducible assumption) | (with_reducible apply below_drewN) | (with_reducible apply Below.drew) | ((with_reducible refine Below.setCell ?_ ?_ _); rotate_left; focus (first | (simp; done) | (simp; omega) | omega)) | ((with_reducible refine Below.alloc ?_ ?_ _); rotate_left; focus (first | (simp; done) | (simp; omega) | omega))))) (hb.mono (by simp))
                    have HX8 : Hid (Two _ _ _ _ _ _ _ _) := HX4.out.step hb8
                    have HR8 : Hid (ReadV _ _ _) := HRS.out.next hb8
                    clear hb hb8 u0 u1 u2 v0 v1 v2 z0 z1 z2
                    have u0 := HX8.out.c0
                    have u1 := HX8.out.c1
                    have u2 := HX8.out.c2
                    have hlt8 := HX8.out.lt
                    have hg8 := HR8.out.lt
                    obtain ⟨z0, z1, z2⟩ := HRC.out w8 HR8.out
                    go_wp2_with fail
                    go_region_with (go_at_call 7; refine (KQ.out _).mono ?_; rintro e w9 ⟨rfl, hb⟩)
                    all_goals
                      have hb9 : Below w8.heap.size w8 w9 := Below.trans (by (repeat (first | (with_reducible exact Below.refl _ _) | (with_reducible assumption) | (with_reducible apply below_drewN) | (with_reducible apply Below.drew) | ((with_reducible refine Below.setCell ?_ ?_ _); rotate_left; focus (first | (simp; done) | (simp; omega) | omega)) | ((with_reducible refine Below.alloc ?_ ?_ _); rotate_left; focus (first | (simp; done) | (simp; omega) | omega))))) (hb.mono (by simp))
                      have HX9 : Hid (Two _ _ _ _ _ _ _ _) := HX8.out.step hb9
                      have HR9 : Hid (ReadV _ _ _) := HR8.out.next hb9
                      clear hb hb9 u0 u1 u2 z0 z1 z2
                      by_cases hN0' : N ≤ 0
                      · by_cases hP0 : P ≤ 0
                        · have hQ0 : Q ≤ 0 := HTQ.out hN0' hP0
                          go_wp2_with fail
                          go_roundw
                          case rel => exact ⟨j + 1, by omega, by go_num, HR9.out, HX9.out⟩
                          case measure => simp [intOf]; omega
                        · go_wp2_with fail
                          go_roundw
                          case rel => exact ⟨j + 1, by omega, by go_num, HR9.out, HX9.out⟩
                          case measure => simp [intOf]; omega
                      · go_wp2_with fail
                        go_roundw
                        case rel => exact ⟨j + 1, by omega, by go_num, HR9.out, HX9.out⟩
                        case measure => simp [intOf]; omega
                · obtain rfl : j = 6 := by omega
                  have HBW : Hid (Below _ _ _) := X4.bel
                  have HRS : Hid (ReadV _ _ _) := hrs
                  clear hrs X4 HR7 HX3
                  go_wp2_with fail
                  go_roundw
                  case rel => exact ⟨q + 1, by omega, by go_num, HRS.out, HB2.out.trans (HBW.out.mono hzr)⟩
                  case measure => simp [intOf]; omega
        · obtain rfl : q = 6 := by omega
          clear hr
          go_wp2_with fail
          go_roundw
          case rel => exact ⟨p + 1, by omega, by go_num, HR2.out, HB2.out⟩
          case measure => simp [intOf]; omega
    · obtain rfl : p = 6 := by omega
      have hoa := HA.out L[0] (List.getElem_mem _)
      obtain ⟨x0, x1, x2⟩ := HR.out.cells 0 (by omega)
      obtain ⟨a, ea⟩ : ∃ a, a = L[0] := ⟨_, rfl⟩
      rw [← ea] at hoa x0 x1 x2
      have hsm := ok_small a hoa
      have HRN : Hid (∀ W, Below wr.heap.size wr W → W.cell? ⟨g3, 0, none⟩ = some (.int .i64 a.k) ∧ W.cell? ⟨g3, 1, none⟩ = some (.int .i64 a.n) ∧ W.cell? ⟨g3, 2, none⟩ = some (.string a.t)) := fun W hb => by
        obtain ⟨z0, z1, z2⟩ := (HR.out.next hb).cells 0 (by omega)
        rw [← ea] at z0 z1 z2
        exact ⟨by simpa using z0, by simpa using z1, by simpa using z2⟩
      obtain ⟨P, hP⟩ : ∃ P, P = vtP ⟨a.k, a.n, a.t⟩ := ⟨_, rfl⟩
      have HS0 := fun W : World => specVT_any a.k a.n a.t W hsm
      have HI0 := fun (W : World) (hB : w.heap.size ≤ W.heap.size) (hT : Tab w.heap.size W) => implVT_any a.k a.n a.t W hsm w.heap.size hB hT
      rw [← hP] at HS0 HI0
      obtain ⟨p1, p2⟩ := P
      have HSS : Hid _ := HS0
      have HII : Hid _ := HI0
      clear HS0 HI0 hP x0 x1 x2 hoa ea
      obtain ⟨x0, x1, x2⟩ := HRN.out wr (Below.refl _ _)
      go_wp2_with fail
      refine (HII.out _ HB.out.size (Lib.TabBelow.on HT.out HB.out)).mono ?_
      rintro e w5 ⟨rfl, hb⟩
      obtain ⟨y0, y1, y2⟩ := HRN.out w5 hb
      have HB5 : Hid (Below _ _ _) := HB.out.trans (hb.mono HB.out.size)
      clear x0 x1 x2 hb
      go_wp2_with fail
      refine (HSS.out _).mono ?_
      rintro e w6 ⟨rfl, hb⟩
      have HB6 : Hid (Below _ _ _) := HB5.out.trans (hb.mono HB5.out.size)
      clear hb y0 y1 y2
      go_wp2_with fail
      go_ret
      exact ⟨rfl, HB6.out⟩

end Go.Proofs.YtejphhhmblpapaaDoor
