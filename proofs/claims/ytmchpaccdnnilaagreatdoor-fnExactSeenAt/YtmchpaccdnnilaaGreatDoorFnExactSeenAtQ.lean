/- At every collection and time the program's SeenAt answers as the specification's; it writes into no argument, and its answer owns its memory. -/
import Derived.Test.YtmchpaccdnnilaaGreatDoorColAQ
import Derived.Test.YtmchpaccdnnilaaGreatDoorRows
import Derived.Test.YtmchpaccdnnilaaGreatDoorTie
import Derived.Test.YtmchpaccdnnilaaGreatDoorCards
import Derived.LaidMore
import Derived.Lay
import Derived.Stop.Joined
import Derived.SevenTiedAt
import Derived.ProofKit
import Derived.OpenShut
import Derived.ShutString
import Derived.ChangeOld
import Derived.Below
import Derived.Lib.SmallJoins
namespace Go.Proofs.YtmchpaccdnnilaaGreatDoor
open Go.ChangeShapes Go.WideShapes Go.ChangeAt Go.RowKit Go.Joins
open Go.ChangeMaps (open_string shut_string)
set_option linter.unusedVariables false
namespace CollSeenf
open Tr Co

theorem bunder {w W W' : World} {base : Nat} {a b c : Value} (h : Boxed w W a b c) (hb : Below base W W') (hlt : w.heap.size < base) : Boxed w W' a b c :=
  ⟨h.bel.trans (hb.mono (Nat.le_of_lt hlt)), Nat.lt_of_lt_of_le h.lt hb.size, (hb.cell hlt).trans h.c0, (hb.cell hlt).trans h.c1, (hb.cell hlt).trans h.c2⟩
theorem seenR_len (c : Col) (snap : Int) : (seenR c snap).1.length ≤ 20 := by
  cases hB : collB c
  · rw [seenR_bad c snap hB]; exact Nat.zero_le _
  · rw [seenR_ok c snap hB]
    have h1 := seenG_len (fun x => (trP snap x.vs).1) c.chs
    have h2 := (collB_parts hB).2.2.2.1
    exact Nat.le_trans h1 h2
set_option maxRecDepth 8000 in
set_option maxHeartbeats 4000000 in
theorem walk (c : Col) (p q : Option Addr) (cp cq : Nat) (hm : MaxCol c) (snap : Int) {P : Prop} (wid : P) (w : World) (hin : InCol w p q c) :
    Calls Tryz.prog 4 #[.agg #[.string c.name, .slice p c.chs.length cp, .slice q c.dfs.length cq], .int .i64 snap] w fun e w' => e = .returned (.bool true) ∧ Below w.heap.size w w' := by
  have X0 := Boxed.start w (.string c.name) (.slice p c.chs.length cp) (.slice q c.dfs.length cq) 25
  have HIN : Hid (InCol w p q c) := hin
  have HZ : Hid (∀ W : World, InCol W p q c → Calls _ _ _ W _) := fun W hW => szColl_at c p q cp cq 1048576 W hW hm (by omega) (by omega)
  clear hin hm wid
  go_enter Tryz.func4, Tryz.ntmps4
  go_wp2_with fail
  refine (HZ.out _ (HIN.out.step X0.bel)).mono ?_
  rintro e w1 ⟨⟨r, rfl, hr⟩, hb⟩
  have X1 := X0.step hb
  clear hb HZ X0
  rcases hr with hneg | ⟨hr0, hr1, hsz⟩
  · have hbw := X1.bel
    go_wp2_with fail
    go_ret
    exact ⟨rfl, hbw⟩
  have hnn : ¬ r < 0 := by omega
  have HSZ : Hid (SzCol c) := hsz
  have HTO : Hid (∀ W : World, InCol W p q c → Calls _ _ _ W _) := fun W hW => toColl_any c p q cp cq W hW hsz
  have HS : Hid (∀ (g h : Nat) (W : World), RdC W g h c → Calls _ _ _ W _) := fun g h W hW => specSeen_any c snap g h c.chs.length c.dfs.length W hW hsz
  have HI : Hid (∀ (g h : Nat) (W : World), RdC W g h c → Calls _ _ _ W _) := fun g h W hW => seenAt_any c snap g h c.chs.length c.dfs.length W hW hsz
  have hL20 := seenR_len c snap
  obtain ⟨L, hL⟩ : ∃ L, L = seenR c snap := ⟨_, rfl⟩
  rw [← hL] at HS HI hL20
  clear hL hsz hr1
  have c0 := X1.c0
  have c1 := X1.c1
  have c2 := X1.c2
  go_wp2_with fail
  refine (HTO.out _ (HIN.out.step X1.bel)).mono ?_
  rintro e w2 ⟨⟨g2, h2, mid2, rfl, O2, P2, m2a, m2b⟩, hb⟩
  have X2 := X1.step hb
  have HO2 : Hid (RdC _ _ _ _) := rdC_of O2 P2
  clear hb X1 c0 c1 c2 O2 P2 m2a m2b
  go_wp2_with fail
  refine (HS.out g2 h2 _ HO2.out).mono ?_
  rintro e w3 ⟨⟨v0, rfl, ho0⟩, hb⟩
  have X3 := X2.step hb
  have HV3 : Hid (RVB _ _ _ _) := OV.rvb ho0
  have c0 := X3.c0
  have c1 := X3.c1
  have c2 := X3.c2
  clear hb X2 HO2 ho0 HS
  go_wp2_with fail
  refine (HTO.out _ (HIN.out.step X3.bel)).mono ?_
  rintro e w4 ⟨⟨g4, h4, mid4, rfl, O4, P4, m4a, m4b⟩, hb⟩
  have hbA : Below w4.heap.size w4 (w4.alloc (.cells #[.string c.name, .slice (some ⟨g4, 0, none⟩) c.chs.length c.chs.length, .slice (some ⟨h4, 0, none⟩) c.dfs.length c.dfs.length] 31)) := (Below.refl _ _).alloc (Nat.le_refl _) _
  have X5 := (X3.step hb).step hbA
  have HO5 : Hid (RdC _ _ _ _) := (rdC_of O4 P4).next hbA
  have HCH5 : Hid (OwnChH _ _ _ _ _) := O4.next hbA
  have HDF5 : Hid (OwnDfH _ _ _ _ _) := P4.next hbA
  have HV5 : Hid (RVB _ _ _ _) := (HV3.out.step hb).step (hbA.mono hb.size)
  have hlo3 : w.heap.size < w3.heap.size := X3.lt
  have x5 : (w4.alloc (.cells #[.string c.name, .slice (some ⟨g4, 0, none⟩) c.chs.length c.chs.length, .slice (some ⟨h4, 0, none⟩) c.dfs.length c.dfs.length] 31)).cell? ⟨w4.heap.size, 0, none⟩ = some (.string c.name) := by simp [go_sem]
  have y5 : (w4.alloc (.cells #[.string c.name, .slice (some ⟨g4, 0, none⟩) c.chs.length c.chs.length, .slice (some ⟨h4, 0, none⟩) c.dfs.length c.dfs.length] 31)).cell? ⟨w4.heap.size, 1, none⟩ = some (.slice (some ⟨g4, 0, none⟩) c.chs.length c.chs.length) := by simp [go_sem]
  have z5 : (w4.alloc (.cells #[.string c.name, .slice (some ⟨g4, 0, none⟩) c.chs.length c.chs.length, .slice (some ⟨h4, 0, none⟩) c.dfs.length c.dfs.length] 31)).cell? ⟨w4.heap.size, 2, none⟩ = some (.slice (some ⟨h4, 0, none⟩) c.dfs.length c.dfs.length) := by simp [go_sem]
  have m5 : w4.heap.size < (w4.alloc (.cells #[.string c.name, .slice (some ⟨g4, 0, none⟩) c.chs.length c.chs.length, .slice (some ⟨h4, 0, none⟩) c.dfs.length c.dfs.length] 31)).heap.size := by simp
  clear hb X3 O4 P4 hbA c0 c1 c2 HV3
  go_wp2_with fail
  generalize w4.alloc (.cells #[.string c.name, .slice (some ⟨g4, 0, none⟩) c.chs.length c.chs.length, .slice (some ⟨h4, 0, none⟩) c.dfs.length c.dfs.length] 31) = W5 at X5 HV5 HO5 HCH5 HDF5 x5 y5 z5 m5 ⊢
  obtain ⟨bx, hbx⟩ : ∃ bx, bx = w4.heap.size := ⟨_, rfl⟩
  obtain ⟨lo, hlo⟩ : ∃ lo, lo = w3.heap.size := ⟨_, rfl⟩
  rw [← hbx] at x5 y5 z5 m5 m4b HDF5 ⊢
  rw [← hlo] at HV5 HCH5 hlo3 m4a
  clear hbx hlo
  refine (HI.out g4 h4 _ HO5.out).mono ?_
  rintro e w6' ⟨⟨v6, rfl, ho6⟩, hb⟩
  have HG6' : Hid (OV _ _ _ _) := ho6
  have X6' := X5.step hb
  have HV6' : Hid (RVB _ _ _ _) := HV5.out.step (hb.mono (by omega))
  have HO6' : Hid (RdC _ _ _ _) := HO5.out.next hb
  have HCH6' : Hid (OwnChH _ _ _ _ _) := HCH5.out.next hb
  have HDF6' : Hid (OwnDfH _ _ _ _ _) := HDF5.out.next hb
  have x6' := (hb.cell m5).trans x5
  have y6' := (hb.cell m5).trans y5
  have z6' := (hb.cell m5).trans z5
  have m6' := Nat.lt_of_lt_of_le m5 hb.size
  obtain ⟨B5, hB5⟩ : ∃ B5, B5 = W5.heap.size := ⟨_, rfl⟩
  have hB56 : B5 ≤ w6'.heap.size := by rw [hB5]; exact hb.size
  rw [← hB5] at HG6' m5
  clear hb X5 HV5 HO5 HCH5 HDF5 x5 y5 z5 ho6 hB5
  go_wp2_with fail
  refine (eqV_any v6 v0 L.1 w6' HG6'.out.rv HV6'.out.rv (by omega)).mono ?_
  rintro e w6 ⟨rfl, hb⟩
  have hz66 := hb.size
  have X6 := X6'.step hb
  have HG6 : Hid (OV _ _ _ _) := HG6'.out.next hb
  have HV6 : Hid (RVB _ _ _ _) := HV6'.out.step (hb.mono (by omega))
  have HO6 : Hid (RdC _ _ _ _) := HO6'.out.next hb
  have HCH6 : Hid (OwnChH _ _ _ _ _) := HCH6'.out.next hb
  have HDF6 : Hid (OwnDfH _ _ _ _ _) := HDF6'.out.next hb
  have x6 := (hb.cell m6').trans x6'
  have y6 := (hb.cell m6').trans y6'
  have z6 := (hb.cell m6').trans z6'
  have m6 := Nat.lt_of_lt_of_le m6' hb.size
  clear hb X6' HG6' HV6' HO6' HCH6' HDF6' x6' y6' z6'
  go_wp2_with fail
  go_region_held3 (fun w0 => w0.cell? ⟨w.heap.size, 0, none⟩ = some (.string c.name) ∧ w0.cell? ⟨w.heap.size, 1, none⟩ = some (.slice p c.chs.length cp) ∧ w0.cell? ⟨w.heap.size, 2, none⟩ = some (.slice q c.dfs.length cq) ∧ w0.cell? ⟨bx, 0, none⟩ = some (.string c.name) ∧ w0.cell? ⟨bx, 1, none⟩ = some (.slice (some ⟨g4, 0, none⟩) c.chs.length c.chs.length) ∧ w0.cell? ⟨bx, 2, none⟩ = some (.slice (some ⟨h4, 0, none⟩) c.dfs.length c.dfs.length)) ((refine keepC X6 m6 x6 y6 z6 ?_; (repeat (first | (with_reducible exact Below.refl _ _) | (with_reducible assumption) | (with_reducible apply below_drewN) | (with_reducible apply Below.drew) | ((with_reducible refine Below.setCell ?_ ?_ _); rotate_left; focus (first | (simp; done) | (simp; omega) | omega)) | ((with_reducible refine Below.alloc ?_ ?_ _); rotate_left; focus (first | (simp; done) | (simp; omega) | omega)))))) (first | (go_at_call 11; refine (HTO.out _ (HIN.out.step (X6.bel.trans ((show Below w6.heap.size w6 _ by (repeat (first | (with_reducible exact Below.refl _ _) | (with_reducible assumption) | (with_reducible apply below_drewN) | (with_reducible apply Below.drew) | ((with_reducible refine Below.setCell ?_ ?_ _); rotate_left; focus (first | (simp; done) | (simp; omega) | omega)) | ((with_reducible refine Below.alloc ?_ ?_ _); rotate_left; focus (first | (simp; done) | (simp; omega) | omega))))).mono X6.bel.size)))).mono ?_; rintro e w7 ⟨⟨g7, h7, mid7, rfl, O7, P7, m7a, m7b⟩, hb⟩; have hB7 : Below w6.heap.size w6 w7 := (show Below w6.heap.size w6 _ by (repeat (first | (with_reducible exact Below.refl _ _) | (with_reducible assumption) | (with_reducible apply below_drewN) | (with_reducible apply Below.drew) | ((with_reducible refine Below.setCell ?_ ?_ _); rotate_left; focus (first | (simp; done) | (simp; omega) | omega)) | ((with_reducible refine Below.alloc ?_ ?_ _); rotate_left; focus (first | (simp; done) | (simp; omega) | omega))))).trans (hb.mono (by simp)); have HO7 : Hid (RdCol w7 g7 h7 c) := rdCol_of O7 P7; clear hb O7 P7 m7a m7b) | (go_at_call 13; refine (eqColl_same c.name _ _ _ _ _ _ _ _ c.chs c.dfs _ (HO6.out.next hB7).rd.ch HO7.out.ch (HO6.out.next hB7).rd.df HO7.out.df HSZ.out.chl HSZ.out.vs HSZ.out.dfl HSZ.out.ps).mono ?_; rintro e w8 ⟨rfl, hb⟩; have hB8 : Below w6.heap.size w6 w8 := hB7.trans (hb.mono hB7.size); clear hb))
  have X8 := X6.step hB8
  have HG8 : Hid (OV _ _ _ _) := HG6.out.next hB8
  have hz8 := hB8.size
  have HV8 : Hid (RVB _ _ _ _) := HV6.out.step (hB8.mono (by omega))
  have HCH8 : Hid (OwnChH _ _ _ _ _) := HCH6.out.next hB8
  have HDF8 : Hid (OwnDfH _ _ _ _ _) := HDF6.out.next hB8
  have x8 := (hB8.cell m6).trans x6
  have y8 := (hB8.cell m6).trans y6
  have z8 := (hB8.cell m6).trans z6
  clear hB7 hB8 HO7 X6 HG6 HV6 HO6 HCH6 HDF6 x6 y6 z6
  go_wp2_with fail
  refine (markColl_any c.name lo mid4 bx _ _ c.chs c.dfs w8 HCH8.out HDF8.out m4a m4b (by omega) HSZ.out.chl HSZ.out.vs HSZ.out.dfl HSZ.out.ps).mono ?_
  rintro e w9 ⟨rfl, _, _, hc⟩
  obtain ⟨E, hE⟩ : ∃ E, E = endDf (endCh 1 c.chs) c.dfs := ⟨_, rfl⟩
  rw [← hE]
  have hE0 : ¬ ((E : Nat) : Int) < 0 := by omega
  have hBl : Below lo w8 w9 := hc.below (Nat.le_refl _) (by omega)
  have X9 := bunder X8 hBl hlo3
  have HG9 : Hid (OV _ _ _ _) := HG8.out.chg hc (by omega)
  have HV9 : Hid (RVB _ _ _ _) := HV8.out.step hBl
  have hz9 := hc.size
  clear hE hc hBl X8 HG8 HV8 HCH8 HDF8 x8 y8 z8
  go_wp2_with fail
  refine (eqV_any v6 v0 L.1 w9 HG9.out.rv HV9.out.rv (by omega)).mono ?_
  rintro e w10 ⟨rfl, hb⟩
  have X10 := X9.step hb
  have HG10 : Hid (OV _ _ _ _) := HG9.out.next hb
  have HV10 : Hid (RVB _ _ _ _) := HV9.out.step (hb.mono (by omega))
  have hz10 := hb.size
  clear hb X9 HG9 HV9
  go_wp2_with fail
  refine (markV_any B5 v6 L.1 w10 HG10.out (by omega) (by omega)).mono ?_
  rintro e w11 ⟨rfl, ho11, hb⟩
  have X11 := bunder X10 hb (by omega)
  have HG11 : Hid (OV _ _ _ _) := ho11
  have HV11 : Hid (RVB _ _ _ _) := HV10.out.step (hb.mono (by omega))
  have hz11 := hb.size
  have hpos : ¬ (1 + 3 * (L.1.length : Int)) < 0 := by omega
  clear hb X10 HG10 HV10 ho11
  go_wp2_with fail
  refine (heldV_any v6 L.1.length w11 HG11.out.rv (by omega)).mono ?_
  rintro e w12 ⟨rfl, hb⟩
  have X12 := X11.step hb
  have HG12 : Hid (OV _ _ _ _) := HG11.out.next hb
  have HV12 : Hid (RVB _ _ _ _) := HV11.out.step (hb.mono (by omega))
  have hz12 := hb.size
  have c0 := X12.c0
  have c1 := X12.c1
  have c2 := X12.c2
  clear hb X11 HG11 HV11
  go_wp2_with fail
  refine (HTO.out _ (HIN.out.step X12.bel)).mono ?_
  rintro e w13 ⟨⟨g13, h13, mid13, rfl, O13, P13, _, _⟩, hb⟩
  have X13 := X12.step hb
  have HO13 : Hid (RdC _ _ _ _) := rdC_of O13 P13
  have HG13 : Hid (OV _ _ _ _) := HG12.out.next hb
  have HV13 : Hid (RVB _ _ _ _) := HV12.out.step (hb.mono (by omega))
  have hz13 := hb.size
  clear hb X12 HG12 HV12 O13 P13 c0 c1 c2
  go_wp2_with fail
  refine (HI.out g13 h13 _ HO13.out).mono ?_
  rintro e w14 ⟨⟨v14, rfl, ho14⟩, hb⟩
  have X14 := X13.step hb
  have HH14 : Hid (RV _ _ _) := OV.rv ho14
  have HG14 : Hid (OV _ _ _ _) := HG13.out.next hb
  have HV14 : Hid (RVB _ _ _ _) := HV13.out.step (hb.mono (by omega))
  have hz14 := hb.size
  clear hb X13 HG13 HV13 ho14 HO13
  go_wp2_with fail
  refine (eqV_any v14 v0 L.1 w14 HH14.out HV14.out.rv (by omega)).mono ?_
  rintro e w15 ⟨rfl, hb⟩
  have X15 := X14.step hb
  have HG15 : Hid (OV _ _ _ _) := HG14.out.next hb
  clear hb X14 HG14 HV14 HH14
  go_wp2_with fail
  refine (heldV_any v6 L.1.length w15 HG15.out.rv (by omega)).mono ?_
  rintro e w16 ⟨rfl, hb⟩
  have hbw := (X15.step hb).bel
  clear hb X15 HG15
  go_wp2_with fail
  go_ret
  exact ⟨rfl, hbw⟩

theorem own : ownKnob Tryz.prog.godebug = none := by kernel_rfl
theorem laidOut : laidOutB Tryz.prog = true := by kernel_rfl

set_option maxRecDepth 100000 in
theorem lifted (os : Os) (started : os.Started) (H : Type) (enc : TypeId × Value → H) :
    ReturnsInHanded {} Tryz.checked os 4 .any (fun w args => (Rows.fnExactSeenAtSpec.pre enc Tryz.prog Tryz.f4 Rows.fnExactSeenAtRow.domain false w args ∧ laidMetH Tryz.prog Rows.fnExactSeenAtRow.laid w) ∧ sizedMet enc Tryz.prog Tryz.f4 (OpenSpec.ofChange Rows.fnExactSeenAtSpec) false w args)
      (Rows.fnExactSeenAtSpec.post enc Tryz.prog Tryz.f4 false true false false) := by
  refine returnsInHanded_of_change_and (C := Tryz.checked) (X := fun w _ => laidMetH Tryz.prog Rows.fnExactSeenAtRow.laid w) (fun _ _ _ hh h => h.of_heap hh) own started (by kernel_rfl) Tryz.func4
    (ChangeSpec.witness_shaped (enc := enc) (C := Tryz.checked) (os := os) (X := fun w _ => laidMetH Tryz.prog Rows.fnExactSeenAtRow.laid w) false (World.laidAll Tryz.prog os Rows.fnExactSeenAtRow.laid) #[.agg #[.string ByteArray.empty, .slice none 0 0, .slice none 0 0], .int .i64 0] 8 (World.laidAll_os _ _ _)
      (World.shaped_of_ZipB (by kernel_rfl) (by kernel_rfl)) (by kernel_rfl) (by kernel_rfl) (by kernel_rfl)
      (by rw [MakeChecks.laidMetH_plain _ _ _ (by kernel_rfl)]; exact laidMet_laidAll _ (by kernel_rfl) (by kernel_rfl))) ?_
  intro W base args ds gs before hval0 hW hcnd _ hL _
  have hval : ∀ (j : Nat) t v, Tryz.f4.params[j]? = some t → args[j]? = some v → Value.okWide Tryz.prog W .any base t v := hval0
  have hW' := hW
  obtain ⟨p, q, hA0, hV, rfl, hfz, hnd⟩ := hW
  have hA : DataW.TrodAll enc Tryz.prog W 0 (fun _ => true) true Tryz.f4.params.toList args.toList ds p := hA0
  rw [Tryz.params4] at hA hval
  obtain ⟨v0, vs0, d0, ds0, p0, q0, hargs, rfl, rfl, h0, r0⟩ := trodAll_cons hA
  obtain ⟨v1, vs1, d1, ds1, p1, q1, rfl, rfl, rfl, h1, r1⟩ := trodAll_cons r0
  obtain ⟨rfl, rfl, rfl⟩ := trodAll_nil r1
  obtain rfl : args = #[v0, v1] := by cases args; simp_all
  obtain ⟨rfl, rfl⟩ := trodVars_none hV
  have k0 := h0
  have lt0 : ∀ x ∈ p0, x.block < W.heap.size := by obtain ⟨m, hm⟩ := k0; exact DataW.trod_lt m _ _ _ hm
  obtain ⟨cc0, p0c, q0c, cp0, cq0, rfl, hm0, i0⟩ := open_coll (hval 0 25 v0 rfl rfl) h0
  have k1 := h1
  have lt1 : ∀ x ∈ p1, x.block < W.heap.size := by obtain ⟨m, hm⟩ := k1; exact DataW.trod_lt m _ _ _ hm
  obtain ⟨a1, rfl, e11, e12, wa1⟩ := open_int Tryz.underlying3 (hval 1 3 v1 rfl rfl) h1
  clear hA0 hval0
  refine (walk cc0 p0c q0c cp0 cq0 hm0 a1 wa1 W i0).mono fun e W' ⟨he, bel⟩ => ?_
  subst he
  exact ⟨_, rfl, _, _, _, [], _, [], hW', trodAll_mk1 (shut_bool Tryz.underlying4 _), (trodAll_cons_mk (Below.trod laidOut (by kernel_rfl) (of_decide_eq_true (by kernel_rfl)) k0 bel lt0) (trodAll_cons_mk (Below.trod laidOut (by kernel_rfl) (of_decide_eq_true (by kernel_rfl)) k1 bel lt1) trodAll_mk0)), rfl, bel.frame _, fun h => by cases h⟩
end CollSeenf

theorem fnExactSeenAt_row : Rows.FnExactSeenAtSaid :=
  OpenClaim.holds_of_wide 4 Tryz.f4 rfl rfl rfl rfl rfl rfl rfl ⟨rfl, rfl, rfl, rfl, rfl⟩ rfl rfl rfl rfl rfl (by kernel_rfl) Tryz.func4 (by kernel_rfl)
    (of_decide_eq_true (by kernel_rfl)) (by unfold Func.isWrapper; first | (rw [if_pos (by decide +kernel)]; kernel_rfl) | (rw [if_neg (by decide +kernel)]; exact ⟨rfl, rfl⟩))
    (fun os started H enc _ => CollSeenf.lifted os started H enc)
theorem fnExactSeenAt_holds : Rows.FnExactSeenAtCardSaid :=
  Claim7.holds_tied_plain_at .later [] [.data, .pinned] true (true, "b210bda4b009971b6d568a6468f85d98af7cb3c0458082e4f51a9556c69ed204") false
    fnExactSeenAt_row (fun _ h => by cases h) (by kernel_rfl) (fun _ h => by cases h) fnExactSeenAt_row_tie rfl ⟨rfl, rfl⟩ (by kernel_rfl) rfl
    (fun f fn hf hfn => by
      obtain rfl : f = 4 := Option.some.inj ((show Tryz.prog.funcNamed "loop.example/g00380/laws.FnExactSeenAt" = some 4 by kernel_rfl).symm.trans hf) |>.symm
      obtain rfl : fn = Tryz.f4 := (Option.some.inj (Tryz.func4.symm.trans hfn)).symm
      exact ⟨by kernel_rfl, fun j t ht => by
        rw [Tryz.params4] at ht
        have hm : t ∈ [25, 3] := by simpa using Array.mem_of_getElem? ht
        have hall : ([25, 3].all fun u => !Tryz.prog.wantsStandIn u) = true := by kernel_rfl
        exact (show Tryz.prog.wantsStandIn t = false by simpa using List.all_eq_true.1 hall t hm)⟩)
    (by kernel_rfl)
#print axioms fnExactSeenAt_holds
end Go.Proofs.YtmchpaccdnnilaaGreatDoor
