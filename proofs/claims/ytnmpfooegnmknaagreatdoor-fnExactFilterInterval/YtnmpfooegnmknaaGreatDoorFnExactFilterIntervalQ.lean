/- At every filter and path the program's FilterInterval answers as the specification's, field by field; it writes into no argument; the library's tables that the row lists are as its text lays them. -/
import Derived.Test.YtnmpfooegnmknaaGreatDoorRowDQ
import Derived.Test.YtnmpfooegnmknaaGreatDoorRows
import Derived.Test.YtnmpfooegnmknaaGreatDoorTie
import Derived.Test.YtnmpfooegnmknaaGreatDoorCards
import Derived.LaidMore
import Derived.Lay
import Derived.Stop.Joined
import Derived.SevenTiedAt
import Derived.ProofKit
import Derived.OpenShut
import Derived.ShutString
import Derived.ChangeOld
import Derived.Below
import Derived.Lib.SmallJoins
namespace Go.Proofs.YtnmpfooegnmknaaGreatDoor
open Go.ChangeShapes Go.WideShapes Go.ChangeAt Go.RowKit Go.Joins
open Go.ChangeMaps (open_string shut_string)
set_option linter.unusedVariables false
namespace FilIntf
open Tr Fi

set_option maxRecDepth 8000 in
set_option maxHeartbeats 8000000 in
theorem walk (a : Option Addr) (cap : Nat) (f : List (List Trm)) (hl : f.length ≤ maxLen) (hs : ∀ l ∈ f, maxC l) (pt : Prt) (ht : pt.path.size ≤ maxLen) (w : World) (hin : InCl w a f) :
    Calls Tryz.prog 5 #[.agg #[.slice a f.length cap], .agg #[.string pt.path, .bool pt.desc]] w fun e w' => e = .returned (.bool true) ∧ Below w.heap.size w w' := by
  have X0 := FP.start w (.slice a f.length cap) pt 67 69
  have HIN : Hid (InCl w a f) := hin
  have HZ : Hid (∀ W : World, InCl W a f → Calls _ _ _ W _) := fun W hW => szFilter_any a cap f 1048576 W hW hl hs (by omega) (by omega)
  clear hin hs
  go_enter Tryz.func5, Tryz.ntmps5
  go_wp2_with fail
  refine (HZ.out _ (HIN.out.step X0.bel)).mono ?_
  rintro e w1 ⟨⟨r, rfl, hr⟩, hb⟩
  have X1 := X0.step hb
  clear hb HZ X0
  rcases hr with hneg | ⟨hr0, hr1, hr2, hr3⟩
  · have hbw := X1.bel
    go_wp2_with fail
    go_ret
    exact ⟨rfl, hbw⟩
  have hnn : ¬ r < 0 := by omega
  have HSZ : Hid (∀ l ∈ f, szC l) := hr3
  have HSL : Hid (∀ l ∈ f, l.length ≤ 1048576) := fun l hl => (hr3 l hl).1
  clear hr3
  have f0 := X1.p0
  have f1 := X1.p1
  go_wp2_with fail
  refine (szPart_any pt.path pt.desc _ _ ht hr0 (by omega)).mono ?_
  rintro e w2 ⟨⟨r2, rfl, hr'⟩, hb⟩
  have X2 := X1.step hb
  clear hb X1 f0 f1
  rcases hr' with hneg2 | ⟨hq0, hq1, h2⟩
  · have hbw := X2.bel
    go_wp2_with fail
    go_ret
    exact ⟨rfl, hbw⟩
  have hnn2 : ¬ r2 < 0 := by omega
  have HS0 : ∀ (p : Option Addr) (c : Nat) (W : World), RowC W p f → Calls Tryz.prog 32 #[.agg #[.slice p f.length c], .agg #[.string pt.path, .bool pt.desc]] W fun e w' => e = .returned (.tuple #[.agg #[.string (filtI pt f).1.lo, .string (filtI pt f).1.hi, .bool (filtI pt f).1.op], .int .i64 (filtI pt f).2]) ∧ Below W.heap.size W w' := fun p c W hW => specFiltInt_any p c f pt W hW hr2 HSZ.out h2
  have HI0 : ∀ (p : Option Addr) (W : World), RowC W p f → Calls Tryz.prog 35 #[.agg #[.slice p f.length f.length], .agg #[.string pt.path, .bool pt.desc]] W fun e w' => e = .returned (.tuple #[.agg #[.string (filtI pt f).1.lo, .string (filtI pt f).1.hi, .bool (filtI pt f).1.op], .int .i64 (filtI pt f).2]) ∧ Below W.heap.size W w' := fun p W hW => implFiltInt_any p f.length f pt W hW hr2 (Nat.le_refl _) HSZ.out h2
  obtain ⟨⟨⟨il, ih, io⟩, ic⟩, hP⟩ : ∃ P, P = filtI pt f := ⟨_, rfl⟩
  rw [← hP] at HS0 HI0
  simp only at HS0 HI0
  have HS : Hid _ := HS0
  have HI : Hid _ := HI0
  clear HS0 HI0 hP
  have hz2 := X2.lt
  go_wp2_with fail
  go_cut [6, 7] (fun s6 s7 wx => ∃ bs, s6 = .pointer (some ⟨bs, 0, none⟩) ∧ s7 = .int .i64 ic ∧ RI w2 wx bs (.string il) (.string ih) (.bool io))
  case first =>
    go_region_held3 (fun w0 => w0.cell? ⟨w.heap.size, 0, none⟩ = some (.slice a f.length cap) ∧ w0.cell? ⟨w.heap.size + 1, 0, none⟩ = some (.string pt.path) ∧ w0.cell? ⟨w.heap.size + 1, 1, none⟩ = some (.bool pt.desc)) ((refine keepFP X2 ?_; (repeat (first | (with_reducible exact Below.refl _ _) | (with_reducible assumption) | (with_reducible apply below_drewN) | (with_reducible apply Below.drew) | ((with_reducible refine Below.setCell ?_ ?_ _); rotate_left; focus (first | (simp; done) | (simp; omega) | omega)) | ((with_reducible refine Below.alloc ?_ ?_ _); rotate_left; focus (first | (simp; done) | (simp; omega) | omega)))))) (first | (go_at_call 33; refine (toFilter_any a cap f _ (HIN.out.step (X2.bel.trans ((show Below w2.heap.size w2 _ by (repeat (first | (with_reducible exact Below.refl _ _) | (with_reducible assumption) | (with_reducible apply below_drewN) | (with_reducible apply Below.drew) | ((with_reducible refine Below.setCell ?_ ?_ _); rotate_left; focus (first | (simp; done) | (simp; omega) | omega)) | ((with_reducible refine Below.alloc ?_ ?_ _); rotate_left; focus (first | (simp; done) | (simp; omega) | omega))))).mono X2.bel.size))) hr2 HSL.out).mono ?_; rintro e w3 ⟨⟨g3, rfl, R3⟩, hb⟩; have hB3 : Below w2.heap.size w2 w3 := (show Below w2.heap.size w2 _ by (repeat (first | (with_reducible exact Below.refl _ _) | (with_reducible assumption) | (with_reducible apply below_drewN) | (with_reducible apply Below.drew) | ((with_reducible refine Below.setCell ?_ ?_ _); rotate_left; focus (first | (simp; done) | (simp; omega) | omega)) | ((with_reducible refine Below.alloc ?_ ?_ _); rotate_left; focus (first | (simp; done) | (simp; omega) | omega))))).trans (hb.mono (by first | (simp; done) | (simp; omega) | omega)); have hzB3 := hB3.size; (try with_reducible have Z3 := one3 (W := w2) hb); (try with_reducible have Z3 := one3d (W := w2) hb); (try with_reducible have Z3 := one3e (W := w2) hb); have HR3 : Hid (ReadC _ _ _) := R3; clear R3 hb) | (go_at_call 34; refine (toPart_any pt.path pt.desc _).mono ?_; rintro e w4 ⟨rfl, hb⟩; have hB34 : Below w3.heap.size w3 w4 := (show Below w3.heap.size w3 _ by (repeat (first | (with_reducible exact Below.refl _ _) | (with_reducible assumption) | (with_reducible apply below_drewN) | (with_reducible apply Below.drew) | ((with_reducible refine Below.setCell ?_ ?_ _); rotate_left; focus (first | (simp; done) | (simp; omega) | omega)) | ((with_reducible refine Below.alloc ?_ ?_ _); rotate_left; focus (first | (simp; done) | (simp; omega) | omega))))).trans (hb.mono (by first | (simp; done) | (simp; omega) | omega)); have hB4 : Below w2.heap.size w2 w4 := hB3.trans (hB34.mono hB3.size); have hzB4 := hB4.size; have hzB34 := hB34.size; (try with_reducible have Z4 := one3 (W := w3) hb); (try with_reducible have Z4 := one3d (W := w3) hb); (try with_reducible have Z4 := one3e (W := w3) hb); (try with_reducible have Z4 := Z3.step hB34); have HR4 : Hid (ReadC _ _ _) := HR3.out.next hB34; clear hb hB34) | (go_at_call 32; refine (HS.out _ _ _ (.inr ⟨g3, rfl, HR4.out.next (by (repeat (first | (with_reducible exact Below.refl _ _) | (with_reducible assumption) | (with_reducible apply below_drewN) | (with_reducible apply Below.drew) | ((with_reducible refine Below.setCell ?_ ?_ _); rotate_left; focus (first | (simp; done) | (simp; omega) | omega)) | ((with_reducible refine Below.alloc ?_ ?_ _); rotate_left; focus (first | (simp; done) | (simp; omega) | omega)))))⟩)).mono ?_; rintro e w5 ⟨rfl, hb⟩; have hB45 : Below w4.heap.size w4 w5 := (show Below w4.heap.size w4 _ by (repeat (first | (with_reducible exact Below.refl _ _) | (with_reducible assumption) | (with_reducible apply below_drewN) | (with_reducible apply Below.drew) | ((with_reducible refine Below.setCell ?_ ?_ _); rotate_left; focus (first | (simp; done) | (simp; omega) | omega)) | ((with_reducible refine Below.alloc ?_ ?_ _); rotate_left; focus (first | (simp; done) | (simp; omega) | omega))))).trans (hb.mono (by first | (simp; done) | (simp; omega) | omega)); have hB5 : Below w2.heap.size w2 w5 := hB4.trans (hB45.mono hB4.size); have hzB5 := hB5.size; have hzB45 := hB45.size; (try with_reducible have Z5 := one3 (W := w4) hb); (try with_reducible have Z5 := one3d (W := w4) hb); (try with_reducible have Z5 := one3e (W := w4) hb); (try with_reducible have Z5 := Z4.step hB45); (try (have qz0 := Z5.c0; have qz1 := Z5.c1; have qz2 := Z5.c2; have qz3 := Z5.f0; have qz4 := Z5.f1; have qz5 := Z5.f2; have qz6 := Z5.lt)); clear hb hB45))
    all_goals
      try go_wp2_with fail
      go_meet
      refine ⟨_, rfl, rfl, ?_⟩
      first
        | with_reducible exact RI.late hB5
        | (with_reducible refine RI.early Z5 hB5 ?_; (first | omega | (simp; done) | (simp; omega)))
  case rest =>
  obtain ⟨bs, rfl, rfl, X5⟩ := hcut
  have X6 := X2.step X5.bel
  have hI5 := X5.i
  have k5 := X6.c0
  clear X2 X5
  generalize wc = W6 at X6 hI5 k5 ⊢
  go_wp2_with fail
  refine (toFilter_any a cap f _ (HIN.out.step X6.bel) hr2 HSL.out).mono ?_
  rintro e w6 ⟨⟨g6, rfl, R6⟩, hb⟩
  have hbA : Below W6.heap.size W6 (w6.alloc (.cells #[.slice (some ⟨g6, 0, none⟩) f.length f.length] 75)) := hb.alloc hb.size _
  have X7 := X6.step hbA
  have HR7 : Hid (ReadC _ _ _) := R6.next ((Below.refl _ _).alloc (Nat.le_refl _) (.cells #[.slice (some ⟨g6, 0, none⟩) f.length f.length] 75))
  have hI7 := hI5.step hbA
  have x7 : (w6.alloc (.cells #[.slice (some ⟨g6, 0, none⟩) f.length f.length] 75)).cell? ⟨w6.heap.size, 0, none⟩ = some (.slice (some ⟨g6, 0, none⟩) f.length f.length) := by simp [go_sem]
  have m7 : w6.heap.size < (w6.alloc (.cells #[.slice (some ⟨g6, 0, none⟩) f.length f.length] 75)).heap.size := by simp
  clear hb hbA X6 R6 k5 hI5
  go_wp2_with fail
  generalize w6.alloc (.cells #[.slice (some ⟨g6, 0, none⟩) f.length f.length] 75) = W7 at X7 HR7 hI7 x7 m7 ⊢
  obtain ⟨bx, hbx⟩ : ∃ bx, bx = w6.heap.size := ⟨_, rfl⟩
  rw [← hbx] at x7 m7 ⊢
  clear hbx
  go_cut [9, 10] (fun s9 s10 wx => ∃ bt, s9 = .pointer (some ⟨bt, 0, none⟩) ∧ s10 = .int .i64 ic ∧ RI W7 wx bt (.string il) (.string ih) (.bool io))
  case first =>
    go_region_held3 (fun w0 => w0.cell? ⟨w.heap.size, 0, none⟩ = some (.slice a f.length cap) ∧ w0.cell? ⟨w.heap.size + 1, 0, none⟩ = some (.string pt.path) ∧ w0.cell? ⟨w.heap.size + 1, 1, none⟩ = some (.bool pt.desc) ∧ w0.cell? ⟨bx, 0, none⟩ = some (.slice (some ⟨g6, 0, none⟩) f.length f.length)) ((refine keepFPx X7 m7 x7 ?_; (repeat (first | (with_reducible exact Below.refl _ _) | (with_reducible assumption) | (with_reducible apply below_drewN) | (with_reducible apply Below.drew) | ((with_reducible refine Below.setCell ?_ ?_ _); rotate_left; focus (first | (simp; done) | (simp; omega) | omega)) | ((with_reducible refine Below.alloc ?_ ?_ _); rotate_left; focus (first | (simp; done) | (simp; omega) | omega)))))) (first | (go_at_call 34; refine (toPart_any pt.path pt.desc _).mono ?_; rintro e w8 ⟨rfl, hb⟩; have hB8 : Below W7.heap.size W7 w8 := (show Below W7.heap.size W7 _ by (repeat (first | (with_reducible exact Below.refl _ _) | (with_reducible assumption) | (with_reducible apply below_drewN) | (with_reducible apply Below.drew) | ((with_reducible refine Below.setCell ?_ ?_ _); rotate_left; focus (first | (simp; done) | (simp; omega) | omega)) | ((with_reducible refine Below.alloc ?_ ?_ _); rotate_left; focus (first | (simp; done) | (simp; omega) | omega))))).trans (hb.mono (by first | (simp; done) | (simp; omega) | omega)); have hzB8 := hB8.size; (try with_reducible have Z8 := one3 (W := W7) hb); (try with_reducible have Z8 := one3d (W := W7) hb); (try with_reducible have Z8 := one3e (W := W7) hb); have HR8 : Hid (ReadC _ _ _) := HR7.out.next hB8; clear hb) | (go_at_call 35; refine (HI.out _ _ (.inr ⟨g6, rfl, HR8.out.next (by (repeat (first | (with_reducible exact Below.refl _ _) | (with_reducible assumption) | (with_reducible apply below_drewN) | (with_reducible apply Below.drew) | ((with_reducible refine Below.setCell ?_ ?_ _); rotate_left; focus (first | (simp; done) | (simp; omega) | omega)) | ((with_reducible refine Below.alloc ?_ ?_ _); rotate_left; focus (first | (simp; done) | (simp; omega) | omega)))))⟩)).mono ?_; rintro e w9 ⟨rfl, hb⟩; have hB89 : Below w8.heap.size w8 w9 := (show Below w8.heap.size w8 _ by (repeat (first | (with_reducible exact Below.refl _ _) | (with_reducible assumption) | (with_reducible apply below_drewN) | (with_reducible apply Below.drew) | ((with_reducible refine Below.setCell ?_ ?_ _); rotate_left; focus (first | (simp; done) | (simp; omega) | omega)) | ((with_reducible refine Below.alloc ?_ ?_ _); rotate_left; focus (first | (simp; done) | (simp; omega) | omega))))).trans (hb.mono (by first | (simp; done) | (simp; omega) | omega)); have hB9 : Below W7.heap.size W7 w9 := hB8.trans (hB89.mono hB8.size); have hzB9 := hB9.size; have hzB89 := hB89.size; (try with_reducible have Z9 := one3 (W := w8) hb); (try with_reducible have Z9 := one3d (W := w8) hb); (try with_reducible have Z9 := one3e (W := w8) hb); (try with_reducible have Z9 := Z8.step hB89); (try (have qz0 := Z9.c0; have qz1 := Z9.c1; have qz2 := Z9.c2; have qz3 := Z9.f0; have qz4 := Z9.f1; have qz5 := Z9.f2; have qz6 := Z9.lt)); clear hb hB89))
    all_goals
      try go_wp2_with fail
      go_meet
      refine ⟨_, rfl, rfl, ?_⟩
      first
        | with_reducible exact RI.late hB9
        | (with_reducible refine RI.early Z9 hB9 ?_; (first | omega | (simp; done) | (simp; omega)))
  case rest =>
  obtain ⟨bt, rfl, rfl, X9⟩ := hcut
  have XA := X7.step X9.bel
  have HRA : Hid (ReadC _ _ _) := HR7.out.next X9.bel
  have hIA := hI7.step X9.bel
  have hIB := X9.i
  have xA := (X9.bel.cell m7).trans x7
  have mA : bx < wc.heap.size := Nat.lt_of_lt_of_le m7 X9.bel.size
  have k0 := hIA.c0
  have k1 := hIA.c1
  have k2 := hIA.c2
  have j0 := hIB.c0
  have j1 := hIB.c1
  have j2 := hIB.c2
  clear X7 X9 HR7 hI7 x7 m7
  generalize wc = WA at XA HRA hIA hIB xA mA k0 k1 k2 j0 j1 j2 ⊢
  go_wp2_with fail
  refine (eqInterval_same il ih io _).mono ?_
  rintro e wB ⟨rfl, hb⟩
  have XB := XA.step hb
  have HRB : Hid (ReadC _ _ _) := HRA.out.next hb
  have xB := (hb.cell mA).trans xA
  have mB : bx < wB.heap.size := Nat.lt_of_lt_of_le mA hb.size
  clear hb XA HRA hIA hIB xA mA k0 k1 k2 j0 j1 j2
  go_wp2_with fail
  go_region_held3 (fun w0 => w0.cell? ⟨w.heap.size, 0, none⟩ = some (.slice a f.length cap) ∧ w0.cell? ⟨w.heap.size + 1, 0, none⟩ = some (.string pt.path) ∧ w0.cell? ⟨w.heap.size + 1, 1, none⟩ = some (.bool pt.desc) ∧ w0.cell? ⟨bx, 0, none⟩ = some (.slice (some ⟨g6, 0, none⟩) f.length f.length)) ((refine keepFPx XB mB xB ?_; (repeat (first | (with_reducible exact Below.refl _ _) | (with_reducible assumption) | (with_reducible apply below_drewN) | (with_reducible apply Below.drew) | ((with_reducible refine Below.setCell ?_ ?_ _); rotate_left; focus (first | (simp; done) | (simp; omega) | omega)) | ((with_reducible refine Below.alloc ?_ ?_ _); rotate_left; focus (first | (simp; done) | (simp; omega) | omega)))))) (first | (go_at_call 33; refine (toFilter_any a cap f _ (HIN.out.step (XB.bel.trans ((show Below wB.heap.size wB _ by (repeat (first | (with_reducible exact Below.refl _ _) | (with_reducible assumption) | (with_reducible apply below_drewN) | (with_reducible apply Below.drew) | ((with_reducible refine Below.setCell ?_ ?_ _); rotate_left; focus (first | (simp; done) | (simp; omega) | omega)) | ((with_reducible refine Below.alloc ?_ ?_ _); rotate_left; focus (first | (simp; done) | (simp; omega) | omega))))).mono XB.bel.size))) hr2 HSL.out).mono ?_; rintro e wC ⟨⟨gC, rfl, RC⟩, hb⟩; have hBC : Below wB.heap.size wB wC := (show Below wB.heap.size wB _ by (repeat (first | (with_reducible exact Below.refl _ _) | (with_reducible assumption) | (with_reducible apply below_drewN) | (with_reducible apply Below.drew) | ((with_reducible refine Below.setCell ?_ ?_ _); rotate_left; focus (first | (simp; done) | (simp; omega) | omega)) | ((with_reducible refine Below.alloc ?_ ?_ _); rotate_left; focus (first | (simp; done) | (simp; omega) | omega))))).trans (hb.mono (by simp)); have HRC : Hid (ReadC _ _ _) := RC; clear RC hb) | (go_at_call 37; refine (eqFilter_same _ _ _ _ f _ (.inr ⟨g6, rfl, HRB.out.next hBC⟩) (.inr ⟨gC, rfl, HRC.out⟩) hr2 HSL.out).mono ?_; rintro e wD ⟨rfl, hb⟩; have hBD := hBC.trans (hb.mono hBC.size); clear hb))
  all_goals
    have hbz := XB.bel.trans (hBD.mono XB.bel.size)
    go_wp2_with fail
    go_ret
    exact ⟨rfl, hbz⟩

theorem own : ownKnob Tryz.prog.godebug = none := by kernel_rfl
theorem laidOut : laidOutB Tryz.prog = true := by kernel_rfl

set_option maxRecDepth 100000 in
theorem lifted (os : Os) (started : os.Started) (H : Type) (enc : TypeId × Value → H) :
    ReturnsInHanded {} Tryz.checked os 5 .any (fun w args => (Rows.fnExactFilterIntervalSpec.pre enc Tryz.prog Tryz.f5 Rows.fnExactFilterIntervalRow.domain false w args ∧ laidMetH Tryz.prog Rows.fnExactFilterIntervalRow.laid w) ∧ sizedMet enc Tryz.prog Tryz.f5 (OpenSpec.ofChange Rows.fnExactFilterIntervalSpec) false w args)
      (Rows.fnExactFilterIntervalSpec.post enc Tryz.prog Tryz.f5 false true false false) := by
  refine returnsInHanded_of_change_and (C := Tryz.checked) (X := fun w _ => laidMetH Tryz.prog Rows.fnExactFilterIntervalRow.laid w) (fun _ _ _ hh h => h.of_heap hh) own started (by kernel_rfl) Tryz.func5
    (ChangeSpec.witness_shaped (enc := enc) (C := Tryz.checked) (os := os) (X := fun w _ => laidMetH Tryz.prog Rows.fnExactFilterIntervalRow.laid w) false (World.laidAll Tryz.prog os Rows.fnExactFilterIntervalRow.laid) #[.agg #[.slice none 0 0], .agg #[.string ByteArray.empty, .bool false]] 8 (World.laidAll_os _ _ _)
      (World.shaped_of_ZipB (by kernel_rfl) (by kernel_rfl)) (by kernel_rfl) (by kernel_rfl) (by kernel_rfl)
      (by rw [MakeChecks.laidMetH_plain _ _ _ (by kernel_rfl)]; exact laidMet_laidAll _ (by kernel_rfl) (by kernel_rfl))) ?_
  intro W base args ds gs before hval0 hW hcnd _ hL _
  have hval : ∀ (j : Nat) t v, Tryz.f5.params[j]? = some t → args[j]? = some v → Value.okWide Tryz.prog W .any base t v := hval0
  have hW' := hW
  obtain ⟨p, q, hA0, hV, rfl, hfz, hnd⟩ := hW
  have hA : DataW.TrodAll enc Tryz.prog W 0 (fun _ => true) true Tryz.f5.params.toList args.toList ds p := hA0
  rw [Tryz.params5] at hA hval
  obtain ⟨v0, vs0, d0, ds0, p0, q0, hargs, rfl, rfl, h0, r0⟩ := trodAll_cons hA
  obtain ⟨v1, vs1, d1, ds1, p1, q1, rfl, rfl, rfl, h1, r1⟩ := trodAll_cons r0
  obtain ⟨rfl, rfl, rfl⟩ := trodAll_nil r1
  obtain rfl : args = #[v0, v1] := by cases args; simp_all
  obtain ⟨rfl, rfl⟩ := trodVars_none hV
  have k0 := h0
  have lt0 : ∀ x ∈ p0, x.block < W.heap.size := by obtain ⟨m, hm⟩ := k0; exact DataW.trod_lt m _ _ _ hm
  obtain ⟨x0, cap0, f0, rfl, hl0, hs0, i0⟩ := open_filter (hval 0 67 v0 rfl rfl) h0
  have k1 := h1
  have lt1 : ∀ x ∈ p1, x.block < W.heap.size := by obtain ⟨m, hm⟩ := k1; exact DataW.trod_lt m _ _ _ hm
  obtain ⟨pt1, rfl, wp1⟩ := open_part (hval 1 69 v1 rfl rfl) h1
  clear hA0 hval0
  refine (walk x0 cap0 f0 hl0 hs0 pt1 wp1 W i0).mono fun e W' ⟨he, bel⟩ => ?_
  subst he
  exact ⟨_, rfl, _, _, _, [], _, [], hW', trodAll_mk1 (shut_bool Tryz.underlying4 _), (trodAll_cons_mk (Below.trod laidOut (by kernel_rfl) (of_decide_eq_true (by kernel_rfl)) k0 bel lt0) (trodAll_cons_mk (Below.trod laidOut (by kernel_rfl) (of_decide_eq_true (by kernel_rfl)) k1 bel lt1) trodAll_mk0)), rfl, bel.frame _, fun h => by cases h⟩
end FilIntf

theorem fnExactFilterInterval_row : Rows.FnExactFilterIntervalSaid :=
  OpenClaim.holds_of_wide 5 Tryz.f5 rfl rfl rfl rfl rfl rfl rfl ⟨rfl, rfl, rfl, rfl, rfl⟩ rfl rfl rfl rfl rfl (by kernel_rfl) Tryz.func5 (by kernel_rfl)
    (of_decide_eq_true (by kernel_rfl)) (by unfold Func.isWrapper; first | (rw [if_pos (by decide +kernel)]; kernel_rfl) | (rw [if_neg (by decide +kernel)]; exact ⟨rfl, rfl⟩))
    (fun os started H enc _ => FilIntf.lifted os started H enc)
theorem fnExactFilterInterval_holds : Rows.FnExactFilterIntervalCardSaid :=
  Claim7.holds_tied_plain_at .later [] [.data, .pinned] true (true, "477d9a5ef5c938ecb62c4a897a8c9c327e71bd9476388d399b3bed2185107189") false
    fnExactFilterInterval_row (fun _ h => by cases h) (by kernel_rfl) (fun _ h => by cases h) fnExactFilterInterval_row_tie rfl ⟨rfl, rfl⟩ (by kernel_rfl) rfl
    (fun f fn hf hfn => by
      obtain rfl : f = 5 := Option.some.inj ((show Tryz.prog.funcNamed "loop.example/g00380/laws.FnExactFilterInterval" = some 5 by kernel_rfl).symm.trans hf) |>.symm
      obtain rfl : fn = Tryz.f5 := (Option.some.inj (Tryz.func5.symm.trans hfn)).symm
      exact ⟨by kernel_rfl, fun j t ht => by
        rw [Tryz.params5] at ht
        have hm : t ∈ [67, 69] := by simpa using Array.mem_of_getElem? ht
        have hall : ([67, 69].all fun u => !Tryz.prog.wantsStandIn u) = true := by kernel_rfl
        exact (show Tryz.prog.wantsStandIn t = false by simpa using List.all_eq_true.1 hall t hm)⟩)
    (by kernel_rfl)
#print axioms fnExactFilterInterval_holds
end Go.Proofs.YtnmpfooegnmknaaGreatDoor
