import Derived.Test.YtgjknfbkkfidbaaGreatDoorFiltMQ
import Derived.Test.YtgjknfbkkfidbaaGreatDoorTie
import Derived.Test.YtgjknfbkkfidbaaGreatDoorCards
import Derived.LaidMore
import Derived.Lay
import Derived.Stop.Joined
import Derived.SevenTiedAt
import Derived.ProofKit
import Derived.OpenShut
import Derived.ShutString
import Derived.ChangeOld
import Derived.Below
import Derived.Lib.SmallJoins
/- The law's own walk. -/
namespace Go.Proofs.YtgjknfbkkfidbaaGreatDoor
open Go.ChangeShapes Go.WideShapes Go.ChangeAt Go.RowKit Go.Joins
open Go.ChangeMaps (open_string shut_string)
set_option linter.unusedVariables false
namespace PMat

set_option maxRecDepth 8000 in
set_option maxHeartbeats 4000000 in
theorem walk (a : Option Addr) (cap : Nat) (f : List (List Trm)) (hl : f.length ≤ maxLen) (hs : ∀ l ∈ f, maxC l) (k n : Int) (t : ByteArray) (ht : t.size ≤ maxLen) (_ : (Lit.int .i64 k).wf = true) (_ : (Lit.int .i64 n).wf = true) (w : World) (hin : InCl w a f) :
    Calls Tryz.prog 10 #[.agg #[.slice a f.length cap], .agg #[.int .i64 k, .int .i64 n, .string t]] w fun e w' => e = .returned (.bool true) ∧ Below w.heap.size w w' := by
  have X0 := B13.start w (.slice a f.length cap) (.int .i64 k) (.int .i64 n) (.string t) 80 60
  have HIN : Hid (InCl _ _ _) := hin.step X0.bel
  have HZ : Hid (∀ W : World, InCl W a f → Calls _ _ _ W _) := fun W hW => szFilter_any a cap f 1048576 W hW hl hs (by omega) (by omega)
  clear hin hs
  go_enter Tryz.func10, Tryz.ntmps10
  go_wp2_with fail
  refine (HZ.out _ HIN.out).mono ?_
  rintro e w1 ⟨⟨r, rfl, hr⟩, hb⟩
  have X1 := X0.step hb
  have HIN1 : Hid (InCl _ _ _) := HIN.out.step hb
  clear hb HIN HZ X0
  rcases hr with hneg | ⟨hr0, hr1, hr2, hr3⟩
  · have hbw := X1.bel
    go_wp2_with fail
    go_ret
    exact ⟨rfl, hbw⟩
  have hnn : ¬ r < 0 := by omega
  have HSZ : Hid (∀ l ∈ f, szC l) := hr3
  have HSL : Hid (∀ l ∈ f, l.length ≤ 1048576) := fun l hl => (hr3 l hl).1
  clear hr3
  have f0 := X1.d0
  have f1 := X1.d1
  have f2 := X1.d2
  go_wp2_with fail
  refine (szValue_any k n t _ _ ht (by omega) (by omega)).mono ?_
  rintro e w2 ⟨rfl, hb⟩
  have X2 := X1.step hb
  have HIN2 : Hid (InCl _ _ _) := HIN1.out.step hb
  clear hb X1 f0 f1 f2 HIN1
  by_cases hbig : r < t.size
  · rw [if_pos hbig]
    have hbw := X2.bel
    go_wp2_with fail
    go_ret
    exact ⟨rfl, hbw⟩
  rw [if_neg hbig]
  have hnn2 : ¬ (r - (t.size : Int) < 0) := by omega
  have h2 : t.size ≤ 1048576 := by omega
  have HS0 := fun (p : Option Addr) (c : Nat) (W : World) (hW : RowC W p f) => specMatches_any p c f ⟨k, n, t⟩ W hW hr2 HSZ.out h2
  have HI0 := fun (p : Option Addr) (c : Nat) (W : World) (hW : RowC W p f) => matches_any p c f ⟨k, n, t⟩ W hW hr2 HSZ.out h2
  obtain ⟨P, hP⟩ : ∃ P, P = matchF ⟨k, n, t⟩ f := ⟨_, rfl⟩
  rw [← hP] at HS0 HI0
  obtain ⟨p1, p2⟩ := P
  have HS : Hid (∀ (p : Option Addr) (c : Nat) (W : World), RowC W p f → Calls Tryz.prog 34 #[.agg #[.slice p f.length c], .agg #[.int .i64 k, .int .i64 n, .string t]] W fun e w' => e = .returned (.tuple #[.bool p1, .int .i64 p2]) ∧ Below W.heap.size W w') := HS0
  have HI : Hid (∀ (p : Option Addr) (c : Nat) (W : World), RowC W p f → Calls Tryz.prog 33 #[.agg #[.slice p f.length c], .agg #[.int .i64 k, .int .i64 n, .string t]] W fun e w' => e = .returned (.tuple #[.bool p1, .int .i64 p2]) ∧ Below W.heap.size W w') := HI0
  clear HS0 HI0 hP
  go_wp2_with fail
  go_region_held3 (fun w0 => w0.cell? ⟨w.heap.size, 0, none⟩ = some (.slice a f.length cap) ∧ w0.cell? ⟨w.heap.size + 1, 0, none⟩ = some (.int .i64 k) ∧ w0.cell? ⟨w.heap.size + 1, 1, none⟩ = some (.int .i64 n) ∧ w0.cell? ⟨w.heap.size + 1, 2, none⟩ = some (.string t)) ((refine keepM X2 ?_; (repeat (first | (with_reducible exact Below.refl _ _) | (with_reducible assumption) | (with_reducible apply below_drewN) | (with_reducible apply Below.drew) | ((with_reducible refine Below.setCell ?_ ?_ _); rotate_left; focus (first | (simp; done) | (simp; omega) | omega)) | ((with_reducible refine Below.alloc ?_ ?_ _); rotate_left; focus (first | (simp; done) | (simp; omega) | omega)))))) (first | (go_at_call 53; refine (toFilter_any a cap f _ (HIN2.out.step (by (repeat (first | (with_reducible exact Below.refl _ _) | (with_reducible assumption) | (with_reducible apply below_drewN) | (with_reducible apply Below.drew) | ((with_reducible refine Below.setCell ?_ ?_ _); rotate_left; focus (first | (simp; done) | (simp; omega) | omega)) | ((with_reducible refine Below.alloc ?_ ?_ _); rotate_left; focus (first | (simp; done) | (simp; omega) | omega)))))) hr2 HSL.out).mono ?_; rintro e w3 ⟨⟨g3, rfl, R3⟩, hb⟩; have hB3 : Below w2.heap.size w2 w3 := (show Below w2.heap.size w2 _ by (repeat (first | (with_reducible exact Below.refl _ _) | (with_reducible assumption) | (with_reducible apply below_drewN) | (with_reducible apply Below.drew) | ((with_reducible refine Below.setCell ?_ ?_ _); rotate_left; focus (first | (simp; done) | (simp; omega) | omega)) | ((with_reducible refine Below.alloc ?_ ?_ _); rotate_left; focus (first | (simp; done) | (simp; omega) | omega))))).trans (hb.mono (by simp)); have HR3 : Hid (ReadC _ _ _) := R3; clear R3 hb) | (go_at_call 44; refine (toValue_any k n t _).mono ?_; rintro e w4 ⟨rfl, hb⟩; have hB4 : Below w2.heap.size w2 w4 := hB3.trans (hb.mono hB3.size); have HR4 : Hid (ReadC _ _ _) := HR3.out.next hb; clear hb) | (go_at_call 34; refine (HS.out _ _ _ (.inr ⟨g3, rfl, HR4.out⟩)).mono ?_; rintro e w5 ⟨rfl, hb⟩; have hB5 : Below w2.heap.size w2 w5 := hB4.trans (hb.mono hB4.size); clear hb))
  have X5 := X2.step hB5
  have HIN5 : Hid (InCl _ _ _) := HIN2.out.step hB5
  have k5 := X5.c0
  clear hB3 hB4 hB5 HR3 HR4 X2 HIN2
  go_wp2_with fail
  refine (toFilter_any a cap f _ HIN5.out hr2 HSL.out).mono ?_
  rintro e w6 ⟨⟨g6, rfl, R6⟩, hb⟩
  have hbA : Below w5.heap.size w5 (w6.alloc (.cells #[.slice (some ⟨g6, 0, none⟩) f.length f.length] 45)) := hb.alloc hb.size _
  have X7 := X5.step hbA
  have HIN7 : Hid (InCl _ _ _) := HIN5.out.step hbA
  have HR7 : Hid (ReadC _ _ _) := R6.next ((Below.refl _ _).alloc (Nat.le_refl _) (.cells #[.slice (some ⟨g6, 0, none⟩) f.length f.length] 45))
  have x7 : (w6.alloc (.cells #[.slice (some ⟨g6, 0, none⟩) f.length f.length] 45)).cell? ⟨w6.heap.size, 0, none⟩ = some (.slice (some ⟨g6, 0, none⟩) f.length f.length) := by simp [go_sem]
  have m7 : w6.heap.size < (w6.alloc (.cells #[.slice (some ⟨g6, 0, none⟩) f.length f.length] 45)).heap.size := by simp
  clear hb hbA HIN5 X5 R6 k5
  go_wp2_with fail
  generalize w6.alloc (.cells #[.slice (some ⟨g6, 0, none⟩) f.length f.length] 45) = W7 at X7 HIN7 HR7 x7 m7 ⊢
  obtain ⟨bx, hbx⟩ : ∃ bx, bx = w6.heap.size := ⟨_, rfl⟩
  rw [← hbx] at x7 m7 ⊢
  clear hbx
  go_region_held3 (fun w0 => w0.cell? ⟨w.heap.size, 0, none⟩ = some (.slice a f.length cap) ∧ w0.cell? ⟨w.heap.size + 1, 0, none⟩ = some (.int .i64 k) ∧ w0.cell? ⟨w.heap.size + 1, 1, none⟩ = some (.int .i64 n) ∧ w0.cell? ⟨w.heap.size + 1, 2, none⟩ = some (.string t) ∧ w0.cell? ⟨bx, 0, none⟩ = some (.slice (some ⟨g6, 0, none⟩) f.length f.length)) ((refine keepN X7 m7 x7 ?_; (repeat (first | (with_reducible exact Below.refl _ _) | (with_reducible assumption) | (with_reducible apply below_drewN) | (with_reducible apply Below.drew) | ((with_reducible refine Below.setCell ?_ ?_ _); rotate_left; focus (first | (simp; done) | (simp; omega) | omega)) | ((with_reducible refine Below.alloc ?_ ?_ _); rotate_left; focus (first | (simp; done) | (simp; omega) | omega)))))) (first | (go_at_call 44; refine (toValue_any k n t _).mono ?_; rintro e w8 ⟨rfl, hb⟩; have hB8 : Below W7.heap.size W7 w8 := (show Below W7.heap.size W7 _ by (repeat (first | (with_reducible exact Below.refl _ _) | (with_reducible assumption) | (with_reducible apply below_drewN) | (with_reducible apply Below.drew) | ((with_reducible refine Below.setCell ?_ ?_ _); rotate_left; focus (first | (simp; done) | (simp; omega) | omega)) | ((with_reducible refine Below.alloc ?_ ?_ _); rotate_left; focus (first | (simp; done) | (simp; omega) | omega))))).trans (hb.mono (by simp)); have HR8 : Hid (ReadC _ _ _) := HR7.out.next hB8; clear hb) | (go_at_call 33; refine (HI.out _ _ _ (.inr ⟨g6, rfl, HR8.out⟩)).mono ?_; rintro e w9 ⟨rfl, hb⟩; have hB9 : Below W7.heap.size W7 w9 := hB8.trans (hb.mono hB8.size); clear hb))
  have X9 := X7.step hB9
  have HIN9 : Hid (InCl _ _ _) := HIN7.out.step hB9
  have HR9 : Hid (ReadC _ _ _) := HR7.out.next hB9
  have x9 := (hB9.cell m7).trans x7
  have m9 : bx < w9.heap.size := Nat.lt_of_lt_of_le m7 hB9.size
  clear hB8 hB9 HR8 X7 HIN7 HR7 x7 m7
  go_wp2_with fail
  go_region_held3 (fun w0 => w0.cell? ⟨w.heap.size, 0, none⟩ = some (.slice a f.length cap) ∧ w0.cell? ⟨w.heap.size + 1, 0, none⟩ = some (.int .i64 k) ∧ w0.cell? ⟨w.heap.size + 1, 1, none⟩ = some (.int .i64 n) ∧ w0.cell? ⟨w.heap.size + 1, 2, none⟩ = some (.string t) ∧ w0.cell? ⟨bx, 0, none⟩ = some (.slice (some ⟨g6, 0, none⟩) f.length f.length)) ((refine keepN X9 m9 x9 ?_; (repeat (first | (with_reducible exact Below.refl _ _) | (with_reducible assumption) | (with_reducible apply below_drewN) | (with_reducible apply Below.drew) | ((with_reducible refine Below.setCell ?_ ?_ _); rotate_left; focus (first | (simp; done) | (simp; omega) | omega)) | ((with_reducible refine Below.alloc ?_ ?_ _); rotate_left; focus (first | (simp; done) | (simp; omega) | omega)))))) (first | (go_at_call 53; refine (toFilter_any a cap f _ (HIN9.out.step (by (repeat (first | (with_reducible exact Below.refl _ _) | (with_reducible assumption) | (with_reducible apply below_drewN) | (with_reducible apply Below.drew) | ((with_reducible refine Below.setCell ?_ ?_ _); rotate_left; focus (first | (simp; done) | (simp; omega) | omega)) | ((with_reducible refine Below.alloc ?_ ?_ _); rotate_left; focus (first | (simp; done) | (simp; omega) | omega)))))) hr2 HSL.out).mono ?_; rintro e wA ⟨⟨gA, rfl, RA⟩, hb⟩; have hBA : Below w9.heap.size w9 wA := (show Below w9.heap.size w9 _ by (repeat (first | (with_reducible exact Below.refl _ _) | (with_reducible assumption) | (with_reducible apply below_drewN) | (with_reducible apply Below.drew) | ((with_reducible refine Below.setCell ?_ ?_ _); rotate_left; focus (first | (simp; done) | (simp; omega) | omega)) | ((with_reducible refine Below.alloc ?_ ?_ _); rotate_left; focus (first | (simp; done) | (simp; omega) | omega))))).trans (hb.mono (by simp)); have HRA : Hid (ReadC _ _ _) := RA; clear RA hb) | (go_at_call 54; refine (eqFilter_same _ _ _ _ f _ (.inr ⟨g6, rfl, HR9.out.next hBA⟩) (.inr ⟨gA, rfl, HRA.out⟩) hr2 HSL.out).mono ?_; rintro e wB ⟨rfl, hb⟩; have hBB := hBA.trans (hb.mono hBA.size); clear hb))
  have hbw := (X9.step hBB).bel
  go_wp2_with fail
  go_ret
  exact ⟨rfl, hbw⟩

end PMat
end Go.Proofs.YtgjknfbkkfidbaaGreatDoor

/- The law's walk, lifted to the row. -/
namespace Go.Proofs.YtgjknfbkkfidbaaGreatDoor
open Go.ChangeShapes Go.WideShapes Go.ChangeAt Go.RowKit Go.Joins
open Go.ChangeMaps (open_string shut_string)
set_option linter.unusedVariables false
namespace PMat
theorem own : ownKnob Tryz.prog.godebug = none := by kernel_rfl
theorem laidOut : laidOutB Tryz.prog = true := by kernel_rfl
theorem cellsV : Tryz.prog.cellsOf 60 = 3 := by kernel_rfl

set_option maxRecDepth 100000 in
theorem lifted (os : Os) (started : os.Started) (H : Type) (enc : TypeId × Value → H) :
    ReturnsInHanded {} Tryz.checked os 10 .any (fun w args => (Rows.fnExactMatchesSpec.pre enc Tryz.prog Tryz.f10 Rows.fnExactMatchesRow.domain false w args ∧ laidMetH Tryz.prog Rows.fnExactMatchesRow.laid w) ∧ sizedMet enc Tryz.prog Tryz.f10 (OpenSpec.ofChange Rows.fnExactMatchesSpec) false w args)
      (Rows.fnExactMatchesSpec.post enc Tryz.prog Tryz.f10 false true false false) := by
  refine returnsInHanded_of_change_and (C := Tryz.checked) (X := fun w _ => laidMetH Tryz.prog Rows.fnExactMatchesRow.laid w) (fun _ _ _ hh h => h.of_heap hh) own started (by kernel_rfl) Tryz.func10
    (ChangeSpec.witness_shaped (enc := enc) (C := Tryz.checked) (os := os) (X := fun w _ => laidMetH Tryz.prog Rows.fnExactMatchesRow.laid w) false (World.laidAll Tryz.prog os Rows.fnExactMatchesRow.laid) #[.agg #[.slice none 0 0], .agg #[.int .i64 0, .int .i64 0, .string ByteArray.empty]] 8 (World.laidAll_os _ _ _)
      (World.shaped_of_ZipB (by kernel_rfl) (by kernel_rfl)) (by kernel_rfl) (by kernel_rfl) (by kernel_rfl)
      (by rw [MakeChecks.laidMetH_plain _ _ _ (by kernel_rfl)]; exact laidMet_laidAll _ (by kernel_rfl) (by kernel_rfl))) ?_
  intro W base args ds gs before hval0 hW hcnd _ hL _
  have hval : ∀ (j : Nat) t v, Tryz.f10.params[j]? = some t → args[j]? = some v → Value.okWide Tryz.prog W .any base t v := hval0
  have hW' := hW
  obtain ⟨p, q, hA0, hV, rfl, hfz, hnd⟩ := hW
  have hA : DataW.TrodAll enc Tryz.prog W 0 (fun _ => true) true Tryz.f10.params.toList args.toList ds p := hA0
  rw [Tryz.params10] at hA hval
  obtain ⟨v0, vs0, d0, ds0, p0, q0, hargs, rfl, rfl, h0, r0⟩ := trodAll_cons hA
  obtain ⟨v1, vs1, d1, ds1, p1, q1, rfl, rfl, rfl, h1, r1⟩ := trodAll_cons r0
  obtain ⟨rfl, rfl, rfl⟩ := trodAll_nil r1
  obtain rfl : args = #[v0, v1] := by cases args; simp_all
  obtain ⟨rfl, rfl⟩ := trodVars_none hV
  have k0 := h0
  have lt0 : ∀ x ∈ p0, x.block < W.heap.size := by obtain ⟨m, hm⟩ := k0; exact DataW.trod_lt m _ _ _ hm
  obtain ⟨x0, cap0, f0, rfl, hl0, hs0, i0⟩ := open_filter (hval 0 80 v0 rfl rfl) h0
  have k1 := h1
  have lt1 : ∀ x ∈ p1, x.block < W.heap.size := by obtain ⟨m, hm⟩ := k1; exact DataW.trod_lt m _ _ _ hm
  obtain ⟨c10, c11, c12, y10, y11, y12, m1, rfl, hd1, hp1, hy10, hy11, hy12⟩ := open_agg3 Tryz.underlying60 (by kernel_rfl) cellsV (hval 1 60 v1 rfl rfl) h1
  obtain ⟨a1, e10, _, wa1⟩ := DataW.trod_int Tryz.underlying3 hy10
  obtain ⟨b1, e11, _, wb1⟩ := DataW.trod_int Tryz.underlying3 hy11
  obtain ⟨s1, e12, _, ws1⟩ := DataW.trod_string Tryz.underlying9 hy12
  simp at e10 e11 e12
  subst e10 e11 e12
  clear hA0 hval0
  refine (walk x0 cap0 f0 hl0 hs0 a1 b1 s1 ws1 wa1 wb1 W i0).mono fun e W' ⟨he, bel⟩ => ?_
  subst he
  exact ⟨_, rfl, _, _, _, [], _, [], hW', trodAll_mk1 (shut_bool Tryz.underlying4 _), (trodAll_cons_mk (Below.trod laidOut (by kernel_rfl) (of_decide_eq_true (by kernel_rfl)) k0 bel lt0) (trodAll_cons_mk (Below.trod laidOut (by kernel_rfl) (of_decide_eq_true (by kernel_rfl)) k1 bel lt1) trodAll_mk0)), rfl, bel.frame _, fun h => by cases h⟩
end PMat
end Go.Proofs.YtgjknfbkkfidbaaGreatDoor
