/- For every tree and every entry that a caller can hand in: the program's PageAt answers as the specification does, and changes nothing of what it was given; no condition. -/
import Derived.Test.YtklicfcafpehfaaTrY
import Derived.Test.YtklicfcafpehfaaRows
import Derived.ProofKit
import Derived.OpenShut
import Derived.ShutString
import Derived.ChangeOld
import Derived.Below
import Derived.Lib.SmallJoins
namespace Go.Proofs.Ytklicfcafpehfaa
open Go.ChangeShapes Go.WideShapes Go.ChangeAt Go.RowKit Go.Joins
open Go.ChangeMaps (open_string shut_string)
set_option linter.unusedVariables false
namespace TreePageAtf
open Tr

set_option maxRecDepth 8000 in
set_option maxHeartbeats 4000000 in
theorem walk (a : Option Addr) (cap : Nat) (f : List Pg) (next : Int) (hl : f.length ≤ maxLen) (hs : ∀ l ∈ f, maxP l) (k : ByteArray) (i : Int) (ht : k.size ≤ maxLen) (w : World) (hin : InP w a f) :
    Calls Try.prog 14 #[.agg #[.slice a f.length cap, .int .i64 next], .agg #[.string k, .int .i64 i]] w fun e w' => e = .returned (.bool true) ∧ Below w.heap.size w w' := by
  have X0 := BoxTE.start w (.slice a f.length cap) next ⟨k, i⟩ 81 85
  have HIN : Hid (InP _ _ _) := hin.step X0.bel
  have HZ : Hid (∀ W : World, InP W a f → Calls _ _ _ W _) := fun W hW => szTree_any a cap f next 1048576 W hW hl hs (by omega) (by omega)
  clear hin hs
  go_enter Try.func14, Try.ntmps14
  go_wp2_with fail
  refine (HZ.out _ HIN.out).mono ?_
  rintro e w1 ⟨⟨r, rfl, hr⟩, hb⟩
  have X1 := X0.step hb
  have HIN1 : Hid (InP _ _ _) := HIN.out.step hb
  clear hb HIN HZ X0
  rcases hr with hneg | ⟨hr0, hr1, hr2, hr3⟩
  · have hbw := X1.bel
    go_wp2_with fail
    go_ret
    exact ⟨rfl, hbw⟩
  have hnn : ¬ r < 0 := by omega
  have HSZ : Hid (∀ l ∈ f, szP l) := hr3
  have HSL : Hid (∀ l ∈ f, l.es.length ≤ 1048576) := fun l hl => (hr3 l hl).1
  clear hr3
  have f0 := X1.d0
  have f1 := X1.d1
  go_wp2_with fail
  refine (szEntry_any k i _ _ ht hr0 (by omega)).mono ?_
  rintro e w2 ⟨⟨r2, rfl, hr'⟩, hb⟩
  have X2 := X1.step hb
  have HIN2 : Hid (InP _ _ _) := HIN1.out.step hb
  clear hb X1 f0 f1 HIN1
  rcases hr' with hneg2 | ⟨hq0, hq1, h2⟩
  · have hbw := X2.bel
    go_wp2_with fail
    go_ret
    exact ⟨rfl, hbw⟩
  have hnn2 : ¬ r2 < 0 := by omega
  have HS0 := fun (p : Option Addr) (c : Nat) (W : World) (hW : RowP W p f) => specPageAt_any p c f next ⟨k, i⟩ W hW hr2 HSZ.out h2
  have HI0 := fun (p : Option Addr) (c : Nat) (W : World) (hW : RowP W p f) (hc : f.length ≤ c) => pageAt_any p c f next ⟨k, i⟩ W hW hr2 hc HSZ.out h2
  obtain ⟨P, hP⟩ : ∃ P, P = pageAtT f next ⟨k, i⟩ := ⟨_, rfl⟩
  rw [← hP] at HS0 HI0
  obtain ⟨p1, p2⟩ := P
  have HS : Hid (∀ (p : Option Addr) (c : Nat) (W : World), RowP W p f → Calls Try.prog 38 #[.agg #[.slice p f.length c, .int .i64 next], .agg #[.string k, .int .i64 i]] W fun e w' => e = .returned (.tuple #[.int .i64 p1, .int .i64 p2]) ∧ Below W.heap.size W w') := HS0
  have HI : Hid (∀ (p : Option Addr) (c : Nat) (W : World), RowP W p f → f.length ≤ c → Calls Try.prog 37 #[.agg #[.slice p f.length c, .int .i64 next], .agg #[.string k, .int .i64 i]] W fun e w' => e = .returned (.tuple #[.int .i64 p1, .int .i64 p2]) ∧ Below W.heap.size W w') := HI0
  clear HS0 HI0 hP
  go_wp2_with fail
  go_region_held3 (fun w0 => w0.cell? ⟨w.heap.size, 0, none⟩ = some (.slice a f.length cap) ∧ w0.cell? ⟨w.heap.size, 1, none⟩ = some (.int .i64 next) ∧ w0.cell? ⟨w.heap.size + 1, 0, none⟩ = some (.string k) ∧ w0.cell? ⟨w.heap.size + 1, 1, none⟩ = some (.int .i64 i)) ((refine keepM X2 ?_; (repeat (first | (with_reducible exact Below.refl _ _) | (with_reducible assumption) | (with_reducible apply below_drewN) | (with_reducible apply Below.drew) | ((with_reducible refine Below.setCell ?_ ?_ _); rotate_left; focus (first | (simp; done) | (simp; omega) | omega)) | ((with_reducible refine Below.alloc ?_ ?_ _); rotate_left; focus (first | (simp; done) | (simp; omega) | omega)))))) (first | (go_at_call 56; refine (toTree_any a cap f next _ (HIN2.out.step (by (repeat (first | (with_reducible exact Below.refl _ _) | (with_reducible assumption) | (with_reducible apply below_drewN) | (with_reducible apply Below.drew) | ((with_reducible refine Below.setCell ?_ ?_ _); rotate_left; focus (first | (simp; done) | (simp; omega) | omega)) | ((with_reducible refine Below.alloc ?_ ?_ _); rotate_left; focus (first | (simp; done) | (simp; omega) | omega)))))) hr2 HSL.out).mono ?_; rintro e w3 ⟨⟨g3, rfl, R3⟩, hb⟩; have hB3 : Below w2.heap.size w2 w3 := (show Below w2.heap.size w2 _ by (repeat (first | (with_reducible exact Below.refl _ _) | (with_reducible assumption) | (with_reducible apply below_drewN) | (with_reducible apply Below.drew) | ((with_reducible refine Below.setCell ?_ ?_ _); rotate_left; focus (first | (simp; done) | (simp; omega) | omega)) | ((with_reducible refine Below.alloc ?_ ?_ _); rotate_left; focus (first | (simp; done) | (simp; omega) | omega))))).trans (hb.mono (by simp)); have HR3 : Hid (OwnT _ _ _ _) := R3; clear R3 hb) | (go_at_call 58; refine (toEntry_any k i _).mono ?_; rintro e w4 ⟨rfl, hb⟩; have hB4 : Below w2.heap.size w2 w4 := hB3.trans (hb.mono hB3.size); have HR4 : Hid (OwnT _ _ _ _) := HR3.out.next hb; clear hb) | (go_at_call 38; refine (HS.out _ _ _ HR4.out.rowP).mono ?_; rintro e w5 ⟨rfl, hb⟩; have hB5 : Below w2.heap.size w2 w5 := hB4.trans (hb.mono hB4.size); clear hb))
  have X5 := X2.step hB5
  have HIN5 : Hid (InP _ _ _) := HIN2.out.step hB5
  have k5 := X5.c0
  have l5 := X5.c1
  clear hB3 hB4 hB5 HR3 HR4 X2 HIN2
  go_wp2_with fail
  refine (toTree_any a cap f next _ HIN5.out hr2 HSL.out).mono ?_
  rintro e w6 ⟨⟨g6, rfl, R6⟩, hb⟩
  have hbA : Below w5.heap.size w5 (w6.alloc (.cells #[.slice (some ⟨g6, 0, none⟩) f.length f.length, .int .i64 next] 51)) := hb.alloc hb.size _
  have X7 := X5.step hbA
  have HIN7 : Hid (InP _ _ _) := HIN5.out.step hbA
  have HR7 : Hid (OwnT _ _ _ _) := R6.next ((Below.refl _ _).alloc (Nat.le_refl _) (.cells #[.slice (some ⟨g6, 0, none⟩) f.length f.length, .int .i64 next] 51))
  have x7 : (w6.alloc (.cells #[.slice (some ⟨g6, 0, none⟩) f.length f.length, .int .i64 next] 51)).cell? ⟨w6.heap.size, 0, none⟩ = some (.slice (some ⟨g6, 0, none⟩) f.length f.length) := by simp [go_sem]
  have y7 : (w6.alloc (.cells #[.slice (some ⟨g6, 0, none⟩) f.length f.length, .int .i64 next] 51)).cell? ⟨w6.heap.size, 1, none⟩ = some (.int .i64 next) := by simp [go_sem]
  have m7 : w6.heap.size < (w6.alloc (.cells #[.slice (some ⟨g6, 0, none⟩) f.length f.length, .int .i64 next] 51)).heap.size := by simp
  clear hb hbA HIN5 X5 R6 k5 l5
  go_wp2_with fail
  generalize w6.alloc (.cells #[.slice (some ⟨g6, 0, none⟩) f.length f.length, .int .i64 next] 51) = W7 at X7 HIN7 HR7 x7 y7 m7 ⊢
  obtain ⟨bx, hbx⟩ : ∃ bx, bx = w6.heap.size := ⟨_, rfl⟩
  rw [← hbx] at x7 y7 m7 ⊢
  clear hbx
  go_region_held3 (fun w0 => w0.cell? ⟨w.heap.size, 0, none⟩ = some (.slice a f.length cap) ∧ w0.cell? ⟨w.heap.size, 1, none⟩ = some (.int .i64 next) ∧ w0.cell? ⟨w.heap.size + 1, 0, none⟩ = some (.string k) ∧ w0.cell? ⟨w.heap.size + 1, 1, none⟩ = some (.int .i64 i) ∧ w0.cell? ⟨bx, 0, none⟩ = some (.slice (some ⟨g6, 0, none⟩) f.length f.length) ∧ w0.cell? ⟨bx, 1, none⟩ = some (.int .i64 next)) ((refine keepN X7 m7 x7 y7 ?_; (repeat (first | (with_reducible exact Below.refl _ _) | (with_reducible assumption) | (with_reducible apply below_drewN) | (with_reducible apply Below.drew) | ((with_reducible refine Below.setCell ?_ ?_ _); rotate_left; focus (first | (simp; done) | (simp; omega) | omega)) | ((with_reducible refine Below.alloc ?_ ?_ _); rotate_left; focus (first | (simp; done) | (simp; omega) | omega)))))) (first | (go_at_call 58; refine (toEntry_any k i _).mono ?_; rintro e w8 ⟨rfl, hb⟩; have hB8 : Below W7.heap.size W7 w8 := (show Below W7.heap.size W7 _ by (repeat (first | (with_reducible exact Below.refl _ _) | (with_reducible assumption) | (with_reducible apply below_drewN) | (with_reducible apply Below.drew) | ((with_reducible refine Below.setCell ?_ ?_ _); rotate_left; focus (first | (simp; done) | (simp; omega) | omega)) | ((with_reducible refine Below.alloc ?_ ?_ _); rotate_left; focus (first | (simp; done) | (simp; omega) | omega))))).trans (hb.mono (by simp)); have HR8 : Hid (OwnT _ _ _ _) := HR7.out.next hB8; clear hb) | (go_at_call 37; refine (HI.out _ _ _ HR8.out.rowP (Nat.le_refl _)).mono ?_; rintro e w9 ⟨rfl, hb⟩; have hB9 : Below W7.heap.size W7 w9 := hB8.trans (hb.mono hB8.size); clear hb))
  have X9 := X7.step hB9
  have HIN9 : Hid (InP _ _ _) := HIN7.out.step hB9
  have HR9 : Hid (OwnT _ _ _ _) := HR7.out.next hB9
  have x9 := (hB9.cell m7).trans x7
  have y9 := (hB9.cell m7).trans y7
  have m9 : bx < w9.heap.size := Nat.lt_of_lt_of_le m7 hB9.size
  clear hB8 hB9 HR8 X7 HIN7 HR7 x7 y7 m7
  go_wp2_with fail
  go_region_held3 (fun w0 => w0.cell? ⟨w.heap.size, 0, none⟩ = some (.slice a f.length cap) ∧ w0.cell? ⟨w.heap.size, 1, none⟩ = some (.int .i64 next) ∧ w0.cell? ⟨w.heap.size + 1, 0, none⟩ = some (.string k) ∧ w0.cell? ⟨w.heap.size + 1, 1, none⟩ = some (.int .i64 i) ∧ w0.cell? ⟨bx, 0, none⟩ = some (.slice (some ⟨g6, 0, none⟩) f.length f.length) ∧ w0.cell? ⟨bx, 1, none⟩ = some (.int .i64 next)) ((refine keepN X9 m9 x9 y9 ?_; (repeat (first | (with_reducible exact Below.refl _ _) | (with_reducible assumption) | (with_reducible apply below_drewN) | (with_reducible apply Below.drew) | ((with_reducible refine Below.setCell ?_ ?_ _); rotate_left; focus (first | (simp; done) | (simp; omega) | omega)) | ((with_reducible refine Below.alloc ?_ ?_ _); rotate_left; focus (first | (simp; done) | (simp; omega) | omega)))))) (first | (go_at_call 56; refine (toTree_any a cap f next _ (HIN9.out.step (by (repeat (first | (with_reducible exact Below.refl _ _) | (with_reducible assumption) | (with_reducible apply below_drewN) | (with_reducible apply Below.drew) | ((with_reducible refine Below.setCell ?_ ?_ _); rotate_left; focus (first | (simp; done) | (simp; omega) | omega)) | ((with_reducible refine Below.alloc ?_ ?_ _); rotate_left; focus (first | (simp; done) | (simp; omega) | omega)))))) hr2 HSL.out).mono ?_; rintro e wA ⟨⟨gA, rfl, RA⟩, hb⟩; have hBA : Below w9.heap.size w9 wA := (show Below w9.heap.size w9 _ by (repeat (first | (with_reducible exact Below.refl _ _) | (with_reducible assumption) | (with_reducible apply below_drewN) | (with_reducible apply Below.drew) | ((with_reducible refine Below.setCell ?_ ?_ _); rotate_left; focus (first | (simp; done) | (simp; omega) | omega)) | ((with_reducible refine Below.alloc ?_ ?_ _); rotate_left; focus (first | (simp; done) | (simp; omega) | omega))))).trans (hb.mono (by simp)); have HRA : Hid (OwnT _ _ _ _) := RA; clear RA hb) | (go_at_call 51; refine (eqTree_same _ _ _ _ f next _ (HR9.out.next hBA).rowP HRA.out.rowP hr2 HSL.out).mono ?_; rintro e wB ⟨rfl, hb⟩; have hBB : Below w9.heap.size w9 wB := hBA.trans (hb.mono hBA.size); clear hb))
  have hbw := (X9.step hBB).bel
  go_wp2_with fail
  go_ret
  exact ⟨rfl, hbw⟩

theorem own : ownKnob Try.prog.godebug = none := by kernel_rfl
theorem laidOut : laidOutB Try.prog = true := by kernel_rfl

set_option maxRecDepth 100000 in
theorem lifted (os : Os) (started : os.Started) (H : Type) (enc : TypeId × Value → H) :
    ReturnsInHanded {} Try.checked os 14 .any (Rows.fnExactPageAtSpec.pre6 enc Try.prog Try.f14 Rows.fnExactPageAtRow.domain false) (Rows.fnExactPageAtSpec.post enc Try.prog Try.f14 false true false false) := by
  refine returnsInHanded_of_change (C := Try.checked) own started (by kernel_rfl) Try.func14
    (ChangeSpec.witness6 (enc := enc) (C := Try.checked) false ⟨#[], #[.agg #[.slice none 0 0, .int .i64 0], .agg #[.string ByteArray.empty, .int .i64 0]], []⟩ 8 (by kernel_rfl) (by kernel_rfl) (by kernel_rfl) (by kernel_rfl)) ?_
  intro W base args ds gs before hval0 hW hcnd _
  have hval : ∀ (j : Nat) t v, Try.f14.params[j]? = some t → args[j]? = some v → Value.okWide Try.prog W .any base t v := hval0
  have hW' := hW
  obtain ⟨p, q, hA0, hV, rfl, hfz, hnd⟩ := hW
  have hA : DataW.TrodAll enc Try.prog W 0 (fun _ => true) true Try.f14.params.toList args.toList ds p := hA0
  rw [Try.params14] at hA hval
  obtain ⟨v0, vs0, d0, ds0, p0, q0, hargs, rfl, rfl, h0, r0⟩ := trodAll_cons hA
  obtain ⟨v1, vs1, d1, ds1, p1, q1, rfl, rfl, rfl, h1, r1⟩ := trodAll_cons r0
  obtain ⟨rfl, rfl, rfl⟩ := trodAll_nil r1
  obtain rfl : args = #[v0, v1] := by cases args; simp_all
  obtain ⟨rfl, rfl⟩ := trodVars_none hV
  have k0 := h0
  have lt0 : ∀ x ∈ p0, x.block < W.heap.size := by obtain ⟨m, hm⟩ := k0; exact DataW.trod_lt m _ _ _ hm
  obtain ⟨x0, cap0, f0, nx0, rfl, hl0, hs0, i0⟩ := open_tree (hval 0 81 v0 rfl rfl) h0
  have k1 := h1
  have lt1 : ∀ x ∈ p1, x.block < W.heap.size := by obtain ⟨m, hm⟩ := k1; exact DataW.trod_lt m _ _ _ hm
  obtain ⟨kk1, ii1, rfl, wk1⟩ := open_entry (hval 1 85 v1 rfl rfl) h1
  clear hA0 hval0
  refine (walk x0 cap0 f0 nx0 hl0 hs0 kk1 ii1 wk1 W i0).mono fun e W' ⟨he, bel⟩ => ?_
  subst he
  exact ⟨_, rfl, _, _, _, [], _, [], hW', trodAll_mk1 (shut_bool Try.underlying4 _), (trodAll_cons_mk (Below.trod laidOut (by kernel_rfl) (of_decide_eq_true (by kernel_rfl)) k0 bel lt0) (trodAll_cons_mk (Below.trod laidOut (by kernel_rfl) (of_decide_eq_true (by kernel_rfl)) k1 bel lt1) trodAll_mk0)), rfl, bel.frame _, fun h => by cases h⟩
end TreePageAtf

theorem fnExactPageAt_holds : Rows.FnExactPageAtSaid :=
  OpenClaim.holds_of_wide 14 Try.f14 rfl rfl rfl rfl rfl rfl rfl ⟨rfl, rfl, rfl, rfl, rfl⟩ rfl rfl rfl rfl rfl (by kernel_rfl) Try.func14 (by kernel_rfl)
    (of_decide_eq_true (by kernel_rfl)) (by unfold Func.isWrapper; first | (rw [if_pos (by decide +kernel)]; kernel_rfl) | (rw [if_neg (by decide +kernel)]; exact ⟨rfl, rfl⟩))
    (fun os started H enc _ => TreePageAtf.lifted os started H enc)
#print axioms fnExactPageAt_holds
end Go.Proofs.Ytklicfcafpehfaa
