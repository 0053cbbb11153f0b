/- For every tree that a caller can hand in: the program's TreeOK answers as the specification does, and changes nothing of what it was given; no condition. -/
import Derived.Test.YtklicfcafpehfaaTrL
import Derived.Test.YtklicfcafpehfaaRows
import Derived.ProofKit
import Derived.OpenShut
import Derived.ShutString
import Derived.ChangeOld
import Derived.Below
import Derived.Lib.SmallJoins
namespace Go.Proofs.Ytklicfcafpehfaa
open Go.ChangeShapes Go.WideShapes Go.ChangeAt Go.RowKit Go.Joins
open Go.ChangeMaps (open_string shut_string)
set_option linter.unusedVariables false
namespace TreeOKf
open Tr

set_option maxRecDepth 8000 in
set_option maxHeartbeats 2000000 in
theorem walk (a : Option Addr) (cap : Nat) (f : List Pg) (next : Int) (hl : f.length ≤ maxLen) (hs : ∀ l ∈ f, maxP l) (w : World) (hin : InP w a f) :
    Calls Try.prog 9 #[.agg #[.slice a f.length cap, .int .i64 next]] w fun e w' => e = .returned (.bool true) ∧ Below w.heap.size w w' := by
  have hb0 : Below w.heap.size w (w.alloc (.cells #[.slice a f.length cap, .int .i64 next] 81)) := (Below.refl _ _).alloc (Nat.le_refl _) _
  have c0 : (w.alloc (.cells #[.slice a f.length cap, .int .i64 next] 81)).cell? ⟨w.heap.size, 0, none⟩ = some (.slice a f.length cap) := by simp [go_sem]
  have d0 : (w.alloc (.cells #[.slice a f.length cap, .int .i64 next] 81)).cell? ⟨w.heap.size, 1, none⟩ = some (.int .i64 next) := by simp [go_sem]
  have hl0 : w.heap.size < (w.alloc (.cells #[.slice a f.length cap, .int .i64 next] 81)).heap.size := by simp
  have HZ : Hid (Calls _ _ _ _ _) := szTree_any a cap f next 1048576 (w.alloc (.cells #[.slice a f.length cap, .int .i64 next] 81)) (hin.step hb0) hl hs (by omega) (by omega)
  have HIN : Hid (InP _ _ _) := hin.step hb0
  clear hin hs
  go_enter Try.func9, Try.ntmps9
  go_wp2_with fail
  generalize w.alloc (.cells #[.slice a f.length cap, .int .i64 next] 81) = W0 at hb0 c0 d0 hl0 HZ HIN ⊢
  refine HZ.out.mono ?_
  rintro e w1 ⟨⟨r, rfl, hr⟩, hb⟩
  have B1 := hb0.trans (hb.mono hb0.size)
  have k1 := (hb.cell hl0).trans c0
  have d1 := (hb.cell hl0).trans d0
  have l1 : w.heap.size < w1.heap.size := Nat.lt_of_lt_of_le hl0 hb.size
  have HIN1 : Hid (InP _ _ _) := HIN.out.step hb
  clear hb HIN HZ c0 d0 hl0 hb0
  rcases hr with hneg | ⟨hr0, hr1, hr2, hr3⟩
  · go_wp2_with fail
    go_ret
    exact ⟨rfl, B1⟩
  have hnn : ¬ r < 0 := by omega
  have HSZ : Hid (∀ l ∈ f, szP l) := hr3
  have HSL : Hid (∀ l ∈ f, l.es.length ≤ 1048576) := fun l hl => (hr3 l hl).1
  clear hr3
  obtain ⟨R, hR⟩ : ∃ R, R = treeB f next := ⟨_, rfl⟩
  have HR : Hid _ := hR
  clear hR
  go_wp2_with fail
  refine (toTree_any a cap f next _ HIN1.out hr2 HSL.out).mono ?_
  rintro e w2 ⟨⟨g2, rfl, R2⟩, hb⟩
  have B2 := B1.trans (hb.mono B1.size)
  have k2 := (hb.cell l1).trans k1
  have d2 := (hb.cell l1).trans d1
  have l2 : w.heap.size < w2.heap.size := Nat.lt_of_lt_of_le l1 hb.size
  have HIN2 : Hid (InP _ _ _) := HIN1.out.step hb
  have HR2 : Hid (OwnT _ _ _ _) := R2
  clear hb HIN1 k1 d1 l1 B1 R2
  go_wp2_with fail
  refine (specTreeOK_any _ _ f next _ HR2.out.rowP hr2 HSZ.out).mono ?_
  rintro e w3 ⟨rfl, hb⟩
  rw [← HR.out]
  have B3 := B2.trans (hb.mono B2.size)
  have k3 := (hb.cell l2).trans k2
  have d3 := (hb.cell l2).trans d2
  have l3 : w.heap.size < w3.heap.size := Nat.lt_of_lt_of_le l2 hb.size
  have HIN3 : Hid (InP _ _ _) := HIN2.out.step hb
  clear hb HIN2 k2 d2 l2 B2 HR2
  go_wp2_with fail
  refine (toTree_any a cap f next _ HIN3.out hr2 HSL.out).mono ?_
  rintro e w4 ⟨⟨g4, rfl, R4⟩, hb⟩
  have hbA : Below w3.heap.size w3 (w4.alloc (.cells #[.slice (some ⟨g4, 0, none⟩) f.length f.length, .int .i64 next] 51)) := hb.alloc hb.size _
  have B5 := B3.trans (hbA.mono B3.size)
  have k5 := (hbA.cell l3).trans k3
  have d5 := (hbA.cell l3).trans d3
  have l5 : w.heap.size < (w4.alloc (.cells #[.slice (some ⟨g4, 0, none⟩) f.length f.length, .int .i64 next] 51)).heap.size := Nat.lt_of_lt_of_le l3 hbA.size
  have HIN5 : Hid (InP _ _ _) := HIN3.out.step hbA
  have HR5 : Hid (OwnT _ _ _ _) := R4.next ((Below.refl _ _).alloc (Nat.le_refl _) (.cells #[.slice (some ⟨g4, 0, none⟩) f.length f.length, .int .i64 next] 51))
  have y5 : (w4.alloc (.cells #[.slice (some ⟨g4, 0, none⟩) f.length f.length, .int .i64 next] 51)).cell? ⟨w4.heap.size, 1, none⟩ = some (.int .i64 next) := by simp [go_sem]
  have x5 : (w4.alloc (.cells #[.slice (some ⟨g4, 0, none⟩) f.length f.length, .int .i64 next] 51)).cell? ⟨w4.heap.size, 0, none⟩ = some (.slice (some ⟨g4, 0, none⟩) f.length f.length) := by simp [go_sem]
  have m5 : w4.heap.size < (w4.alloc (.cells #[.slice (some ⟨g4, 0, none⟩) f.length f.length, .int .i64 next] 51)).heap.size := by simp
  clear hb hbA HIN3 k3 d3 l3 B3 R4
  go_wp2_with fail
  generalize w4.alloc (.cells #[.slice (some ⟨g4, 0, none⟩) f.length f.length, .int .i64 next] 51) = W5 at B5 k5 d5 l5 HIN5 HR5 x5 y5 m5 ⊢
  obtain ⟨bx, hbx⟩ : ∃ bx, bx = w4.heap.size := ⟨_, rfl⟩
  rw [← hbx] at x5 y5 m5 ⊢
  clear hbx
  refine (treeOK_any _ _ f next _ HR5.out.rowP hr2 (Nat.le_refl _) HSZ.out).mono ?_
  rintro e w6 ⟨rfl, hb⟩
  rw [← HR.out]
  have B6 := B5.trans (hb.mono B5.size)
  have k6 := (hb.cell l5).trans k5
  have d6 := (hb.cell l5).trans d5
  have l6 : w.heap.size < w6.heap.size := Nat.lt_of_lt_of_le l5 hb.size
  have x6 := (hb.cell m5).trans x5
  have y6 := (hb.cell m5).trans y5
  have m6 : bx < w6.heap.size := Nat.lt_of_lt_of_le m5 hb.size
  have HIN6 : Hid (InP _ _ _) := HIN5.out.step hb
  have HR6 : Hid (OwnT _ _ _ _) := HR5.out.next hb
  clear hb HIN5 k5 d5 l5 B5 HR5 x5 y5 m5
  go_wp2_with fail
  go_region_with (first | (go_at_call 56; refine (toTree_any a cap f next _ (HIN6.out.step (by (repeat (first | (with_reducible exact Below.refl _ _) | (with_reducible assumption) | (with_reducible apply below_drewN) | (with_reducible apply Below.drew) | ((with_reducible refine Below.setCell ?_ ?_ _); rotate_left; focus (first | (simp; done) | (simp; omega) | omega)) | ((with_reducible refine Below.alloc ?_ ?_ _); rotate_left; focus (first | (simp; done) | (simp; omega) | omega)))))) hr2 HSL.out).mono ?_; rintro e w7 ⟨⟨g7, rfl, R7⟩, hb⟩; have hB7 : Below w6.heap.size w6 w7 := (show Below w6.heap.size w6 _ by (repeat (first | (with_reducible exact Below.refl _ _) | (with_reducible assumption) | (with_reducible apply below_drewN) | (with_reducible apply Below.drew) | ((with_reducible refine Below.setCell ?_ ?_ _); rotate_left; focus (first | (simp; done) | (simp; omega) | omega)) | ((with_reducible refine Below.alloc ?_ ?_ _); rotate_left; focus (first | (simp; done) | (simp; omega) | omega))))).trans (hb.mono (by simp)); have x7 := (hB7.cell m6).trans x6; have y7 := (hB7.cell m6).trans y6; have k7 := (hB7.cell l6).trans k6; have d7 := (hB7.cell l6).trans d6; have HR7 : Hid (OwnT _ _ _ _) := R7; clear R7 hb) | (go_at_call 51; refine (eqTree_same _ _ _ _ f next _ (HR6.out.next hB7).rowP HR7.out.rowP hr2 HSL.out).mono ?_; rintro e w8 ⟨rfl, hb⟩; have hB8 := hB7.trans (hb.mono hB7.size); clear hb))
  all_goals
    have hbz := B6.trans (hB8.mono B6.size)
    go_wp2_with fail
    go_ret
    exact ⟨rfl, hbz⟩

theorem own : ownKnob Try.prog.godebug = none := by kernel_rfl
theorem laidOut : laidOutB Try.prog = true := by kernel_rfl

set_option maxRecDepth 100000 in
theorem lifted (os : Os) (started : os.Started) (H : Type) (enc : TypeId × Value → H) :
    ReturnsInHanded {} Try.checked os 9 .any (Rows.fnExactTreeOKSpec.pre6 enc Try.prog Try.f9 Rows.fnExactTreeOKRow.domain false) (Rows.fnExactTreeOKSpec.post enc Try.prog Try.f9 false true false false) := by
  refine returnsInHanded_of_change (C := Try.checked) own started (by kernel_rfl) Try.func9
    (ChangeSpec.witness6 (enc := enc) (C := Try.checked) false ⟨#[], #[.agg #[.slice none 0 0, .int .i64 0]], []⟩ 8 (by kernel_rfl) (by kernel_rfl) (by kernel_rfl) (by kernel_rfl)) ?_
  intro W base args ds gs before hval0 hW hcnd _
  have hval : ∀ (j : Nat) t v, Try.f9.params[j]? = some t → args[j]? = some v → Value.okWide Try.prog W .any base t v := hval0
  have hW' := hW
  obtain ⟨p, q, hA0, hV, rfl, hfz, hnd⟩ := hW
  have hA : DataW.TrodAll enc Try.prog W 0 (fun _ => true) true Try.f9.params.toList args.toList ds p := hA0
  rw [Try.params9] at hA hval
  obtain ⟨v0, vs0, d0, ds0, p0, q0, hargs, rfl, rfl, h0, r0⟩ := trodAll_cons hA
  obtain ⟨rfl, rfl, rfl⟩ := trodAll_nil r0
  obtain rfl : args = #[v0] := by cases args; simp_all
  obtain ⟨rfl, rfl⟩ := trodVars_none hV
  have k0 := h0
  have lt0 : ∀ x ∈ p0, x.block < W.heap.size := by obtain ⟨m, hm⟩ := k0; exact DataW.trod_lt m _ _ _ hm
  obtain ⟨x0, cap0, f0, nx0, rfl, hl0, hs0, i0⟩ := open_tree (hval 0 81 v0 rfl rfl) h0
  clear hA0 hval0
  refine (walk x0 cap0 f0 nx0 hl0 hs0 W i0).mono fun e W' ⟨he, bel⟩ => ?_
  subst he
  exact ⟨_, rfl, _, _, _, [], _, [], hW', trodAll_mk1 (shut_bool Try.underlying4 _), (trodAll_cons_mk (Below.trod laidOut (by kernel_rfl) (of_decide_eq_true (by kernel_rfl)) k0 bel lt0) trodAll_mk0), rfl, bel.frame _, fun h => by cases h⟩
end TreeOKf

theorem fnExactTreeOK_holds : Rows.FnExactTreeOKSaid :=
  OpenClaim.holds_of_wide 9 Try.f9 rfl rfl rfl rfl rfl rfl rfl ⟨rfl, rfl, rfl, rfl, rfl⟩ rfl rfl rfl rfl rfl (by kernel_rfl) Try.func9 (by kernel_rfl)
    (of_decide_eq_true (by kernel_rfl)) (by unfold Func.isWrapper; first | (rw [if_pos (by decide +kernel)]; kernel_rfl) | (rw [if_neg (by decide +kernel)]; exact ⟨rfl, rfl⟩))
    (fun os started H enc _ => TreeOKf.lifted os started H enc)
#print axioms fnExactTreeOK_holds
end Go.Proofs.Ytklicfcafpehfaa
