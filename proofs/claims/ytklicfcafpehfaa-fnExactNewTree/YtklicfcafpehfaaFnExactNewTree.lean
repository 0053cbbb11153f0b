/- At its one call: the program's NewTree answers as the specification does, and its answer owns its memory; no condition. -/
import Derived.Test.YtklicfcafpehfaaTrZ
import Derived.Test.YtklicfcafpehfaaRows
import Derived.ProofKit
import Derived.OpenShut
import Derived.ShutString
import Derived.ChangeOld
import Derived.Below
import Derived.Lib.SmallJoins
namespace Go.Proofs.Ytklicfcafpehfaa
open Go.ChangeShapes Go.WideShapes Go.ChangeAt Go.RowKit Go.Joins
open Go.ChangeMaps (open_string shut_string)
set_option linter.unusedVariables false
namespace TreeNewf
open Tr

set_option maxRecDepth 8000 in
set_option maxHeartbeats 4000000 in
theorem walk (w : World) :
    Calls Try.prog 8 #[] w fun e w' => e = .returned (.bool true) ∧ Below w.heap.size w w' := by
  have hN1 : newT.length ≤ 1048576 := by decide
  have hN2 : ∀ l ∈ newT, l.es.length ≤ 1048576 := by intro l hl; simp [newT] at hl; subst hl; simp
  have HN2 : Hid _ := hN2
  clear hN2
  go_enter Try.func8, Try.ntmps8
  go_wp2_with fail
  refine (specNewTree_any w).mono ?_
  rintro e w1 ⟨⟨v0, rfl, hO0⟩, hb1⟩
  have H0 : Hid (OwnH _ _ _ _ _) := hO0.ownH.next ((Below.refl _ _).alloc (Nat.le_refl _) (.cells #[.slice (some ⟨v0, 0, none⟩) 1 1, .int .i64 2] 51))
  have B1 : Below w.heap.size w (w1.alloc (.cells #[.slice (some ⟨v0, 0, none⟩) 1 1, .int .i64 2] 51)) := hb1.alloc hb1.size _
  have x0 : (w1.alloc (.cells #[.slice (some ⟨v0, 0, none⟩) 1 1, .int .i64 2] 51)).cell? ⟨w1.heap.size, 0, none⟩ = some (.slice (some ⟨v0, 0, none⟩) 1 1) := by simp [go_sem]
  have x1 : (w1.alloc (.cells #[.slice (some ⟨v0, 0, none⟩) 1 1, .int .i64 2] 51)).cell? ⟨w1.heap.size, 1, none⟩ = some (.int .i64 2) := by simp [go_sem]
  have hs1 : (w1.alloc (.cells #[.slice (some ⟨v0, 0, none⟩) 1 1, .int .i64 2] 51)).heap.size = w1.heap.size + 1 := by simp
  clear hO0 hb1
  go_wp2_with fail
  generalize w1.alloc (.cells #[.slice (some ⟨v0, 0, none⟩) 1 1, .int .i64 2] 51) = W1 at H0 B1 x0 x1 hs1 ⊢
  obtain ⟨b1, hb1⟩ : ∃ b1, b1 = w1.heap.size := ⟨_, rfl⟩
  rw [← hb1] at H0 x0 x1 hs1 ⊢
  clear hb1
  refine (newTree_any W1).mono ?_
  rintro e w2 ⟨⟨v1, rfl, hO1⟩, hb2⟩
  have hbA : Below W1.heap.size W1 (w2.alloc (.cells #[.slice (some ⟨v1, 0, none⟩) 1 1, .int .i64 2] 51)) := hb2.alloc hb2.size _
  have H1 : Hid (OwnH _ _ _ _ _) := hO1.ownH.next ((Below.refl _ _).alloc (Nat.le_refl _) (.cells #[.slice (some ⟨v1, 0, none⟩) 1 1, .int .i64 2] 51))
  have H0' : Hid (OwnH _ _ _ _ _) := H0.out.next hbA
  have B2 := B1.trans (hbA.mono B1.size)
  have l1 : b1 < W1.heap.size := by omega
  have x0' := (hbA.cell l1).trans x0
  have x1' := (hbA.cell l1).trans x1
  have y0 : (w2.alloc (.cells #[.slice (some ⟨v1, 0, none⟩) 1 1, .int .i64 2] 51)).cell? ⟨w2.heap.size, 0, none⟩ = some (.slice (some ⟨v1, 0, none⟩) 1 1) := by simp [go_sem]
  have y1 : (w2.alloc (.cells #[.slice (some ⟨v1, 0, none⟩) 1 1, .int .i64 2] 51)).cell? ⟨w2.heap.size, 1, none⟩ = some (.int .i64 2) := by simp [go_sem]
  have hs2 : (w2.alloc (.cells #[.slice (some ⟨v1, 0, none⟩) 1 1, .int .i64 2] 51)).heap.size = w2.heap.size + 1 := by simp
  have hz2 := hb2.size
  have hwz := B1.size
  clear hO1 hb2 hbA B1 x0 x1 H0
  go_wp2_with fail
  generalize w2.alloc (.cells #[.slice (some ⟨v1, 0, none⟩) 1 1, .int .i64 2] 51) = W2 at H1 H0' B2 x0' x1' y0 y1 hs2 ⊢
  obtain ⟨b2, hb2⟩ : ∃ b2, b2 = w2.heap.size := ⟨_, rfl⟩
  rw [← hb2] at H1 y0 y1 hs2 hz2 ⊢
  clear hb2
  refine (eqTree_same (some ⟨v1, 0, none⟩) (some ⟨v0, 0, none⟩) 1 1 newT 2 W2 H1.out.ownT.rowP H0'.out.ownT.rowP hN1 HN2.out).mono ?_
  rintro e w3 ⟨rfl, hb3⟩
  have G1 : Hid (OwnH _ _ _ _ _) := H1.out.next hb3
  have G0 : Hid (OwnH _ _ _ _ _) := H0'.out.next hb3
  have B3 := B2.trans (hb3.mono B2.size)
  have l2 : b1 < W2.heap.size := by omega
  have l3 : b2 < W2.heap.size := by omega
  have p0 := (hb3.cell l2).trans x0'
  have p1 := (hb3.cell l2).trans x1'
  have q0 := (hb3.cell l3).trans y0
  have q1 := (hb3.cell l3).trans y1
  have hz3 := hb3.size
  clear hb3 x0' x1' y0 y1 B2 H1 H0'
  go_wp2_with fail
  refine (markTree_any W1.heap.size b2 (.slice (some ⟨v1, 0, none⟩) 1 1) newT 2 w3 G1.out (by omega) hN1 HN2.out).mono ?_
  rintro e w4 ⟨rfl, hM, hc⟩
  have K1 : Hid (OwnH _ _ _ _ _) := hM
  have K0 : Hid (OwnH _ _ _ _ _) := G0.out.chg hc (.inl (by omega))
  have B4 := B3.trans (hc.below hwz B3.size)
  have r0 := (hc.cell (b := b1) (o := 0) (by omega) (.inl (by omega))).trans p0
  have r1 := (hc.cell (b := b1) (o := 1) (by omega) (.inl (by omega))).trans p1
  have s0 := (hc.cell (b := b2) (o := 0) (by omega) (.inr (by omega))).trans q0
  have s1 := (hc.cell (b := b2) (o := 1) (by omega) (.inr (by omega))).trans q1
  have hz4 := hc.size
  clear hM hc p0 p1 q0 q1 B3 G1 G0
  have he : endP 1 newT = 2 := rfl
  rw [he]
  clear he
  go_wp2_with fail
  refine (heldTree_any (some ⟨v1, 0, none⟩) 1 newT 2 w4 K1.out.ownT.rowP hN1 HN2.out).mono ?_
  rintro e w5 ⟨rfl, hb5⟩
  have M1 : Hid (OwnH _ _ _ _ _) := K1.out.next hb5
  have M0 : Hid (OwnH _ _ _ _ _) := K0.out.next hb5
  have B5 := B4.trans (hb5.mono B4.size)
  have l4 : b1 < w4.heap.size := by omega
  have l5 : b2 < w4.heap.size := by omega
  have t0 := (hb5.cell l4).trans r0
  have t1 := (hb5.cell l4).trans r1
  have u0 := (hb5.cell l5).trans s0
  have u1 := (hb5.cell l5).trans s1
  have hz5 := hb5.size
  clear hb5 r0 r1 s0 s1 B4 K1 K0
  have he : endP 1 newT = 2 := rfl
  rw [he]
  clear he
  go_wp2_with fail
  refine (newTree_any w5).mono ?_
  rintro e w6 ⟨⟨v2, rfl, hO2⟩, hb6⟩
  have hbA : Below w5.heap.size w5 (w6.alloc (.cells #[.slice (some ⟨v2, 0, none⟩) 1 1, .int .i64 2] 51)) := hb6.alloc hb6.size _
  have H2 : Hid (OwnH _ _ _ _ _) := hO2.ownH.next ((Below.refl _ _).alloc (Nat.le_refl _) (.cells #[.slice (some ⟨v2, 0, none⟩) 1 1, .int .i64 2] 51))
  have N1 : Hid (OwnH _ _ _ _ _) := M1.out.next hbA
  have N0 : Hid (OwnH _ _ _ _ _) := M0.out.next hbA
  have B6 := B5.trans (hbA.mono B5.size)
  have l6 : b1 < w5.heap.size := by omega
  have l7 : b2 < w5.heap.size := by omega
  have a0 := (hbA.cell l6).trans t0
  have a1 := (hbA.cell l6).trans t1
  have c0 := (hbA.cell l7).trans u0
  have c1 := (hbA.cell l7).trans u1
  have hzA := hbA.size
  clear hO2 hb6 hbA t0 t1 u0 u1 B5 M1 M0
  go_wp2_with fail
  have d0 : (w6.alloc (.cells #[.slice (some ⟨v2, 0, none⟩) 1 1, .int .i64 2] 51)).cell? ⟨w6.heap.size, 0, none⟩ = some (.slice (some ⟨v2, 0, none⟩) 1 1) := by simp [go_sem]
  have d1 : (w6.alloc (.cells #[.slice (some ⟨v2, 0, none⟩) 1 1, .int .i64 2] 51)).cell? ⟨w6.heap.size, 1, none⟩ = some (.int .i64 2) := by simp [go_sem]
  generalize w6.alloc (.cells #[.slice (some ⟨v2, 0, none⟩) 1 1, .int .i64 2] 51) = W6 at H2 N1 N0 B6 a0 a1 c0 c1 d0 d1 hzA ⊢
  refine (eqTree_same (some ⟨v2, 0, none⟩) (some ⟨v0, 0, none⟩) 1 1 newT 2 W6 H2.out.ownT.rowP N0.out.ownT.rowP hN1 HN2.out).mono ?_
  rintro e w7 ⟨rfl, hb7⟩
  have O1 : Hid (OwnH _ _ _ _ _) := N1.out.next hb7
  have B7 := B6.trans (hb7.mono B6.size)
  have l8 : b2 < W6.heap.size := by omega
  have e0' := (hb7.cell l8).trans c0
  have e1' := (hb7.cell l8).trans c1
  clear hb7 a0 a1 c0 c1 d0 d1 B6 N1 N0 H2
  go_wp2_with fail
  refine (heldTree_any (some ⟨v1, 0, none⟩) 1 newT 2 w7 O1.out.ownT.rowP hN1 HN2.out).mono ?_
  rintro e w8 ⟨rfl, hb8⟩
  have B8 := B7.trans (hb8.mono B7.size)
  clear hb8
  have he : endP 1 newT = 2 := rfl
  rw [he]
  clear he
  go_wp2_with fail
  go_ret
  exact ⟨rfl, B8⟩

theorem own : ownKnob Try.prog.godebug = none := by kernel_rfl
theorem laidOut : laidOutB Try.prog = true := by kernel_rfl

set_option maxRecDepth 100000 in
theorem lifted (os : Os) (started : os.Started) (H : Type) (enc : TypeId × Value → H) :
    ReturnsInHanded {} Try.checked os 8 .any (Rows.fnExactNewTreeSpec.pre6 enc Try.prog Try.f8 Rows.fnExactNewTreeRow.domain false) (Rows.fnExactNewTreeSpec.post enc Try.prog Try.f8 false true false false) := by
  refine returnsInHanded_of_change (C := Try.checked) own started (by kernel_rfl) Try.func8
    (ChangeSpec.witness6 (enc := enc) (C := Try.checked) false ⟨#[], #[], []⟩ 8 (by kernel_rfl) (by kernel_rfl) (by kernel_rfl) (by kernel_rfl)) ?_
  intro W base args ds gs before hval0 hW hcnd _
  have hval : ∀ (j : Nat) t v, Try.f8.params[j]? = some t → args[j]? = some v → Value.okWide Try.prog W .any base t v := hval0
  have hW' := hW
  obtain ⟨p, q, hA0, hV, rfl, hfz, hnd⟩ := hW
  have hA : DataW.TrodAll enc Try.prog W 0 (fun _ => true) true Try.f8.params.toList args.toList ds p := hA0
  rw [Try.params8] at hA hval
  obtain ⟨hargs, rfl, rfl⟩ := trodAll_nil hA
  obtain rfl : args = #[] := by cases args; simp_all
  obtain ⟨rfl, rfl⟩ := trodVars_none hV
  clear hA0 hval0
  refine (walk  W).mono fun e W' ⟨he, bel⟩ => ?_
  subst he
  exact ⟨_, rfl, _, _, _, [], _, [], hW', trodAll_mk1 (shut_bool Try.underlying4 _), trodAll_mk0, rfl, bel.frame _, fun h => by cases h⟩
end TreeNewf

theorem fnExactNewTree_holds : Rows.FnExactNewTreeSaid :=
  OpenClaim.holds_of_wide 8 Try.f8 rfl rfl rfl rfl rfl rfl rfl ⟨rfl, rfl, rfl, rfl, rfl⟩ rfl rfl rfl rfl rfl (by kernel_rfl) Try.func8 (by kernel_rfl)
    (of_decide_eq_true (by kernel_rfl)) (by unfold Func.isWrapper; first | (rw [if_pos (by decide +kernel)]; kernel_rfl) | (rw [if_neg (by decide +kernel)]; exact ⟨rfl, rfl⟩))
    (fun os started H enc _ => TreeNewf.lifted os started H enc)
#print axioms fnExactNewTree_holds
end Go.Proofs.Ytklicfcafpehfaa
