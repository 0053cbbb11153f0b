/- At every value the program's depth of a value answers as the specification's does, and the value reads as before; no condition. -/
import Derived.Test.YtfjahgnennnncaiDepthL
import Derived.ProofKit
import Derived.OpenShut
import Derived.ShutString
import Derived.ChangeOld
import Derived.Below
import Derived.Lib.SmallJoins
namespace Go.Proofs.Ytfjahgnennnncai
open Go.ChangeShapes Go.WideShapes Go.ChangeAt Go.RowKit Go.Joins
open Go.ChangeMaps (open_string shut_string)
set_option linter.unusedVariables false
namespace PDepthOf

set_option maxHeartbeats 1000000 in
theorem walk (k n : Int) (t : ByteArray) (hs : t.size ≤ maxLen) (_ : (Lit.int .i64 k).wf = true) (_ : (Lit.int .i64 n).wf = true) (w : World) :
    Calls Try.prog 3 #[.agg #[.int .i64 k, .int .i64 n, .string t]] w fun e w' => e = .returned (.bool true) ∧ Below w.heap.size w w' := by
  by_cases hbig : (1048576 : Int) < t.size
  · go_enter Try.func3, Try.ntmps3
    go_wp2_with (go_at_call 4; refine (szValue_any k n t _ _ hs (by omega) (by omega)).mono ?_; rintro e w1 ⟨rfl, hb1⟩; rw [if_pos hbig])
    go_ret
    exact ⟨rfl, ((Below.refl _ _).alloc (Nat.le_refl _) _).trans (hb1.mono (by simp))⟩
  · have hs1 : t.size ≤ 1048576 := by omega
    have X0 := Boxed.start w (.int .i64 k) (.int .i64 n) (.string t) 23
    have hpos : ¬ ((1048576 : Int) - (t.size : Int) < 0) := by omega
    cases hB : okB ⟨k, n, t⟩
    · have HB : Hid _ := hB
      clear hB
      go_enter Try.func3, Try.ntmps3
      go_wp2_with (first | (go_at_call 4; refine (szValue_any k n t _ _ hs (by omega) (by omega)).mono ?_; rintro e w1 ⟨rfl, hb⟩; rw [if_neg hbig]; have X := Boxed.step (by assumption) hb; have g0 := X.c0; have g1 := X.c1; have g2 := X.c2; clear hb) | (go_at_call 6; refine (toValue_any k n t _).mono ?_; rintro e w2 ⟨rfl, hb⟩; have X := Boxed.step (by assumption) hb; have g0 := X.c0; have g1 := X.c1; have g2 := X.c2; clear hb) | (go_at_call 5; refine (specDepth_bad k n t _ hs1 HB.out).mono ?_; rintro e w3 ⟨rfl, hb⟩; have X := Boxed.step (by assumption) hb; have g0 := X.c0; have g1 := X.c1; have g2 := X.c2; clear hb) | (go_at_call 7; refine (depth_bad k n t _ hs HB.out).mono ?_; rintro e w4 ⟨rfl, hb⟩; have X := Boxed.step (by assumption) hb; have g0 := X.c0; have g1 := X.c1; have g2 := X.c2; clear hb))
      go_ret
      exact ⟨rfl, X.bel⟩
    · have HB : Hid _ := hB
      clear hB
      go_enter Try.func3, Try.ntmps3
      go_wp2_with (first | (go_at_call 4; refine (szValue_any k n t _ _ hs (by omega) (by omega)).mono ?_; rintro e w1 ⟨rfl, hb⟩; rw [if_neg hbig]; have X := Boxed.step (by assumption) hb; have g0 := X.c0; have g1 := X.c1; have g2 := X.c2; clear hb) | (go_at_call 6; refine (toValue_any k n t _).mono ?_; rintro e w2 ⟨rfl, hb⟩; have X := Boxed.step (by assumption) hb; have g0 := X.c0; have g1 := X.c1; have g2 := X.c2; clear hb) | (go_at_call 5; refine (specDepth_ok k n t _ hs1 HB.out).mono ?_; rintro e w3 ⟨rfl, hb⟩; have X := Boxed.step (by assumption) hb; have g0 := X.c0; have g1 := X.c1; have g2 := X.c2; clear hb) | (go_at_call 7; refine (depth_ok k n t _ hs1 HB.out).mono ?_; rintro e w4 ⟨rfl, hb⟩; have X := Boxed.step (by assumption) hb; have g0 := X.c0; have g1 := X.c1; have g2 := X.c2; clear hb))
      go_ret
      exact ⟨rfl, X.bel⟩

theorem own : ownKnob Try.prog.godebug = none := by kernel_rfl
theorem laidOut : laidOutB Try.prog = true := by kernel_rfl
theorem cellsV : Try.prog.cellsOf 23 = 3 := by kernel_rfl

set_option maxRecDepth 100000 in
theorem lifted (os : Os) (started : os.Started) (H : Type) (enc : TypeId × Value → H) :
    ReturnsInHanded {} Try.checked os 3 .any (Rows.fnExactDepthOfSpec.pre6 enc Try.prog Try.f3 Rows.fnExactDepthOfRow.domain false) (Rows.fnExactDepthOfSpec.post enc Try.prog Try.f3 false true false false) := by
  refine returnsInHanded_of_change (C := Try.checked) own started (by kernel_rfl) Try.func3
    (ChangeSpec.witness6 (enc := enc) (C := Try.checked) false ⟨#[], #[.agg #[.int .i64 0, .int .i64 0, .string ByteArray.empty]], []⟩ 8 (by kernel_rfl) (by kernel_rfl) (by kernel_rfl) (by kernel_rfl)) ?_
  intro W base args ds gs before hval0 hW hcnd _
  have hval : ∀ (j : Nat) t v, Try.f3.params[j]? = some t → args[j]? = some v → Value.okWide Try.prog W .any base t v := hval0
  have hW' := hW
  obtain ⟨p, q, hA0, hV, rfl, hfz, hnd⟩ := hW
  have hA : DataW.TrodAll enc Try.prog W 0 (fun _ => true) true Try.f3.params.toList args.toList ds p := hA0
  rw [Try.params3] at hA hval
  obtain ⟨v0, vs0, d0, ds0, p0, q0, hargs, rfl, rfl, h0, r0⟩ := trodAll_cons hA
  obtain ⟨rfl, rfl, rfl⟩ := trodAll_nil r0
  obtain rfl : args = #[v0] := by cases args; simp_all
  obtain ⟨rfl, rfl⟩ := trodVars_none hV
  have k0 := h0
  have lt0 : ∀ x ∈ p0, x.block < W.heap.size := by obtain ⟨m, hm⟩ := k0; exact DataW.trod_lt m _ _ _ hm
  obtain ⟨c00, c01, c02, y00, y01, y02, m0, rfl, hd0, hp0, hy00, hy01, hy02⟩ := open_agg3 Try.underlying23 (by kernel_rfl) cellsV (hval 0 23 v0 rfl rfl) h0
  obtain ⟨a0, e00, _, wa0⟩ := DataW.trod_int Try.underlying3 hy00
  obtain ⟨b0, e01, _, wb0⟩ := DataW.trod_int Try.underlying3 hy01
  obtain ⟨s0, e02, _, ws0⟩ := DataW.trod_string Try.underlying9 hy02
  simp at e00 e01 e02
  subst e00 e01 e02
  clear hA0 hval0
  refine (walk a0 b0 s0 ws0 wa0 wb0 W).mono fun e W' ⟨he, bel⟩ => ?_
  subst he
  exact ⟨_, rfl, _, _, _, [], _, [], hW', trodAll_mk1 (shut_bool Try.underlying4 _), (trodAll_cons_mk (Below.trod laidOut (by kernel_rfl) (of_decide_eq_true (by kernel_rfl)) k0 bel lt0) trodAll_mk0), rfl, bel.frame _, fun h => by cases h⟩
end PDepthOf

theorem fnExactDepthOf_holds : Rows.FnExactDepthOfSaid :=
  OpenClaim.holds_of_wide 3 Try.f3 rfl rfl rfl rfl rfl rfl rfl ⟨rfl, rfl, rfl, rfl, rfl⟩ rfl rfl rfl rfl rfl (by kernel_rfl) Try.func3 (by kernel_rfl)
    (of_decide_eq_true (by kernel_rfl)) (by unfold Func.isWrapper; first | (rw [if_pos (by decide +kernel)]; kernel_rfl) | (rw [if_neg (by decide +kernel)]; exact ⟨rfl, rfl⟩))
    (fun os started H enc _ => PDepthOf.lifted os started H enc)
#print axioms fnExactDepthOf_holds
end Go.Proofs.Ytfjahgnennnncai
