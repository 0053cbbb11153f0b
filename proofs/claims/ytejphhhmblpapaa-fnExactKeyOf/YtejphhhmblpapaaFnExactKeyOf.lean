/- For every value of right size KeyOf answers as the specification, rising and falling. -/
import Derived.Test.YtejphhhmblpapaaKeyV
import Derived.ProofKit
import Derived.OpenShut
import Derived.ShutString
import Derived.ChangeOld
import Derived.Below
import Derived.Lib.SmallJoins
namespace Go.Proofs.Ytejphhhmblpapaa
open Go.ChangeShapes Go.WideShapes Go.ChangeAt Go.RowKit Go.Joins
open Go.ChangeMaps (open_string shut_string)
set_option linter.unusedVariables false
namespace KeyOfLaw

set_option maxRecDepth 4000 in
set_option maxHeartbeats 1000000 in
theorem walk (k n : Int) (t : ByteArray) (hs : t.size ≤ maxLen) (_ : (Lit.int .i64 k).wf = true) (_ : (Lit.int .i64 n).wf = true) (desc : Bool) (w : World) :
    Calls Try.prog 6 #[.agg #[.int .i64 k, .int .i64 n, .string t], .bool desc] w fun e w' => e = .returned (.bool true) ∧ Below w.heap.size w w' := by
  have X0 := Boxed.start w (.int .i64 k) (.int .i64 n) (.string t) 55
  by_cases hbig : (1048576 : Int) < t.size
  · go_enter Try.func6, Try.ntmps6
    go_wp2_with (go_at_call 30; refine (szValue_any k n t _ _ hs (by omega) (by omega)).mono ?_; rintro e w1 ⟨rfl, hb⟩; rw [if_pos hbig]; have X := Boxed.step (by assumption) hb; have g0 := X.c0; have g1 := X.c1; have g2 := X.c2; clear hb)
    go_ret
    exact ⟨rfl, X.bel⟩
  · have hs2 : t.size ≤ 1048576 := by omega
    have hpos : ¬ ((1048576 : Int) - (t.size : Int) < 0) := by omega
    obtain ⟨P, hP⟩ : ∃ P, P = keyP ⟨k, n, t⟩ desc := ⟨_, rfl⟩
    have HS0 := fun W : World => specKeyOf_any k n t desc W hs2
    have HI0 := fun W : World => implKeyOf_any k n t desc W hs2
    rw [← hP] at HS0 HI0
    obtain ⟨p1, p2⟩ := P
    have HSS : Hid _ := HS0
    have HII : Hid _ := HI0
    clear HS0 HI0 hP
    go_enter Try.func6, Try.ntmps6
    go_wp2_with (first | (go_at_call 30; refine (szValue_any k n t _ _ hs (by omega) (by omega)).mono ?_; rintro e w1 ⟨rfl, hb⟩; rw [if_neg hbig]; have X := Boxed.step (by assumption) hb; have g0 := X.c0; have g1 := X.c1; have g2 := X.c2; clear hb) | (go_at_call 31; refine (toValue_any k n t _).mono ?_; rintro e w2 ⟨rfl, hb⟩; have X := Boxed.step (by assumption) hb; have g0 := X.c0; have g1 := X.c1; have g2 := X.c2; clear hb) | (go_at_call 23; refine (HSS.out _).mono ?_; rintro e w3 ⟨rfl, hb⟩; have X := Boxed.step (by assumption) hb; have g0 := X.c0; have g1 := X.c1; have g2 := X.c2; clear hb) | (go_at_call 22; refine (HII.out _).mono ?_; rintro e w4 ⟨rfl, hb⟩; have X := Boxed.step (by assumption) hb; have g0 := X.c0; have g1 := X.c1; have g2 := X.c2; clear hb))
    go_ret
    exact ⟨rfl, X.bel⟩

theorem own : ownKnob Try.prog.godebug = none := by kernel_rfl
theorem laidOut : laidOutB Try.prog = true := by kernel_rfl
theorem cellsV : Try.prog.cellsOf 55 = 3 := by kernel_rfl

set_option maxRecDepth 100000 in
theorem lifted (os : Os) (started : os.Started) (H : Type) (enc : TypeId × Value → H) :
    ReturnsInHanded {} Try.checked os 6 .any (Rows.fnExactKeyOfSpec.pre6 enc Try.prog Try.f6 Rows.fnExactKeyOfRow.domain false) (Rows.fnExactKeyOfSpec.post enc Try.prog Try.f6 false true false false) := by
  refine returnsInHanded_of_change (C := Try.checked) own started (by kernel_rfl) Try.func6
    (ChangeSpec.witness6 (enc := enc) (C := Try.checked) false ⟨#[], #[.agg #[.int .i64 0, .int .i64 0, .string ByteArray.empty], .bool false], []⟩ 8 (by kernel_rfl) (by kernel_rfl) (by kernel_rfl) (by kernel_rfl)) ?_
  intro W base args ds gs before hval0 hW hcnd _
  have hval : ∀ (j : Nat) t v, Try.f6.params[j]? = some t → args[j]? = some v → Value.okWide Try.prog W .any base t v := hval0
  have hW' := hW
  obtain ⟨p, q, hA0, hV, rfl, hfz, hnd⟩ := hW
  have hA : DataW.TrodAll enc Try.prog W 0 (fun _ => true) true Try.f6.params.toList args.toList ds p := hA0
  rw [Try.params6] at hA hval
  obtain ⟨v0, vs0, d0, ds0, p0, q0, hargs, rfl, rfl, h0, r0⟩ := trodAll_cons hA
  obtain ⟨v1, vs1, d1, ds1, p1, q1, rfl, rfl, rfl, h1, r1⟩ := trodAll_cons r0
  obtain ⟨rfl, rfl, rfl⟩ := trodAll_nil r1
  obtain rfl : args = #[v0, v1] := by cases args; simp_all
  obtain ⟨rfl, rfl⟩ := trodVars_none hV
  have k0 := h0
  have lt0 : ∀ x ∈ p0, x.block < W.heap.size := by obtain ⟨m, hm⟩ := k0; exact DataW.trod_lt m _ _ _ hm
  obtain ⟨c00, c01, c02, y00, y01, y02, m0, rfl, hd0, hp0, hy00, hy01, hy02⟩ := open_agg3 Try.underlying55 (by kernel_rfl) cellsV (hval 0 55 v0 rfl rfl) h0
  obtain ⟨a0, e00, _, wa0⟩ := DataW.trod_int Try.underlying3 hy00
  obtain ⟨b0, e01, _, wb0⟩ := DataW.trod_int Try.underlying3 hy01
  obtain ⟨s0, e02, _, ws0⟩ := DataW.trod_string Try.underlying9 hy02
  simp at e00 e01 e02
  subst e00 e01 e02
  have k1 := h1
  have lt1 : ∀ x ∈ p1, x.block < W.heap.size := by obtain ⟨m, hm⟩ := k1; exact DataW.trod_lt m _ _ _ hm
  obtain ⟨a1, rfl, e11, e12⟩ := open_bool Try.underlying4 (hval 1 4 v1 rfl rfl) h1
  clear hA0 hval0
  refine (walk a0 b0 s0 ws0 wa0 wb0 a1 W).mono fun e W' ⟨he, bel⟩ => ?_
  subst he
  exact ⟨_, rfl, _, _, _, [], _, [], hW', trodAll_mk1 (shut_bool Try.underlying4 _), (trodAll_cons_mk (Below.trod laidOut (by kernel_rfl) (of_decide_eq_true (by kernel_rfl)) k0 bel lt0) (trodAll_cons_mk (Below.trod laidOut (by kernel_rfl) (of_decide_eq_true (by kernel_rfl)) k1 bel lt1) trodAll_mk0)), rfl, bel.frame _, fun h => by cases h⟩
end KeyOfLaw

theorem fnExactKeyOf_holds : Rows.FnExactKeyOfSaid :=
  OpenClaim.holds_of_wide 6 Try.f6 rfl rfl rfl rfl rfl rfl rfl ⟨rfl, rfl, rfl, rfl, rfl⟩ rfl rfl rfl rfl rfl (by kernel_rfl) Try.func6 (by kernel_rfl)
    (of_decide_eq_true (by kernel_rfl)) (by unfold Func.isWrapper; first | (rw [if_pos (by decide +kernel)]; kernel_rfl) | (rw [if_neg (by decide +kernel)]; exact ⟨rfl, rfl⟩))
    (fun os started H enc _ => KeyOfLaw.lifted os started H enc)
#print axioms fnExactKeyOf_holds
end Go.Proofs.Ytejphhhmblpapaa
