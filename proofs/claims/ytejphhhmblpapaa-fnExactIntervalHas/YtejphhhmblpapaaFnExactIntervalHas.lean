/- For every interval and every text of right sizes IntervalHas answers as the specification. -/
import Derived.Test.YtejphhhmblpapaaIvlH
import Derived.ProofKit
import Derived.OpenShut
import Derived.ShutString
import Derived.ChangeOld
import Derived.Below
import Derived.Lib.SmallJoins
namespace Go.Proofs.Ytejphhhmblpapaa
open Go.ChangeShapes Go.WideShapes Go.ChangeAt Go.RowKit Go.Joins
open Go.ChangeMaps (open_string shut_string)
set_option linter.unusedVariables false
namespace IntervalHasLaw

set_option maxRecDepth 8000 in
set_option maxHeartbeats 2000000 in
theorem walk (lo hi : ByteArray) (op : Bool) (hs : lo.size ≤ maxLen) (hh : hi.size ≤ maxLen) (key : ByteArray) (hk : key.size ≤ maxLen) (w : World) :
    Calls Try.prog 9 #[.agg #[.string lo, .string hi, .bool op], .string key] w fun e w' => e = .returned (.bool true) ∧ Below w.heap.size w w' := by
  have X0 := Boxed.start w (.string lo) (.string hi) (.bool op) 65
  by_cases hkb : (1048576 : Int) < key.size
  · unfold maxLen at hk
    go_enter Try.func9, Try.ntmps9
    go_wp2_with fail
    go_ret
    exact ⟨rfl, X0.bel⟩
  · by_cases hbig : (1048576 : Int) < lo.size + hi.size
    · go_enter Try.func9, Try.ntmps9
      go_wp2_with (go_at_call 39; refine (szInterval_any lo hi op _ _ hs hh (by omega) (by omega)).mono ?_; rintro e w1 ⟨rfl, hb⟩; rw [if_pos hbig]; have X := Boxed.step (by assumption) hb; have g0 := X.c0; have g1 := X.c1; have g2 := X.c2; clear hb)
      go_ret
      exact ⟨rfl, X.bel⟩
    · have hpos : ¬ ((1048576 : Int) - (lo.size : Int) - (hi.size : Int) < 0) := by omega
      obtain ⟨R, hR⟩ : ∃ R, R = hasP ⟨lo, hi, op⟩ key := ⟨_, rfl⟩
      have HS0 := fun W : World => specHas_any lo hi op key W (by omega)
      have HI0 := fun W : World => implHas_any lo hi op key W (by omega)
      rw [← hR] at HS0 HI0
      have HS : Hid _ := HS0
      have HI : Hid _ := HI0
      clear HS0 HI0 hR
      go_enter Try.func9, Try.ntmps9
      go_wp2_with (first | (go_at_call 39; refine (szInterval_any lo hi op _ _ hs hh (by omega) (by omega)).mono ?_; rintro e w1 ⟨rfl, hb⟩; rw [if_neg hbig]; have X := Boxed.step (by assumption) hb; have g0 := X.c0; have g1 := X.c1; have g2 := X.c2; clear hb) | (go_at_call 41; refine (toInterval_any lo hi op _).mono ?_; rintro e w2 ⟨rfl, hb⟩; have X := Boxed.step (by assumption) hb; have g0 := X.c0; have g1 := X.c1; have g2 := X.c2; clear hb) | (go_at_call 40; refine (HS.out _).mono ?_; rintro e w3 ⟨rfl, hb⟩; have X := Boxed.step (by assumption) hb; have g0 := X.c0; have g1 := X.c1; have g2 := X.c2; clear hb) | (go_at_call 42; refine (HI.out _).mono ?_; rintro e w4 ⟨rfl, hb⟩; have X := Boxed.step (by assumption) hb; have g0 := X.c0; have g1 := X.c1; have g2 := X.c2; clear hb))
      go_ret
      exact ⟨rfl, X.bel⟩

theorem own : ownKnob Try.prog.godebug = none := by kernel_rfl
theorem laidOut : laidOutB Try.prog = true := by kernel_rfl
theorem cellsN : Try.prog.cellsOf 65 = 3 := by kernel_rfl

set_option maxRecDepth 100000 in
theorem lifted (os : Os) (started : os.Started) (H : Type) (enc : TypeId × Value → H) :
    ReturnsInHanded {} Try.checked os 9 .any (Rows.fnExactIntervalHasSpec.pre6 enc Try.prog Try.f9 Rows.fnExactIntervalHasRow.domain false) (Rows.fnExactIntervalHasSpec.post enc Try.prog Try.f9 false true false false) := by
  refine returnsInHanded_of_change (C := Try.checked) own started (by kernel_rfl) Try.func9
    (ChangeSpec.witness6 (enc := enc) (C := Try.checked) false ⟨#[], #[.agg #[.string ByteArray.empty, .string ByteArray.empty, .bool false], .string ByteArray.empty], []⟩ 8 (by kernel_rfl) (by kernel_rfl) (by kernel_rfl) (by kernel_rfl)) ?_
  intro W base args ds gs before hval0 hW hcnd _
  have hval : ∀ (j : Nat) t v, Try.f9.params[j]? = some t → args[j]? = some v → Value.okWide Try.prog W .any base t v := hval0
  have hW' := hW
  obtain ⟨p, q, hA0, hV, rfl, hfz, hnd⟩ := hW
  have hA : DataW.TrodAll enc Try.prog W 0 (fun _ => true) true Try.f9.params.toList args.toList ds p := hA0
  rw [Try.params9] at hA hval
  obtain ⟨v0, vs0, d0, ds0, p0, q0, hargs, rfl, rfl, h0, r0⟩ := trodAll_cons hA
  obtain ⟨v1, vs1, d1, ds1, p1, q1, rfl, rfl, rfl, h1, r1⟩ := trodAll_cons r0
  obtain ⟨rfl, rfl, rfl⟩ := trodAll_nil r1
  obtain rfl : args = #[v0, v1] := by cases args; simp_all
  obtain ⟨rfl, rfl⟩ := trodVars_none hV
  have k0 := h0
  have lt0 : ∀ x ∈ p0, x.block < W.heap.size := by obtain ⟨m, hm⟩ := k0; exact DataW.trod_lt m _ _ _ hm
  obtain ⟨c00, c01, c02, y00, y01, y02, m0, rfl, hd0, hp0, hy00, hy01, hy02⟩ := open_agg3 Try.underlying65 (by kernel_rfl) cellsN (hval 0 65 v0 rfl rfl) h0
  obtain ⟨a0, e00, _, wa0⟩ := DataW.trod_string Try.underlying9 hy00
  obtain ⟨b0, e01, _, wb0⟩ := DataW.trod_string Try.underlying9 hy01
  obtain ⟨s0, e02, _⟩ := DataW.trod_bool Try.underlying4 hy02
  simp at e00 e01 e02
  subst e00 e01 e02
  have k1 := h1
  have lt1 : ∀ x ∈ p1, x.block < W.heap.size := by obtain ⟨m, hm⟩ := k1; exact DataW.trod_lt m _ _ _ hm
  obtain ⟨s1, rfl, e11, e12, ws1⟩ := open_string Try.underlying9 (hval 1 9 v1 rfl rfl) h1
  clear hA0 hval0
  refine (walk a0 b0 s0 wa0 wb0 s1 ws1 W).mono fun e W' ⟨he, bel⟩ => ?_
  subst he
  exact ⟨_, rfl, _, _, _, [], _, [], hW', trodAll_mk1 (shut_bool Try.underlying4 _), (trodAll_cons_mk (Below.trod laidOut (by kernel_rfl) (of_decide_eq_true (by kernel_rfl)) k0 bel lt0) (trodAll_cons_mk (Below.trod laidOut (by kernel_rfl) (of_decide_eq_true (by kernel_rfl)) k1 bel lt1) trodAll_mk0)), rfl, bel.frame _, fun h => by cases h⟩
end IntervalHasLaw

theorem fnExactIntervalHas_holds : Rows.FnExactIntervalHasSaid :=
  OpenClaim.holds_of_wide 9 Try.f9 rfl rfl rfl rfl rfl rfl rfl ⟨rfl, rfl, rfl, rfl, rfl⟩ rfl rfl rfl rfl rfl (by kernel_rfl) Try.func9 (by kernel_rfl)
    (of_decide_eq_true (by kernel_rfl)) (by unfold Func.isWrapper; first | (rw [if_pos (by decide +kernel)]; kernel_rfl) | (rw [if_neg (by decide +kernel)]; exact ⟨rfl, rfl⟩))
    (fun os started H enc _ => IntervalHasLaw.lifted os started H enc)
#print axioms fnExactIntervalHas_holds
end Go.Proofs.Ytejphhhmblpapaa
