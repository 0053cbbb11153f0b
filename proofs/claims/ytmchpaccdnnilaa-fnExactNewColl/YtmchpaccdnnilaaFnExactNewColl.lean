/- At every text the program's NewColl answers as the specification's, and its answer owns its memory; no condition. -/
import Derived.Test.YtmchpaccdnnilaaColW
import Derived.Test.YtmchpaccdnnilaaRows
import Derived.ProofKit
import Derived.OpenShut
import Derived.ShutString
import Derived.ChangeOld
import Derived.Below
import Derived.Lib.SmallJoins
namespace Go.Proofs.Ytmchpaccdnnilaa
open Go.ChangeShapes Go.WideShapes Go.ChangeAt Go.RowKit Go.Joins
open Go.ChangeMaps (open_string shut_string)
set_option linter.unusedVariables false
namespace NewCollf
open Co

set_option maxRecDepth 8000 in
set_option maxHeartbeats 4000000 in
theorem walk (s : ByteArray) (ws : s.size ≤ maxLen) (w : World) :
    Calls Try.prog 4 #[.string s] w fun e w' => e = .returned (.bool true) ∧ Below w.heap.size w w' := by
  unfold maxLen at ws
  by_cases hbig : (1048576 : Int) < (s.size : Int)
  · go_enter Try.func4, Try.ntmps4
    go_wp2_with fail
    go_ret
    exact ⟨rfl, Below.refl _ _⟩
  have HS : Hid (∀ W : World, Calls _ _ _ W _) := fun W => specNew_any s W (by omega)
  have HI : Hid (∀ W : World, Calls _ _ _ W _) := fun W => implNew_any s W (by omega)
  go_enter Try.func4, Try.ntmps4
  go_wp2_with fail
  refine (HS.out _).mono ?_
  rintro e w1 ⟨⟨⟨p1, c1, q1, d1, rfl⟩⟩, hb⟩
  obtain ⟨R, hR⟩ : ∃ R, R = newR s := ⟨_, rfl⟩
  have HR : Hid (R = newR s) := hR
  rw [← hR]
  clear hR
  have K1 := C3.new w1 R.1 p1 q1 c1 d1
  have B1 : Below w.heap.size w (w1.alloc (.cells #[.string R.1, .slice p1 0 c1, .slice q1 0 d1] 38)) := hb.alloc hb.size _
  clear hb HS
  go_wp2_with fail
  generalize w1.alloc (.cells #[.string R.1, .slice p1 0 c1, .slice q1 0 d1] 38) = W1 at K1 B1 ⊢
  obtain ⟨b1, hb1⟩ : ∃ b1, b1 = w1.heap.size := ⟨_, rfl⟩
  rw [← hb1] at K1 ⊢
  clear hb1
  refine (HI.out _).mono ?_
  rintro e w2 ⟨⟨⟨p2, c2, q2, d2, rfl⟩⟩, hb⟩
  rw [← HR.out]
  have K2 := K1.step hb
  have B2 := B1.trans (hb.mono B1.size)
  have hbA : Below w2.heap.size w2 (w2.alloc (.cells #[.string R.1, .slice p2 0 c2, .slice q2 0 d2] 38)) := (Below.refl _ _).alloc (Nat.le_refl _) _
  have L3 := C3.new w2 R.1 p2 q2 c2 d2
  have K3 := K2.step hbA
  have B3 := B2.trans (hbA.mono B2.size)
  obtain ⟨t0, t1, t2⟩ := K2.cells
  have tl := K2.lt
  have HE : Hid (∀ W : World, Calls _ _ _ W _) := fun W => eqColl_zero R.1 p2 p1 q2 q1 c2 c1 d2 d1 W
  have HM : Hid (∀ W : World, Calls _ _ _ W _) := fun W => markColl_zero R.1 p2 q2 c2 d2 W
  have HH : Hid (∀ W : World, Calls _ _ _ W _) := fun W => heldColl_zero R.1 p2 q2 c2 d2 W
  clear hb K1 B1 K2 B2 hbA
  go_wp2_with fail
  generalize w2.alloc (.cells #[.string R.1, .slice p2 0 c2, .slice q2 0 d2] 38) = W3 at K3 L3 B3 ⊢
  obtain ⟨b2, hb2⟩ : ∃ b2, b2 = w2.heap.size := ⟨_, rfl⟩
  rw [← hb2] at L3 ⊢
  clear hb2 t0 t1 t2 tl
  refine (HE.out _).mono ?_
  rintro e w4 ⟨rfl, hb⟩
  have K4 := K3.step hb
  have L4 := L3.step hb
  have B4 := B3.trans (hb.mono B3.size)
  obtain ⟨t0, t1, t2⟩ := L4.cells
  clear hb K3 L3 B3 HE
  go_wp2_with fail
  refine (HM.out _).mono ?_
  rintro e w5 ⟨rfl, hb⟩
  have K5 := K4.step hb
  have L5 := L4.step hb
  have B5 := B4.trans (hb.mono B4.size)
  clear hb K4 L4 B4 HM t0 t1 t2
  obtain ⟨t0, t1, t2⟩ := L5.cells
  go_wp2_with fail
  refine (HH.out _).mono ?_
  rintro e w6 ⟨rfl, hb⟩
  have K6 := K5.step hb
  have L6 := L5.step hb
  have B6 := B5.trans (hb.mono B5.size)
  clear hb K5 L5 B5 t0 t1 t2
  go_wp2_with fail
  refine (HI.out _).mono ?_
  rintro e w7 ⟨⟨⟨p3, c3, q3, d3, rfl⟩⟩, hb⟩
  rw [← HR.out]
  have K7 := K6.step hb
  have L7 := L6.step hb
  have B7 := B6.trans (hb.mono B6.size)
  have hbA : Below w7.heap.size w7 (w7.alloc (.cells #[.string R.1, .slice p3 0 c3, .slice q3 0 d3] 38)) := (Below.refl _ _).alloc (Nat.le_refl _) _
  have M8 := C3.new w7 R.1 p3 q3 c3 d3
  have L8 := L7.step hbA
  have B8 := B7.trans (hbA.mono B7.size)
  obtain ⟨t0, t1, t2⟩ := K7.cells
  have tl := K7.lt
  have HE : Hid (∀ W : World, Calls _ _ _ W _) := fun W => eqColl_zero R.1 p3 p1 q3 q1 c3 c1 d3 d1 W
  clear hb K6 L6 B6 L7 B7 hbA
  go_wp2_with fail
  generalize w7.alloc (.cells #[.string R.1, .slice p3 0 c3, .slice q3 0 d3] 38) = W8 at L8 M8 B8 ⊢
  clear t0 t1 t2 tl
  refine (HE.out _).mono ?_
  rintro e w9 ⟨rfl, hb⟩
  have L9 := L8.step hb
  have B9 := B8.trans (hb.mono B8.size)
  obtain ⟨t0, t1, t2⟩ := L9.cells
  clear hb L8 B8 HE
  go_wp2_with fail
  refine (HH.out _).mono ?_
  rintro e w10 ⟨rfl, hb⟩
  have B10 := B9.trans (hb.mono B9.size)
  clear hb L9 B9 t0 t1 t2
  go_wp2_with fail
  go_ret
  exact ⟨rfl, B10⟩

theorem own : ownKnob Try.prog.godebug = none := by kernel_rfl
theorem laidOut : laidOutB Try.prog = true := by kernel_rfl

set_option maxRecDepth 100000 in
theorem lifted (os : Os) (started : os.Started) (H : Type) (enc : TypeId × Value → H) :
    ReturnsInHanded {} Try.checked os 4 .any (Rows.fnExactNewCollSpec.pre6 enc Try.prog Try.f4 Rows.fnExactNewCollRow.domain false) (Rows.fnExactNewCollSpec.post enc Try.prog Try.f4 false true false false) := by
  refine returnsInHanded_of_change (C := Try.checked) own started (by kernel_rfl) Try.func4
    (ChangeSpec.witness6 (enc := enc) (C := Try.checked) false ⟨#[], #[.string ByteArray.empty], []⟩ 8 (by kernel_rfl) (by kernel_rfl) (by kernel_rfl) (by kernel_rfl)) ?_
  intro W base args ds gs before hval0 hW hcnd _
  have hval : ∀ (j : Nat) t v, Try.f4.params[j]? = some t → args[j]? = some v → Value.okWide Try.prog W .any base t v := hval0
  have hW' := hW
  obtain ⟨p, q, hA0, hV, rfl, hfz, hnd⟩ := hW
  have hA : DataW.TrodAll enc Try.prog W 0 (fun _ => true) true Try.f4.params.toList args.toList ds p := hA0
  rw [Try.params4] at hA hval
  obtain ⟨v0, vs0, d0, ds0, p0, q0, hargs, rfl, rfl, h0, r0⟩ := trodAll_cons hA
  obtain ⟨rfl, rfl, rfl⟩ := trodAll_nil r0
  obtain rfl : args = #[v0] := by cases args; simp_all
  obtain ⟨rfl, rfl⟩ := trodVars_none hV
  have k0 := h0
  have lt0 : ∀ x ∈ p0, x.block < W.heap.size := by obtain ⟨m, hm⟩ := k0; exact DataW.trod_lt m _ _ _ hm
  obtain ⟨s0, rfl, e01, e02, ws0⟩ := open_string Try.underlying9 (hval 0 9 v0 rfl rfl) h0
  clear hA0 hval0
  refine (walk s0 ws0 W).mono fun e W' ⟨he, bel⟩ => ?_
  subst he
  exact ⟨_, rfl, _, _, _, [], _, [], hW', trodAll_mk1 (shut_bool Try.underlying4 _), (trodAll_cons_mk (Below.trod laidOut (by kernel_rfl) (of_decide_eq_true (by kernel_rfl)) k0 bel lt0) trodAll_mk0), rfl, bel.frame _, fun h => by cases h⟩
end NewCollf

theorem fnExactNewColl_holds : Rows.FnExactNewCollSaid :=
  OpenClaim.holds_of_wide 4 Try.f4 rfl rfl rfl rfl rfl rfl rfl ⟨rfl, rfl, rfl, rfl, rfl⟩ rfl rfl rfl rfl rfl (by kernel_rfl) Try.func4 (by kernel_rfl)
    (of_decide_eq_true (by kernel_rfl)) (by unfold Func.isWrapper; first | (rw [if_pos (by decide +kernel)]; kernel_rfl) | (rw [if_neg (by decide +kernel)]; exact ⟨rfl, rfl⟩))
    (fun os started H enc _ => NewCollf.lifted os started H enc)
#print axioms fnExactNewColl_holds
end Go.Proofs.Ytmchpaccdnnilaa
