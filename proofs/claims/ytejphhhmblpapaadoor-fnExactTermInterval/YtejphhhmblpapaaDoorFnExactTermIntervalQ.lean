/- For every term of right size TermInterval answers as the specification, rising and falling. -/
import Derived.Test.YtejphhhmblpapaaDoorTermLQ
import Derived.Test.YtejphhhmblpapaaDoorTie
import Derived.Test.YtejphhhmblpapaaDoorCards
import Derived.LaidMore
import Derived.Lay
import Derived.Stop.Joined
import Derived.SevenTiedAt
import Derived.ProofKit
import Derived.OpenShut
import Derived.ShutString
import Derived.ChangeOld
import Derived.Below
import Derived.Lib.SmallJoins
namespace Go.Proofs.YtejphhhmblpapaaDoor
open Go.ChangeShapes Go.WideShapes Go.ChangeAt Go.RowKit Go.Joins
open Go.ChangeMaps (open_string shut_string)
set_option linter.unusedVariables false
namespace TermIntervalLaw

set_option maxRecDepth 4000 in
set_option maxHeartbeats 2000000 in
theorem walk (op : Int) (p : ByteArray) (k n : Int) (t : ByteArray) (hp : p.size ≤ maxLen) (ht : t.size ≤ maxLen) (desc : Bool) (w : World) :
    Calls Tryd.prog 5 #[.agg #[.int .i64 op, .string p, .int .i64 k, .int .i64 n, .string t], .bool desc] w fun e w' => e = .returned (.bool true) ∧ Below w.heap.size w w' := by
  have X0 := Box5.start w (.int .i64 op) (.string p) (.int .i64 k) (.int .i64 n) (.string t) 41
  go_enter Tryd.func5, Tryd.ntmps5
  go_wp2_with fail
  refine (szTerm_any op p k n t _ _ hp ht (by omega) (by omega)).mono ?_
  rintro e w1 ⟨⟨r, rfl, hr⟩, hb⟩
  have X1 := X0.step hb
  clear hb X0
  rcases hr with hneg | ⟨hpos, hpos2, hp1, ht1⟩
  · go_wp2_with fail
    go_ret
    exact ⟨rfl, X1.bel⟩
  · have hnn : ¬ (r < 0) := by omega
    have HS0 := fun W : World => specTint_any op p k n t desc W hp1 ht1
    have HI0 := fun W : World => implTint_any op p k n t desc W hp1 ht1
    obtain ⟨⟨⟨il, ih, io⟩, ic⟩, hP⟩ : ∃ P, P = tintP op p ⟨k, n, t⟩ desc := ⟨_, rfl⟩
    rw [← hP] at HS0 HI0
    simp only at HS0 HI0
    have HS : Hid (∀ W : World, Calls _ _ _ W _) := HS0
    have HI : Hid (∀ W : World, Calls _ _ _ W _) := HI0
    have c0 := X1.c0
    have c1 := X1.c1
    have c2 := X1.c2
    have c3 := X1.c3
    have c4 := X1.c4
    clear HS0 HI0 hP
    go_wp2_with fail
    refine (toTerm_any op p k n t _).mono ?_
    rintro e w2 ⟨rfl, hb⟩
    have X2 := X1.step hb
    clear hb X1 c0 c1 c2 c3 c4
    go_wp2_with fail
    refine (HS.out _).mono ?_
    rintro e w3 ⟨rfl, hb⟩
    have X3 := (X2.step hb).step ((Below.refl _ _).alloc (Nat.le_refl _) (.cells #[.string il, .string ih, .bool io] 44))
    have K3 := I3.new w3 (.string il) (.string ih) (.bool io) 44
    have c0 := X3.c0
    have c1 := X3.c1
    have c2 := X3.c2
    have c3 := X3.c3
    have c4 := X3.c4
    clear hb X2
    go_wp2_with fail
    obtain ⟨g1, hg1⟩ : ∃ g1, g1 = w3.heap.size := ⟨_, rfl⟩
    rw [← hg1] at K3 ⊢
    generalize w3.alloc (.cells #[.string il, .string ih, .bool io] 44) = W3 at X3 K3 c0 c1 c2 c3 c4 ⊢
    clear hg1
    refine (toTerm_any op p k n t _).mono ?_
    rintro e w4 ⟨rfl, hb⟩
    have X4 := X3.step hb
    have K4 := K3.step hb
    clear hb X3 K3 c0 c1 c2 c3 c4
    go_wp2_with fail
    refine (HI.out _).mono ?_
    rintro e w5 ⟨rfl, hb⟩
    have X5 := (X4.step hb).step ((Below.refl _ _).alloc (Nat.le_refl _) (.cells #[.string il, .string ih, .bool io] 44))
    have K5 := (K4.step hb).step ((Below.refl _ _).alloc (Nat.le_refl _) (.cells #[.string il, .string ih, .bool io] 44))
    have k0 := K5.c0
    have k1 := K5.c1
    have k2 := K5.c2
    clear hb X4 K4
    go_wp2_with fail
    refine (eqInterval_same il ih io _).mono ?_
    rintro e w6 ⟨rfl, hb⟩
    have X6 := X5.step hb
    clear hb X5 K5 k0 k1 k2
    go_wp2_with fail
    go_ret
    exact ⟨rfl, X6.bel⟩

theorem own : ownKnob Tryd.prog.godebug = none := by kernel_rfl
theorem laidOut : laidOutB Tryd.prog = true := by kernel_rfl

set_option maxRecDepth 100000 in
theorem lifted (os : Os) (started : os.Started) (H : Type) (enc : TypeId × Value → H) :
    ReturnsInHanded {} Tryd.checked os 5 .any (fun w args => (Rows.fnExactTermIntervalSpec.pre enc Tryd.prog Tryd.f5 Rows.fnExactTermIntervalRow.domain false w args ∧ laidMetH Tryd.prog Rows.fnExactTermIntervalRow.laid w) ∧ sizedMet enc Tryd.prog Tryd.f5 (OpenSpec.ofChange Rows.fnExactTermIntervalSpec) false w args)
      (Rows.fnExactTermIntervalSpec.post enc Tryd.prog Tryd.f5 false true false false) := by
  refine returnsInHanded_of_change_and (C := Tryd.checked) (X := fun w _ => laidMetH Tryd.prog Rows.fnExactTermIntervalRow.laid w) (fun _ _ _ hh h => h.of_heap hh) own started (by kernel_rfl) Tryd.func5
    (ChangeSpec.witness_shaped (enc := enc) (C := Tryd.checked) (os := os) (X := fun w _ => laidMetH Tryd.prog Rows.fnExactTermIntervalRow.laid w) false (World.laidAll Tryd.prog os Rows.fnExactTermIntervalRow.laid) #[.agg #[.int .i64 0, .string ByteArray.empty, .int .i64 0, .int .i64 0, .string ByteArray.empty], .bool false] 8 (World.laidAll_os _ _ _)
      (World.shaped_of_ZipB (by kernel_rfl) (by kernel_rfl)) (by kernel_rfl) (by kernel_rfl) (by kernel_rfl)
      (by rw [MakeChecks.laidMetH_plain _ _ _ (by kernel_rfl)]; exact laidMet_laidAll _ (by kernel_rfl) (by kernel_rfl))) ?_
  intro W base args ds gs before hval0 hW hcnd _ hL _
  have hval : ∀ (j : Nat) t v, Tryd.f5.params[j]? = some t → args[j]? = some v → Value.okWide Tryd.prog W .any base t v := hval0
  have hW' := hW
  obtain ⟨p, q, hA0, hV, rfl, hfz, hnd⟩ := hW
  have hA : DataW.TrodAll enc Tryd.prog W 0 (fun _ => true) true Tryd.f5.params.toList args.toList ds p := hA0
  rw [Tryd.params5] at hA hval
  obtain ⟨v0, vs0, d0, ds0, p0, q0, hargs, rfl, rfl, h0, r0⟩ := trodAll_cons hA
  obtain ⟨v1, vs1, d1, ds1, p1, q1, rfl, rfl, rfl, h1, r1⟩ := trodAll_cons r0
  obtain ⟨rfl, rfl, rfl⟩ := trodAll_nil r1
  obtain rfl : args = #[v0, v1] := by cases args; simp_all
  obtain ⟨rfl, rfl⟩ := trodVars_none hV
  have k0 := h0
  have lt0 : ∀ x ∈ p0, x.block < W.heap.size := by obtain ⟨m, hm⟩ := k0; exact DataW.trod_lt m _ _ _ hm
  obtain ⟨o0, pt0, a0, b0, s0, rfl, wp0, ws0⟩ := open_term (hval 0 41 v0 rfl rfl) h0
  have k1 := h1
  have lt1 : ∀ x ∈ p1, x.block < W.heap.size := by obtain ⟨m, hm⟩ := k1; exact DataW.trod_lt m _ _ _ hm
  obtain ⟨a1, rfl, e11, e12⟩ := open_bool Tryd.underlying4 (hval 1 4 v1 rfl rfl) h1
  clear hA0 hval0
  refine (walk o0 pt0 a0 b0 s0 wp0 ws0 a1 W).mono fun e W' ⟨he, bel⟩ => ?_
  subst he
  exact ⟨_, rfl, _, _, _, [], _, [], hW', trodAll_mk1 (shut_bool Tryd.underlying4 _), (trodAll_cons_mk (Below.trod laidOut (by kernel_rfl) (of_decide_eq_true (by kernel_rfl)) k0 bel lt0) (trodAll_cons_mk (Below.trod laidOut (by kernel_rfl) (of_decide_eq_true (by kernel_rfl)) k1 bel lt1) trodAll_mk0)), rfl, bel.frame _, fun h => by cases h⟩
end TermIntervalLaw

theorem fnExactTermInterval_row : Rows.FnExactTermIntervalSaid :=
  OpenClaim.holds_of_wide 5 Tryd.f5 rfl rfl rfl rfl rfl rfl rfl ⟨rfl, rfl, rfl, rfl, rfl⟩ rfl rfl rfl rfl rfl (by kernel_rfl) Tryd.func5 (by kernel_rfl)
    (of_decide_eq_true (by kernel_rfl)) (by unfold Func.isWrapper; first | (rw [if_pos (by decide +kernel)]; kernel_rfl) | (rw [if_neg (by decide +kernel)]; exact ⟨rfl, rfl⟩))
    (fun os started H enc _ => TermIntervalLaw.lifted os started H enc)
theorem fnExactTermInterval_holds : Rows.FnExactTermIntervalCardSaid :=
  Claim7.holds_tied_plain_at .later [] [.data, .pinned] true (true, "9b4c7ad4c644553c7776b2c093fc3766177dbeaa6fa6ca76e42e9a788a217e98") false
    fnExactTermInterval_row (fun _ h => by cases h) (by kernel_rfl) (fun _ h => by cases h) fnExactTermInterval_row_tie rfl ⟨rfl, rfl⟩ (by kernel_rfl) rfl
    (fun f fn hf hfn => by
      obtain rfl : f = 5 := Option.some.inj ((show Tryd.prog.funcNamed "loop.example/g00380/laws.FnExactTermInterval" = some 5 by kernel_rfl).symm.trans hf) |>.symm
      obtain rfl : fn = Tryd.f5 := (Option.some.inj (Tryd.func5.symm.trans hfn)).symm
      exact ⟨by kernel_rfl, fun j t ht => by
        rw [Tryd.params5] at ht
        have hm : t ∈ [41, 4] := by simpa using Array.mem_of_getElem? ht
        have hall : ([41, 4].all fun u => !Tryd.prog.wantsStandIn u) = true := by kernel_rfl
        exact (show Tryd.prog.wantsStandIn t = false by simpa using List.all_eq_true.1 hall t hm)⟩)
    (by kernel_rfl)
#print axioms fnExactTermInterval_holds
end Go.Proofs.YtejphhhmblpapaaDoor
