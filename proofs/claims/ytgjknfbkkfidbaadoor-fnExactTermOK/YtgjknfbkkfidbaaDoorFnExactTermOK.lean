/- At every term the program's answer whether it is right is the specification's, and the term reads as before; the library's tables that the row lists are as its text lays them. -/
import Derived.Test.YtgjknfbkkfidbaaDoorOpenT
import Derived.Test.YtgjknfbkkfidbaaDoorTie
import Derived.Test.YtgjknfbkkfidbaaDoorCards
import Derived.LaidMore
import Derived.Lay
import Derived.Stop.Joined
import Derived.SevenTiedAt
import Derived.ProofKit
import Derived.OpenShut
import Derived.ShutString
import Derived.ChangeOld
import Derived.Below
import Derived.Lib.SmallJoins
namespace Go.Proofs.YtgjknfbkkfidbaaDoor
open Go.ChangeShapes Go.WideShapes Go.ChangeAt Go.RowKit Go.Joins
open Go.ChangeMaps (open_string shut_string)
set_option linter.unusedVariables false
namespace PTerm

set_option maxRecDepth 4000 in
set_option maxHeartbeats 1000000 in
theorem walk (op : Int) (p : ByteArray) (k n : Int) (t : ByteArray) (hp : p.size ≤ maxLen) (ht : t.size ≤ maxLen) (w : World) :
    Calls Tryd.prog 4 #[.agg #[.int .i64 op, .string p, .int .i64 k, .int .i64 n, .string t]] w fun e w' => e = .returned (.bool true) ∧ Below w.heap.size w w' := by
  have X0 := Box5.start w (.int .i64 op) (.string p) (.int .i64 k) (.int .i64 n) (.string t) 34
  go_enter Tryd.func4, Tryd.ntmps4
  go_wp2_with fail
  refine (szTerm_any op p k n t _ _ hp ht (by omega) (by omega)).mono ?_
  rintro e w1 ⟨⟨r, rfl, hr⟩, hb⟩
  have X1 := X0.step hb
  clear hb X0
  rcases hr with hneg | ⟨hpos, hpos2, hp1, ht1⟩
  · go_wp2_with fail
    go_ret
    exact ⟨rfl, X1.bel⟩
  · have hnn : ¬ (r < 0) := by omega
    obtain ⟨R, hR⟩ : ∃ R, R = termB op p ⟨k, n, t⟩ := ⟨_, rfl⟩
    have HR : Hid _ := hR
    have c0 := X1.c0
    have c1 := X1.c1
    have c2 := X1.c2
    have c3 := X1.c3
    have c4 := X1.c4
    clear hR
    go_wp2_with fail
    refine (toTerm_any op p k n t _).mono ?_
    rintro e w2 ⟨rfl, hb⟩
    have X2 := X1.step hb
    clear hb X1 c0 c1 c2 c3 c4
    go_wp2_with fail
    refine (specTerm_any op p k n t _ hp1 ht1).mono ?_
    rintro e w3 ⟨rfl, hb⟩
    rw [← HR.out]
    have X3 := X2.step hb
    have c0 := X3.c0
    have c1 := X3.c1
    have c2 := X3.c2
    have c3 := X3.c3
    have c4 := X3.c4
    clear hb X2
    go_wp2_with fail
    refine (toTerm_any op p k n t _).mono ?_
    rintro e w4 ⟨rfl, hb⟩
    have X4 := X3.step hb
    clear hb X3 c0 c1 c2 c3 c4
    go_wp2_with fail
    refine (termOK_any op p k n t _ hp1 ht1).mono ?_
    rintro e w5 ⟨rfl, hb⟩
    rw [← HR.out]
    have X5 := X4.step hb
    clear hb X4
    go_wp2_with fail
    go_ret
    exact ⟨rfl, X5.bel⟩

theorem own : ownKnob Tryd.prog.godebug = none := by kernel_rfl
theorem laidOut : laidOutB Tryd.prog = true := by kernel_rfl

set_option maxRecDepth 100000 in
theorem lifted (os : Os) (started : os.Started) (H : Type) (enc : TypeId × Value → H) :
    ReturnsInHanded {} Tryd.checked os 4 .any (fun w args => (Rows.fnExactTermOKSpec.pre enc Tryd.prog Tryd.f4 Rows.fnExactTermOKRow.domain false w args ∧ laidMetH Tryd.prog Rows.fnExactTermOKRow.laid w) ∧ sizedMet enc Tryd.prog Tryd.f4 (OpenSpec.ofChange Rows.fnExactTermOKSpec) false w args)
      (Rows.fnExactTermOKSpec.post enc Tryd.prog Tryd.f4 false true false false) := by
  refine returnsInHanded_of_change_and (C := Tryd.checked) (X := fun w _ => laidMetH Tryd.prog Rows.fnExactTermOKRow.laid w) (fun _ _ _ hh h => h.of_heap hh) own started (by kernel_rfl) Tryd.func4
    (ChangeSpec.witness_shaped (enc := enc) (C := Tryd.checked) (os := os) (X := fun w _ => laidMetH Tryd.prog Rows.fnExactTermOKRow.laid w) false (World.laidAll Tryd.prog os Rows.fnExactTermOKRow.laid) #[.agg #[.int .i64 0, .string ByteArray.empty, .int .i64 0, .int .i64 0, .string ByteArray.empty]] 8 (World.laidAll_os _ _ _)
      (World.shaped_of_ZipB (by kernel_rfl) (by kernel_rfl)) (by kernel_rfl) (by kernel_rfl) (by kernel_rfl)
      (by rw [MakeChecks.laidMetH_plain _ _ _ (by kernel_rfl)]; exact laidMet_laidAll _ (by kernel_rfl) (by kernel_rfl))) ?_
  intro W base args ds gs before hval0 hW hcnd _ hL _
  have hval : ∀ (j : Nat) t v, Tryd.f4.params[j]? = some t → args[j]? = some v → Value.okWide Tryd.prog W .any base t v := hval0
  have hW' := hW
  obtain ⟨p, q, hA0, hV, rfl, hfz, hnd⟩ := hW
  have hA : DataW.TrodAll enc Tryd.prog W 0 (fun _ => true) true Tryd.f4.params.toList args.toList ds p := hA0
  rw [Tryd.params4] at hA hval
  obtain ⟨v0, vs0, d0, ds0, p0, q0, hargs, rfl, rfl, h0, r0⟩ := trodAll_cons hA
  obtain ⟨rfl, rfl, rfl⟩ := trodAll_nil r0
  obtain rfl : args = #[v0] := by cases args; simp_all
  obtain ⟨rfl, rfl⟩ := trodVars_none hV
  have k0 := h0
  have lt0 : ∀ x ∈ p0, x.block < W.heap.size := by obtain ⟨m, hm⟩ := k0; exact DataW.trod_lt m _ _ _ hm
  obtain ⟨o0, pt0, a0, b0, s0, rfl, wp0, ws0⟩ := open_term (hval 0 34 v0 rfl rfl) h0
  clear hA0 hval0
  refine (walk o0 pt0 a0 b0 s0 wp0 ws0 W).mono fun e W' ⟨he, bel⟩ => ?_
  subst he
  exact ⟨_, rfl, _, _, _, [], _, [], hW', trodAll_mk1 (shut_bool Tryd.underlying4 _), (trodAll_cons_mk (Below.trod laidOut (by kernel_rfl) (of_decide_eq_true (by kernel_rfl)) k0 bel lt0) trodAll_mk0), rfl, bel.frame _, fun h => by cases h⟩
end PTerm

theorem fnExactTermOK_row : Rows.FnExactTermOKSaid :=
  OpenClaim.holds_of_wide 4 Tryd.f4 rfl rfl rfl rfl rfl rfl rfl ⟨rfl, rfl, rfl, rfl, rfl⟩ rfl rfl rfl rfl rfl (by kernel_rfl) Tryd.func4 (by kernel_rfl)
    (of_decide_eq_true (by kernel_rfl)) (by unfold Func.isWrapper; first | (rw [if_pos (by decide +kernel)]; kernel_rfl) | (rw [if_neg (by decide +kernel)]; exact ⟨rfl, rfl⟩))
    (fun os started H enc _ => PTerm.lifted os started H enc)
theorem fnExactTermOK_holds : Rows.FnExactTermOKCardSaid :=
  Claim7.holds_tied_plain_at .later [] [.data, .pinned] true (true, "1dce2f2a459b6baf8befa8d4cc0fa7a05bbdaedc1a7466d4bf7cf26d5a33aef4") false
    fnExactTermOK_row (fun _ h => by cases h) (by kernel_rfl) (fun _ h => by cases h) fnExactTermOK_row_tie rfl ⟨rfl, rfl⟩ (by kernel_rfl) rfl
    (fun f fn hf hfn => by
      obtain rfl : f = 4 := Option.some.inj ((show Tryd.prog.funcNamed "loop.example/g00380/laws.FnExactTermOK" = some 4 by kernel_rfl).symm.trans hf) |>.symm
      obtain rfl : fn = Tryd.f4 := (Option.some.inj (Tryd.func4.symm.trans hfn)).symm
      exact ⟨by kernel_rfl, fun j t ht => by
        rw [Tryd.params4] at ht
        have hm : t ∈ [34] := by simpa using Array.mem_of_getElem? ht
        have hall : ([34].all fun u => !Tryd.prog.wantsStandIn u) = true := by kernel_rfl
        exact (show Tryd.prog.wantsStandIn t = false by simpa using List.all_eq_true.1 hall t hm)⟩)
    (by kernel_rfl)
#print axioms fnExactTermOK_holds
end Go.Proofs.YtgjknfbkkfidbaaDoor
