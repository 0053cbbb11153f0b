/- At every row of fields the program's making of a document answers as the specification's does, and the row reads as before; no condition. -/
import Derived.Test.YtejphhhmblpapaaRowGQ
import Derived.ProofKit
import Derived.OpenShut
import Derived.ShutString
import Derived.ChangeOld
import Derived.Below
import Derived.Lib.SmallJoins
namespace Go.Proofs.Ytejphhhmblpapaa
open Go.ChangeShapes Go.WideShapes Go.ChangeAt Go.RowKit Go.Joins
open Go.ChangeMaps (open_string shut_string)
set_option linter.unusedVariables false
namespace PDoc

set_option maxRecDepth 8000 in
set_option maxHeartbeats 2000000 in
theorem walk (a : Option Addr) (cap : Nat) (l : List Fld) (hl : l.length ≤ maxLen) (hs : ∀ f ∈ l, f.name.size ≤ maxLen ∧ f.v.t.size ≤ maxLen) (w : World) (hin : InF w a l) :
    Calls Try.prog 5 #[.slice a l.length cap] w fun e w' => e = .returned (.bool true) ∧ Below w.heap.size w w' := by
  have I0 : Hid (InF _ _ _) := hin
  have HL : Hid _ := hl
  have HS : Hid _ := hs
  clear hin hl hs
  go_enter Try.func5, Try.ntmps5
  go_wp2_with fail
  refine (szFieldS_any a cap l _ I0.out HL.out HS.out).mono ?_
  rintro e w1 ⟨⟨r, rfl, hr⟩, b1⟩
  have P1 : Hid _ := b1
  have I1 : Hid (InF _ _ _) := I0.out.step b1
  clear b1
  rcases hr with hneg | ⟨hpos, hlen, hts⟩
  · go_wp2_with fail
    go_ret
    exact ⟨rfl, P1.out⟩
  · have hnn : ¬ (r < 0) := by omega
    have HT : Hid _ := hts
    clear hts
    obtain ⟨P, hP⟩ : ∃ P, P = madeP l := ⟨_, rfl⟩
    obtain ⟨⟨pk, pn, pt⟩, pc⟩ := P
    have HP : Hid _ := hP
    clear hP
    go_wp2_with fail
    refine (toFieldS_any a cap l _ I1.out hlen).mono ?_
    rintro e w2 ⟨⟨g1, rfl, hg1, R1⟩, b2⟩
    have P2 : Hid _ := P1.out.trans (b2.mono P1.out.size)
    have I2 : Hid (InF _ _ _) := I1.out.step b2
    have S1 : Hid _ := R1
    clear R1 b2 hg1
    go_wp2_with fail
    refine (specDoc_any g1 l.length l _ S1.out hlen HT.out).mono ?_
    rintro e w3 ⟨rfl, b3⟩
    rw [← HP.out]
    have P3 : Hid _ := P2.out.trans (b3.mono P2.out.size)
    have X0 := Boxed.start w3 (.int .i64 pk) (.int .i64 pn) (.string pt) 27
    have I3 : Hid (InF _ _ _) := (I2.out.step b3).step X0.bel
    clear b3
    go_wp2_with fail
    refine (toFieldS_any a cap l _ I3.out hlen).mono ?_
    rintro e w4 ⟨⟨g2, rfl, hg2, R2⟩, b4⟩
    have I4 : Hid (InF _ _ _) := I3.out.step b4
    have X1 := X0.step b4
    have S2 : Hid _ := R2
    clear R2 b4 hg2 X0
    go_wp2_with fail
    refine (implDoc_any g2 l.length l _ S2.out hlen HT.out).mono ?_
    rintro e w5 ⟨rfl, b5⟩
    rw [← HP.out]
    have Y0 := Boxed.start w5 (.int .i64 pk) (.int .i64 pn) (.string pt) 27
    have X2 := (X1.step b5).step Y0.bel
    have I5 : Hid (InF _ _ _) := (I4.out.step b5).step Y0.bel
    have S3 : Hid _ := (S2.out.next b5).next Y0.bel
    have c0 := X2.c0
    have c1 := X2.c1
    have c2 := X2.c2
    clear b5 X1
    go_wp2_with fail
    refine (eqValue_same pk pn pt _).mono ?_
    rintro e w6 ⟨rfl, b6⟩
    have X3 := X2.step b6
    have I6 : Hid (InF _ _ _) := I5.out.step b6
    have S4 : Hid _ := S3.out.next b6
    clear b6 X2 c0 c1 c2 Y0
    go_wp2_with fail
    refine (toFieldS_any a cap l _ I6.out hlen).mono ?_
    rintro e w7 ⟨⟨g3, rfl, hg3, R3⟩, b7⟩
    have X4 := X3.step b7
    have S5 : Hid _ := S4.out.next b7
    have S6 : Hid _ := R3
    clear b7 R3 hg3 X3
    go_wp2_with fail
    refine (eqFieldS_same g2 l.length g3 l.length l _ S5.out S6.out hlen).mono ?_
    rintro e w8 ⟨rfl, b8⟩
    have X5 := X4.step b8
    clear b8 X4
    go_wp2_with fail
    go_ret
    exact ⟨rfl, P3.out.trans (X5.bel.mono P3.out.size)⟩

theorem own : ownKnob Try.prog.godebug = none := by kernel_rfl
theorem laidOut : laidOutB Try.prog = true := by kernel_rfl

set_option maxRecDepth 100000 in
theorem lifted (os : Os) (started : os.Started) (H : Type) (enc : TypeId × Value → H) :
    ReturnsInHanded {} Try.checked os 5 .any (Rows.fnExactDocOfSpec.pre6 enc Try.prog Try.f5 Rows.fnExactDocOfRow.domain false) (Rows.fnExactDocOfSpec.post enc Try.prog Try.f5 false true false false) := by
  refine returnsInHanded_of_change (C := Try.checked) own started (by kernel_rfl) Try.func5
    (ChangeSpec.witness6 (enc := enc) (C := Try.checked) false ⟨#[], #[.slice none 0 0], []⟩ 8 (by kernel_rfl) (by kernel_rfl) (by kernel_rfl) (by kernel_rfl)) ?_
  intro W base args ds gs before hval0 hW hcnd _
  have hval : ∀ (j : Nat) t v, Try.f5.params[j]? = some t → args[j]? = some v → Value.okWide Try.prog W .any base t v := hval0
  have hW' := hW
  obtain ⟨p, q, hA0, hV, rfl, hfz, hnd⟩ := hW
  have hA : DataW.TrodAll enc Try.prog W 0 (fun _ => true) true Try.f5.params.toList args.toList ds p := hA0
  rw [Try.params5] at hA hval
  obtain ⟨v0, vs0, d0, ds0, p0, q0, hargs, rfl, rfl, h0, r0⟩ := trodAll_cons hA
  obtain ⟨rfl, rfl, rfl⟩ := trodAll_nil r0
  obtain rfl : args = #[v0] := by cases args; simp_all
  obtain ⟨rfl, rfl⟩ := trodVars_none hV
  have k0 := h0
  have lt0 : ∀ x ∈ p0, x.block < W.heap.size := by obtain ⟨m, hm⟩ := k0; exact DataW.trod_lt m _ _ _ hm
  obtain ⟨x0, len0, cap0, rfl⟩ := okWide_slice Try.underlying49 (hval 0 49 v0 rfl rfl)
  obtain ⟨l0, hz0, hl0, hs0, i0⟩ : ∃ l, l.length = len0 ∧ l.length ≤ maxLen ∧ (∀ f ∈ l, f.name.size ≤ maxLen ∧ f.v.t.size ≤ maxLen) ∧ InF W x0 l := by
    obtain ⟨fuel, hf⟩ := h0
    obtain ⟨a, len, cap, l, hcs, e1, e2, e3, e4⟩ := open_flds hf
    simp [Value.cells] at hcs
    obtain ⟨rfl, rfl, rfl⟩ := hcs
    exact ⟨l, e1, e2, e3, e4⟩
  subst hz0
  clear hA0 hval0
  refine (walk x0 cap0 l0 hl0 hs0 W i0).mono fun e W' ⟨he, bel⟩ => ?_
  subst he
  exact ⟨_, rfl, _, _, _, [], _, [], hW', trodAll_mk1 (shut_bool Try.underlying4 _), (trodAll_cons_mk (Below.trod laidOut (by kernel_rfl) (of_decide_eq_true (by kernel_rfl)) k0 bel lt0) trodAll_mk0), rfl, bel.frame _, fun h => by cases h⟩
end PDoc

theorem fnExactDocOf_holds : Rows.FnExactDocOfSaid :=
  OpenClaim.holds_of_wide 5 Try.f5 rfl rfl rfl rfl rfl rfl rfl ⟨rfl, rfl, rfl, rfl, rfl⟩ rfl rfl rfl rfl rfl (by kernel_rfl) Try.func5 (by kernel_rfl)
    (of_decide_eq_true (by kernel_rfl)) (by unfold Func.isWrapper; first | (rw [if_pos (by decide +kernel)]; kernel_rfl) | (rw [if_neg (by decide +kernel)]; exact ⟨rfl, rfl⟩))
    (fun os started H enc _ => PDoc.lifted os started H enc)
#print axioms fnExactDocOf_holds
end Go.Proofs.Ytejphhhmblpapaa
