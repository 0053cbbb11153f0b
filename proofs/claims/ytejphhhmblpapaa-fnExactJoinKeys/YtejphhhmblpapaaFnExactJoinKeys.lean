/- For every row of texts of right sizes JoinKeys answers as the specification, and leaves the row as it was. -/
import Derived.Test.YtejphhhmblpapaaJoinK
import Derived.ProofKit
import Derived.OpenShut
import Derived.ShutString
import Derived.ChangeOld
import Derived.Below
import Derived.Lib.SmallJoins
namespace Go.Proofs.Ytejphhhmblpapaa
open Go.ChangeShapes Go.WideShapes Go.ChangeAt Go.RowKit Go.Joins
open Go.ChangeMaps (open_string shut_string)
set_option linter.unusedVariables false
namespace JoinKeysLaw

set_option maxRecDepth 8000 in
set_option maxHeartbeats 2000000 in
theorem walk (a : Option Addr) (cap : Nat) (l : List ByteArray) (hl : l.length ≤ maxLen) (hs : ∀ v ∈ l, v.size ≤ maxLen) (w : World) (hin : InS w a l) :
    Calls Try.prog 7 #[.slice a l.length cap] w fun e w' => e = .returned (.bool true) ∧ Below w.heap.size w w' := by
  have I0 : Hid (InS _ _ _) := hin
  have HL : Hid _ := hl
  have HS : Hid _ := hs
  clear hin hl hs
  go_enter Try.func7, Try.ntmps7
  go_wp2_with fail
  refine (szStringS_any a cap l _ I0.out HL.out HS.out).mono ?_
  rintro e w1 ⟨⟨r, rfl, hr⟩, b1⟩
  have P1 : Hid _ := b1
  have I1 : Hid (InS _ _ _) := I0.out.step b1
  clear b1
  rcases hr with hneg | ⟨hpos, hlen, hts⟩
  · go_wp2_with fail
    go_ret
    exact ⟨rfl, P1.out⟩
  · have hnn : ¬ (r < 0) := by omega
    have HT : Hid _ := hts
    clear hts
    obtain ⟨P, hP⟩ : ∃ P, P = joinP l := ⟨_, rfl⟩
    obtain ⟨pt, pc⟩ := P
    have HP : Hid _ := hP
    clear hP
    go_wp2_with fail
    refine (toStringS_any a cap l _ I1.out hlen).mono ?_
    rintro e w2 ⟨⟨g1, rfl, hg1, R1⟩, b2⟩
    have P2 : Hid _ := P1.out.trans (b2.mono P1.out.size)
    have I2 : Hid (InS _ _ _) := I1.out.step b2
    have S1 : Hid _ := R1
    clear R1 b2 hg1
    go_wp2_with fail
    refine (specJoin_any g1 l.length l _ S1.out hlen HT.out).mono ?_
    rintro e w3 ⟨rfl, b3⟩
    rw [← HP.out]
    have P3 : Hid _ := P2.out.trans (b3.mono P2.out.size)
    have I3 : Hid (InS _ _ _) := I2.out.step b3
    clear b3
    go_wp2_with fail
    refine (toStringS_any a cap l _ I3.out hlen).mono ?_
    rintro e w4 ⟨⟨g2, rfl, hg2, R2⟩, b4⟩
    have P4 : Hid _ := P3.out.trans (b4.mono P3.out.size)
    have I4 : Hid (InS _ _ _) := I3.out.step b4
    have S2 : Hid _ := R2
    clear R2 b4 hg2
    go_wp2_with fail
    refine (implJoin_any g2 l.length l _ S2.out hlen HT.out).mono ?_
    rintro e w5 ⟨rfl, b5⟩
    rw [← HP.out]
    have P5 : Hid _ := P4.out.trans (b5.mono P4.out.size)
    have I5 : Hid (InS _ _ _) := I4.out.step b5
    have S3 : Hid _ := S2.out.next b5
    clear b5
    go_wp2_with fail
    refine (toStringS_any a cap l _ I5.out hlen).mono ?_
    rintro e w6 ⟨⟨g3, rfl, hg3, R3⟩, b6⟩
    have P6 : Hid _ := P5.out.trans (b6.mono P5.out.size)
    have S4 : Hid _ := S3.out.next b6
    have S5 : Hid _ := R3
    clear b6 R3 hg3
    go_wp2_with fail
    refine (eqStringS_same g2 l.length g3 l.length l _ S4.out S5.out hlen).mono ?_
    rintro e w7 ⟨rfl, b7⟩
    have P7 : Hid _ := P6.out.trans (b7.mono P6.out.size)
    clear b7
    go_wp2_with fail
    go_ret
    exact ⟨rfl, P7.out⟩

theorem own : ownKnob Try.prog.godebug = none := by kernel_rfl
theorem laidOut : laidOutB Try.prog = true := by kernel_rfl

set_option maxRecDepth 100000 in
theorem lifted (os : Os) (started : os.Started) (H : Type) (enc : TypeId × Value → H) :
    ReturnsInHanded {} Try.checked os 7 .any (Rows.fnExactJoinKeysSpec.pre6 enc Try.prog Try.f7 Rows.fnExactJoinKeysRow.domain false) (Rows.fnExactJoinKeysSpec.post enc Try.prog Try.f7 false true false false) := by
  refine returnsInHanded_of_change (C := Try.checked) own started (by kernel_rfl) Try.func7
    (ChangeSpec.witness6 (enc := enc) (C := Try.checked) false ⟨#[], #[.slice none 0 0], []⟩ 8 (by kernel_rfl) (by kernel_rfl) (by kernel_rfl) (by kernel_rfl)) ?_
  intro W base args ds gs before hval0 hW hcnd _
  have hval : ∀ (j : Nat) t v, Try.f7.params[j]? = some t → args[j]? = some v → Value.okWide Try.prog W .any base t v := hval0
  have hW' := hW
  obtain ⟨p, q, hA0, hV, rfl, hfz, hnd⟩ := hW
  have hA : DataW.TrodAll enc Try.prog W 0 (fun _ => true) true Try.f7.params.toList args.toList ds p := hA0
  rw [Try.params7] at hA hval
  obtain ⟨v0, vs0, d0, ds0, p0, q0, hargs, rfl, rfl, h0, r0⟩ := trodAll_cons hA
  obtain ⟨rfl, rfl, rfl⟩ := trodAll_nil r0
  obtain rfl : args = #[v0] := by cases args; simp_all
  obtain ⟨rfl, rfl⟩ := trodVars_none hV
  have k0 := h0
  have lt0 : ∀ x ∈ p0, x.block < W.heap.size := by obtain ⟨m, hm⟩ := k0; exact DataW.trod_lt m _ _ _ hm
  obtain ⟨x0, len0, cap0, rfl⟩ := okWide_slice Try.underlying34 (hval 0 34 v0 rfl rfl)
  obtain ⟨z0, hz0, hm0, hb0, i0⟩ : ∃ l : List ByteArray, l.length = len0 ∧ l.length ≤ maxLen ∧ (∀ s ∈ l, s.size ≤ maxLen) ∧ InS W x0 l := by
    obtain ⟨fuel, hf⟩ := h0
    rcases Deep.open_strs Try.underlying34 Try.underlying9 (by kernel_rfl) hf with ⟨hcs, _⟩ | ⟨x, l, c, m, Sx, hcs, _, hl, hm, hmm, _, hcell⟩
    · simp [Value.cells] at hcs
      obtain ⟨rfl, rfl, rfl⟩ := hcs
      exact ⟨[], rfl, by simp, by simp, .inl rfl⟩
    · simp [Value.cells] at hcs
      obtain ⟨rfl, rfl, rfl⟩ := hcs
      exact ins_of hl hm hmm hcell
  subst hz0
  clear hA0 hval0
  refine (walk x0 cap0 z0 hm0 hb0 W i0).mono fun e W' ⟨he, bel⟩ => ?_
  subst he
  exact ⟨_, rfl, _, _, _, [], _, [], hW', trodAll_mk1 (shut_bool Try.underlying4 _), (trodAll_cons_mk (Below.trod laidOut (by kernel_rfl) (of_decide_eq_true (by kernel_rfl)) k0 bel lt0) trodAll_mk0), rfl, bel.frame _, fun h => by cases h⟩
end JoinKeysLaw

theorem fnExactJoinKeys_holds : Rows.FnExactJoinKeysSaid :=
  OpenClaim.holds_of_wide 7 Try.f7 rfl rfl rfl rfl rfl rfl rfl ⟨rfl, rfl, rfl, rfl, rfl⟩ rfl rfl rfl rfl rfl (by kernel_rfl) Try.func7 (by kernel_rfl)
    (of_decide_eq_true (by kernel_rfl)) (by unfold Func.isWrapper; first | (rw [if_pos (by decide +kernel)]; kernel_rfl) | (rw [if_neg (by decide +kernel)]; exact ⟨rfl, rfl⟩))
    (fun os started H enc _ => JoinKeysLaw.lifted os started H enc)
#print axioms fnExactJoinKeys_holds
end Go.Proofs.Ytejphhhmblpapaa
