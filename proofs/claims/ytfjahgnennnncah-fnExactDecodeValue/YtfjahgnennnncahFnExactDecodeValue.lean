/- At every row of bytes the program's reading of a value answers as the specification's does, and the bytes read as before; no condition. -/
import Derived.Test.YtfjahgnennnncahDecode
import Derived.ProofKit
import Derived.OpenShut
import Derived.ShutString
import Derived.ChangeOld
import Derived.Below
import Derived.Lib.SmallJoins
namespace Go.Proofs.Ytfjahgnennnncah
open Go.ChangeShapes Go.WideShapes Go.ChangeAt Go.RowKit Go.Joins
open Go.ChangeMaps (open_string shut_string)
set_option linter.unusedVariables false
namespace PDecode

theorem inb_of {w : World} {x : Addr} {l c : Nat} {zs : List Int} (hl : l ≤ c) (hz : zs.length = c) (hcell : ∀ i, i < zs.length → w.cell? (x.add i) = some (.int .u8 (zs.getD i 0))) : ∃ ys : List Int, ys.length = l ∧ InB w (some x) ys := by
  refine ⟨zs.take l, by simp; omega, ?_⟩
  by_cases h0 : l = 0
  · exact .inl (by simp [h0])
  · obtain ⟨b, off, spot⟩ := x
    have hc0 := hcell 0 (by omega)
    have hspot : spot = none := by simpa [Addr.add] using World.cell?_spot hc0
    subst hspot
    have hlt : b < w.heap.size := by
      rcases Nat.lt_or_ge b w.heap.size with h | h
      · exact h
      · simp [World.cell?, Addr.add, Array.getElem?_eq_none h] at hc0
    refine .inr ⟨b, off, rfl, hlt, fun i hi => ?_⟩
    have hi2 : i < l := by simp at hi; omega
    have := hcell i (by omega)
    rw [gd (zs.take l) i hi, List.getElem_take, ← gd zs i (by omega), ← this]
    by_cases hi0 : i = 0
    · subst hi0; simp [Addr.add]
    · simp [Addr.add, hi0]

set_option maxRecDepth 8000 in
set_option maxHeartbeats 2000000 in
theorem walk (a : Option Addr) (cap : Nat) (zs : List Int) (w : World) (hin : InB w a zs) :
    Calls Try.prog 3 #[.slice a zs.length cap] w fun e w' => e = .returned (.bool true) ∧ Below w.heap.size w w' := by
  by_cases hbig : (1048576 : Int) < (zs.length : Int)
  · clear hin
    go_enter Try.func3, Try.ntmps3
    go_wp2_with fail
    go_ret
    exact ⟨rfl, Below.refl _ _⟩
  · have hlen : zs.length ≤ 1048576 := by omega
    obtain ⟨V, hV⟩ : ∃ V, V = decP zs := ⟨_, rfl⟩
    have HV : Hid _ := hV
    have I0 : Hid _ := hin
    clear hV hin
    go_enter Try.func3, Try.ntmps3
    go_wp2_with fail
    refine (toByteS_any a cap zs _ I0.out hlen).mono ?_
    rintro e w1 ⟨rfl, O1, b1⟩
    have P1 : Hid _ := b1
    have Q1 : Hid _ := O1
    clear O1 b1
    go_wp2_with fail
    refine (specDec_any _ _ _ zs _ Q1.out hlen).mono ?_
    rintro e w2 ⟨rfl, b2⟩
    rw [← HV.out]
    have P2 : Hid (Below w.heap.size w w2) := P1.out.trans (b2.mono P1.out.size)
    clear b2 P1 Q1
    go_wp2_with fail
    have P3 : Hid (Below w.heap.size w (w2.alloc (.cells #[.int .i64 V.1.k, .int .i64 V.1.n, .string V.1.t] 24))) := P2.out.alloc P2.out.size _
    have L3 : Hid (Blk _ _ _ _ _) := Blk.new w2 (.int .i64 V.1.k) (.int .i64 V.1.n) (.string V.1.t) 24
    refine (toByteS_any a cap zs _ (InB.step I0.out P3.out) hlen).mono ?_
    rintro e w4 ⟨rfl, O4, b4⟩
    have P4 : Hid (Below w.heap.size w w4) := P3.out.trans (b4.mono P3.out.size)
    have L4 : Hid (Blk _ _ _ _ _) := L3.out.step b4
    have e4 : (w2.alloc (.cells #[.int .i64 V.1.k, .int .i64 V.1.n, .string V.1.t] 24)).heap.size = w2.heap.size + 1 := by simp
    rw [e4] at O4
    have Q4 : Hid (OwnB _ _ _ _ _) := O4
    clear e4
    clear O4 b4 L3 P3 P2
    go_wp2_with fail
    refine (dec_any _ _ _ zs _ Q4.out hlen).mono ?_
    rintro e w5 ⟨rfl, b5⟩
    rw [← HV.out]
    have P5 : Hid (Below w.heap.size w w5) := P4.out.trans (b5.mono P4.out.size)
    have L5 : Hid (Blk _ _ _ _ _) := L4.out.step b5
    have Q5 : Hid (OwnB _ _ _ _ _) := OwnB.step Q4.out b5
    have l0 := L5.out.c0
    have l1 := L5.out.c1
    have l2 := L5.out.c2
    have hlt5 := L5.out.lt
    clear b5 L4 P4 Q4
    go_wp2_with fail
    refine (eqValue_same _ _ _ _).mono ?_
    rintro e w6 ⟨rfl, b6⟩
    have P6 : Hid (Below w.heap.size w w6) := (P5.out.alloc P5.out.size _).trans (b6.mono (by have := P5.out.size; simp; omega))
    have b56 : Below w5.heap.size w5 w6 := ((Below.refl _ _).alloc (Nat.le_refl _) _).trans (b6.mono (by simp))
    have Q6 : Hid (OwnB _ _ _ _ _) := OwnB.step Q5.out b56
    clear b6 b56 L5 P5 Q5 l0 l1 l2 hlt5
    go_wp2_with fail
    refine (toByteS_any a cap zs _ (InB.step I0.out P6.out) hlen).mono ?_
    rintro e w7 ⟨rfl, O7, b7⟩
    have P7 : Hid (Below w.heap.size w w7) := P6.out.trans (b7.mono P6.out.size)
    have Q7 : Hid (OwnB _ _ _ _ _) := OwnB.step Q6.out b7
    have R7 : Hid (OwnB _ _ _ _ _) := O7
    clear O7 b7 P6 Q6
    go_wp2_with fail
    refine (eqByteS_same _ _ _ _ zs _ _ _ Q7.out R7.out hlen).mono ?_
    rintro e w8 ⟨rfl, b8⟩
    have P8 : Hid (Below w.heap.size w w8) := P7.out.trans (b8.mono P7.out.size)
    clear b8 P7 Q7 R7
    go_wp2_with fail
    go_ret
    exact ⟨rfl, P8.out⟩

theorem own : ownKnob Try.prog.godebug = none := by kernel_rfl
theorem laidOut : laidOutB Try.prog = true := by kernel_rfl

set_option maxRecDepth 100000 in
theorem lifted (os : Os) (started : os.Started) (H : Type) (enc : TypeId × Value → H) :
    ReturnsInHanded {} Try.checked os 3 .any (Rows.fnExactDecodeValueSpec.pre6 enc Try.prog Try.f3 Rows.fnExactDecodeValueRow.domain false) (Rows.fnExactDecodeValueSpec.post enc Try.prog Try.f3 false true false false) := by
  refine returnsInHanded_of_change (C := Try.checked) own started (by kernel_rfl) Try.func3
    (ChangeSpec.witness6 (enc := enc) (C := Try.checked) false ⟨#[], #[.slice none 0 0], []⟩ 8 (by kernel_rfl) (by kernel_rfl) (by kernel_rfl) (by kernel_rfl)) ?_
  intro W base args ds gs before hval0 hW hcnd _
  have hval : ∀ (j : Nat) t v, Try.f3.params[j]? = some t → args[j]? = some v → Value.okWide Try.prog W .any base t v := hval0
  have hW' := hW
  obtain ⟨p, q, hA0, hV, rfl, hfz, hnd⟩ := hW
  have hA : DataW.TrodAll enc Try.prog W 0 (fun _ => true) true Try.f3.params.toList args.toList ds p := hA0
  rw [Try.params3] at hA hval
  obtain ⟨v0, vs0, d0, ds0, p0, q0, hargs, rfl, rfl, h0, r0⟩ := trodAll_cons hA
  obtain ⟨rfl, rfl, rfl⟩ := trodAll_nil r0
  obtain rfl : args = #[v0] := by cases args; simp_all
  obtain ⟨rfl, rfl⟩ := trodVars_none hV
  have k0 := h0
  have lt0 : ∀ x ∈ p0, x.block < W.heap.size := by obtain ⟨m, hm⟩ := k0; exact DataW.trod_lt m _ _ _ hm
  obtain ⟨x0, len0, cap0, rfl⟩ := okWide_slice Try.underlying22 (hval 0 22 v0 rfl rfl)
  obtain ⟨z0, hz0, i0⟩ : ∃ zs : List Int, zs.length = len0 ∧ InB W x0 zs := by
    obtain ⟨fuel, hf⟩ := h0
    rcases open_ints Try.underlying22 Try.underlying5 (by kernel_rfl) hf with ⟨hcs, _⟩ | ⟨x, l, c, zs, hcs, _, hl, hm, hz, _, hcell, hwz⟩
    · simp [Value.cells] at hcs
      obtain ⟨rfl, rfl, rfl⟩ := hcs
      exact ⟨[], rfl, .inl rfl⟩
    · simp [Value.cells] at hcs
      obtain ⟨rfl, rfl, rfl⟩ := hcs
      exact inb_of hl (by simpa using hz) hcell
  subst hz0
  clear hA0 hval0
  refine (walk x0 cap0 z0 W i0).mono fun e W' ⟨he, bel⟩ => ?_
  subst he
  exact ⟨_, rfl, _, _, _, [], _, [], hW', trodAll_mk1 (shut_bool Try.underlying4 _), (trodAll_cons_mk (Below.trod laidOut (by kernel_rfl) (of_decide_eq_true (by kernel_rfl)) k0 bel lt0) trodAll_mk0), rfl, bel.frame _, fun h => by cases h⟩
end PDecode

theorem fnExactDecodeValue_holds : Rows.FnExactDecodeValueSaid :=
  OpenClaim.holds_of_wide 3 Try.f3 rfl rfl rfl rfl rfl rfl rfl ⟨rfl, rfl, rfl, rfl, rfl⟩ rfl rfl rfl rfl rfl (by kernel_rfl) Try.func3 (by kernel_rfl)
    (of_decide_eq_true (by kernel_rfl)) (by unfold Func.isWrapper; first | (rw [if_pos (by decide +kernel)]; kernel_rfl) | (rw [if_neg (by decide +kernel)]; exact ⟨rfl, rfl⟩))
    (fun os started H enc _ => PDecode.lifted os started H enc)
#print axioms fnExactDecodeValue_holds
end Go.Proofs.Ytfjahgnennnncah
