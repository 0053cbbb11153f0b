/- At every two values the program's order answers as the specification's does; no condition. -/
import Derived.Test.YtkdigdoomnafbaaOrdL
import Derived.ProofKit
import Derived.OpenShut
import Derived.ShutString
import Derived.ChangeOld
import Derived.Below
import Derived.Lib.SmallJoins
namespace Go.Proofs.Ytkdigdoomnafbaa
open Go.ChangeShapes Go.WideShapes Go.ChangeAt Go.RowKit Go.Joins
open Go.ChangeMaps (open_string shut_string)
set_option linter.unusedVariables false
namespace POrder

set_option maxRecDepth 8000 in
set_option maxHeartbeats 2000000 in
theorem walk (k n : Int) (t : ByteArray) (hs : t.size ≤ maxLen) (_ : (Lit.int .i64 k).wf = true) (_ : (Lit.int .i64 n).wf = true) (k' n' : Int) (t' : ByteArray) (hs' : t'.size ≤ maxLen) (_ : (Lit.int .i64 k').wf = true) (_ : (Lit.int .i64 n').wf = true) (w : World) :
    Calls Try.prog 11 #[.agg #[.int .i64 k, .int .i64 n, .string t], .agg #[.int .i64 k', .int .i64 n', .string t']] w fun e w' => e = .returned (.bool true) ∧ Below w.heap.size w w' := by
  have X0 := Two.start w (.int .i64 k) (.int .i64 n) (.string t) (.int .i64 k') (.int .i64 n') (.string t') 24
  by_cases hbig : (1048576 : Int) < t.size
  · go_enter Try.func11, Try.ntmps11
    go_wp2_with (go_at_call 15; refine (szValue_any k n t _ _ hs (by omega) (by omega)).mono ?_; rintro e w1 ⟨rfl, hb1⟩; rw [if_pos hbig])
    go_ret
    exact ⟨rfl, (X0.step hb1).bel⟩
  · have hpos : ¬ ((1048576 : Int) - (t.size : Int) < 0) := by omega
    by_cases hbig' : (1048576 : Int) - t.size < t'.size
    · go_enter Try.func11, Try.ntmps11
      go_wp2_with fail
      refine (szValue_any k n t _ _ hs (by omega) (by omega)).mono ?_
      rintro e w1 ⟨rfl, hb⟩
      rw [if_neg (by omega)]
      have X1 := X0.step hb
      have f0 := X1.d0
      have f1 := X1.d1
      have f2 := X1.d2
      clear hb X0
      go_wp2_with fail
      refine (szValue_any k' n' t' _ _ hs' (by omega) (by omega)).mono ?_
      rintro e w2 ⟨rfl, hb⟩
      rw [if_pos (by omega)]
      have X2 := X1.step hb
      clear hb X1 f0 f1 f2
      go_wp2_with fail
      go_ret
      exact ⟨rfl, X2.bel⟩
    · have hpos' : ¬ ((1048576 : Int) - (t.size : Int) - (t'.size : Int) < 0) := by omega
      have h1 : t.size ≤ 1048576 := by omega
      have h2 : t'.size ≤ 1048576 := by omega
      have HS0 := fun W => specOrder_any k n k' n' t t' W h1 h2
      have HI0 := fun W => implOrder_any k n k' n' t t' W h1 h2
      obtain ⟨P, hP⟩ : ∃ P, P = ordP ⟨k, n, t⟩ ⟨k', n', t'⟩ := ⟨_, rfl⟩
      rw [← hP] at HS0 HI0
      obtain ⟨p1, p2⟩ := P
      have HS : Hid _ := HS0
      have HI : Hid _ := HI0
      clear HS0 HI0 hP
      go_enter Try.func11, Try.ntmps11
      go_wp2_with fail
      refine (szValue_any k n t _ _ hs (by omega) (by omega)).mono ?_
      rintro e w1 ⟨rfl, hb⟩
      rw [if_neg (by omega)]
      have X1 := X0.step hb
      have f0 := X1.d0
      have f1 := X1.d1
      have f2 := X1.d2
      clear hb X0
      go_wp2_with fail
      refine (szValue_any k' n' t' _ _ hs' (by omega) (by omega)).mono ?_
      rintro e w2 ⟨rfl, hb⟩
      rw [if_neg (by omega)]
      have X2 := X1.step hb
      have l2 := X2.lt
      have l1 : w.heap.size < w2.heap.size := by omega
      have q0 : ∀ u : Under w2, u.x.cell? ⟨w.heap.size, 0, none⟩ = some (.int .i64 k) := fun u => (u.h.cell l1).trans X2.c0
      have q1 : ∀ u : Under w2, u.x.cell? ⟨w.heap.size, 1, none⟩ = some (.int .i64 n) := fun u => (u.h.cell l1).trans X2.c1
      have q2 : ∀ u : Under w2, u.x.cell? ⟨w.heap.size, 2, none⟩ = some (.string t) := fun u => (u.h.cell l1).trans X2.c2
      have r0 : ∀ u : Under w2, u.x.cell? ⟨w.heap.size + 1, 0, none⟩ = some (.int .i64 k') := fun u => (u.h.cell l2).trans X2.d0
      have r1 : ∀ u : Under w2, u.x.cell? ⟨w.heap.size + 1, 1, none⟩ = some (.int .i64 n') := fun u => (u.h.cell l2).trans X2.d1
      have r2 : ∀ u : Under w2, u.x.cell? ⟨w.heap.size + 1, 2, none⟩ = some (.string t') := fun u => (u.h.cell l2).trans X2.d2
      have hnu : Nonempty (Under w2) := ⟨⟨w2, Below.refl _ _⟩⟩
      clear hb X1 f0 f1 f2
      go_wp2_with fail
      refine wp_region_under (by kernel_rfl) (by kernel_rfl) ?_
      repeat (go_big_quiet_step ((first | (go_at_call_of 17 (Value.string t); exact calls_under _ (toValue_any k n t _)) | (go_at_call_of 17 (Value.string t'); exact calls_under _ (toValue_any k' n' t' _)) | (go_at_call 46; exact calls_under _ (HS.out _)))))
      refine wpQuiet_nil ?_
      rintro _ ⟨u, rfl⟩
      have X3 := X2.step u.h
      have l3 := X3.lt
      have l4 : w.heap.size < u.x.heap.size := by omega
      have s0 : ∀ v : Under u.x, v.x.cell? ⟨w.heap.size, 0, none⟩ = some (.int .i64 k) := fun v => (v.h.cell l4).trans X3.c0
      have s1 : ∀ v : Under u.x, v.x.cell? ⟨w.heap.size, 1, none⟩ = some (.int .i64 n) := fun v => (v.h.cell l4).trans X3.c1
      have s2 : ∀ v : Under u.x, v.x.cell? ⟨w.heap.size, 2, none⟩ = some (.string t) := fun v => (v.h.cell l4).trans X3.c2
      have t0 : ∀ v : Under u.x, v.x.cell? ⟨w.heap.size + 1, 0, none⟩ = some (.int .i64 k') := fun v => (v.h.cell l3).trans X3.d0
      have t1 : ∀ v : Under u.x, v.x.cell? ⟨w.heap.size + 1, 1, none⟩ = some (.int .i64 n') := fun v => (v.h.cell l3).trans X3.d1
      have t2 : ∀ v : Under u.x, v.x.cell? ⟨w.heap.size + 1, 2, none⟩ = some (.string t') := fun v => (v.h.cell l3).trans X3.d2
      have hnu2 : Nonempty (Under u.x) := ⟨⟨u.x, Below.refl _ _⟩⟩
      go_wp2_with fail
      refine wp_region_under (by kernel_rfl) (by kernel_rfl) ?_
      repeat (go_big_quiet_step ((first | (go_at_call_of 17 (Value.string t); exact calls_under _ (toValue_any k n t _)) | (go_at_call_of 17 (Value.string t'); exact calls_under _ (toValue_any k' n' t' _)) | (go_at_call 47; exact calls_under _ (HI.out _)))))
      refine wpQuiet_nil ?_
      rintro _ ⟨v, rfl⟩
      go_wp2_with fail
      go_ret
      exact ⟨rfl, (X3.step v.h).bel⟩

theorem own : ownKnob Try.prog.godebug = none := by kernel_rfl
theorem laidOut : laidOutB Try.prog = true := by kernel_rfl
theorem cellsV : Try.prog.cellsOf 24 = 3 := by kernel_rfl

set_option maxRecDepth 100000 in
theorem lifted (os : Os) (started : os.Started) (H : Type) (enc : TypeId × Value → H) :
    ReturnsInHanded {} Try.checked os 11 .any (Rows.fnExactOrderValuesSpec.pre6 enc Try.prog Try.f11 Rows.fnExactOrderValuesRow.domain false) (Rows.fnExactOrderValuesSpec.post enc Try.prog Try.f11 false true false false) := by
  refine returnsInHanded_of_change (C := Try.checked) own started (by kernel_rfl) Try.func11
    (ChangeSpec.witness6 (enc := enc) (C := Try.checked) false ⟨#[], #[.agg #[.int .i64 0, .int .i64 0, .string ByteArray.empty], .agg #[.int .i64 0, .int .i64 0, .string ByteArray.empty]], []⟩ 8 (by kernel_rfl) (by kernel_rfl) (by kernel_rfl) (by kernel_rfl)) ?_
  intro W base args ds gs before hval0 hW hcnd _
  have hval : ∀ (j : Nat) t v, Try.f11.params[j]? = some t → args[j]? = some v → Value.okWide Try.prog W .any base t v := hval0
  have hW' := hW
  obtain ⟨p, q, hA0, hV, rfl, hfz, hnd⟩ := hW
  have hA : DataW.TrodAll enc Try.prog W 0 (fun _ => true) true Try.f11.params.toList args.toList ds p := hA0
  rw [Try.params11] at hA hval
  obtain ⟨v0, vs0, d0, ds0, p0, q0, hargs, rfl, rfl, h0, r0⟩ := trodAll_cons hA
  obtain ⟨v1, vs1, d1, ds1, p1, q1, rfl, rfl, rfl, h1, r1⟩ := trodAll_cons r0
  obtain ⟨rfl, rfl, rfl⟩ := trodAll_nil r1
  obtain rfl : args = #[v0, v1] := by cases args; simp_all
  obtain ⟨rfl, rfl⟩ := trodVars_none hV
  have k0 := h0
  have lt0 : ∀ x ∈ p0, x.block < W.heap.size := by obtain ⟨m, hm⟩ := k0; exact DataW.trod_lt m _ _ _ hm
  obtain ⟨c00, c01, c02, y00, y01, y02, m0, rfl, hd0, hp0, hy00, hy01, hy02⟩ := open_agg3 Try.underlying24 (by kernel_rfl) cellsV (hval 0 24 v0 rfl rfl) h0
  obtain ⟨a0, e00, _, wa0⟩ := DataW.trod_int Try.underlying3 hy00
  obtain ⟨b0, e01, _, wb0⟩ := DataW.trod_int Try.underlying3 hy01
  obtain ⟨s0, e02, _, ws0⟩ := DataW.trod_string Try.underlying9 hy02
  simp at e00 e01 e02
  subst e00 e01 e02
  have k1 := h1
  have lt1 : ∀ x ∈ p1, x.block < W.heap.size := by obtain ⟨m, hm⟩ := k1; exact DataW.trod_lt m _ _ _ hm
  obtain ⟨c10, c11, c12, y10, y11, y12, m1, rfl, hd1, hp1, hy10, hy11, hy12⟩ := open_agg3 Try.underlying24 (by kernel_rfl) cellsV (hval 1 24 v1 rfl rfl) h1
  obtain ⟨a1, e10, _, wa1⟩ := DataW.trod_int Try.underlying3 hy10
  obtain ⟨b1, e11, _, wb1⟩ := DataW.trod_int Try.underlying3 hy11
  obtain ⟨s1, e12, _, ws1⟩ := DataW.trod_string Try.underlying9 hy12
  simp at e10 e11 e12
  subst e10 e11 e12
  clear hA0 hval0
  refine (walk a0 b0 s0 ws0 wa0 wb0 a1 b1 s1 ws1 wa1 wb1 W).mono fun e W' ⟨he, bel⟩ => ?_
  subst he
  exact ⟨_, rfl, _, _, _, [], _, [], hW', trodAll_mk1 (shut_bool Try.underlying4 _), (trodAll_cons_mk (Below.trod laidOut (by kernel_rfl) (of_decide_eq_true (by kernel_rfl)) k0 bel lt0) (trodAll_cons_mk (Below.trod laidOut (by kernel_rfl) (of_decide_eq_true (by kernel_rfl)) k1 bel lt1) trodAll_mk0)), rfl, bel.frame _, fun h => by cases h⟩
end POrder

theorem fnExactOrderValues_holds : Rows.FnExactOrderValuesSaid :=
  OpenClaim.holds_of_wide 11 Try.f11 rfl rfl rfl rfl rfl rfl rfl ⟨rfl, rfl, rfl, rfl, rfl⟩ rfl rfl rfl rfl rfl (by kernel_rfl) Try.func11 (by kernel_rfl)
    (of_decide_eq_true (by kernel_rfl)) (by unfold Func.isWrapper; first | (rw [if_pos (by decide +kernel)]; kernel_rfl) | (rw [if_neg (by decide +kernel)]; exact ⟨rfl, rfl⟩))
    (fun os started H enc _ => POrder.lifted os started H enc)
#print axioms fnExactOrderValues_holds
end Go.Proofs.Ytkdigdoomnafbaa
