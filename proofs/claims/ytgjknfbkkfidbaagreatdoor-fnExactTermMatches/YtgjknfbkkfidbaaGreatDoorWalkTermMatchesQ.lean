import Derived.Test.YtgjknfbkkfidbaaGreatDoorTermUQ
import Derived.Test.YtgjknfbkkfidbaaGreatDoorTie
import Derived.Test.YtgjknfbkkfidbaaGreatDoorCards
import Derived.LaidMore
import Derived.Lay
import Derived.Stop.Joined
import Derived.SevenTiedAt
import Derived.ProofKit
import Derived.OpenShut
import Derived.ShutString
import Derived.ChangeOld
import Derived.Below
import Derived.Lib.SmallJoins
/- The law's own walk. -/
namespace Go.Proofs.YtgjknfbkkfidbaaGreatDoor
open Go.ChangeShapes Go.WideShapes Go.ChangeAt Go.RowKit Go.Joins
open Go.ChangeMaps (open_string shut_string)
set_option linter.unusedVariables false
namespace PTmM

set_option maxRecDepth 8000 in
set_option maxHeartbeats 2000000 in
theorem walk (op : Int) (p : ByteArray) (k n : Int) (t : ByteArray) (hp : p.size ≤ maxLen) (ht : t.size ≤ maxLen) (k' n' : Int) (t' : ByteArray) (ht' : t'.size ≤ maxLen) (_ : (Lit.int .i64 k').wf = true) (_ : (Lit.int .i64 n').wf = true) (w : World) :
    Calls Tryz.prog 9 #[.agg #[.int .i64 op, .string p, .int .i64 k, .int .i64 n, .string t], .agg #[.int .i64 k', .int .i64 n', .string t']] w fun e w' => e = .returned (.bool true) ∧ Below w.heap.size w w' := by
  have X0 := B53.start w (.int .i64 op) (.string p) (.int .i64 k) (.int .i64 n) (.string t) (.int .i64 k') (.int .i64 n') (.string t') 74 60
  go_enter Tryz.func9, Tryz.ntmps9
  go_wp2_with fail
  refine (szTerm_any op p k n t _ _ hp ht (by omega) (by omega)).mono ?_
  rintro e w1 ⟨⟨r, rfl, hr⟩, hb⟩
  have X1 := X0.step hb
  clear hb X0
  rcases hr with hneg | ⟨hpos, hpos2, hp1, ht1⟩
  · have hbw := X1.bel
    go_wp2_with fail
    go_ret
    exact ⟨rfl, hbw⟩
  have hnn : ¬ (r < 0) := by omega
  have f0 := X1.d0
  have f1 := X1.d1
  have f2 := X1.d2
  go_wp2_with fail
  refine (szValue_any k' n' t' _ _ ht' (by omega) (by omega)).mono ?_
  rintro e w2 ⟨rfl, hb⟩
  have X2 := X1.step hb
  clear hb X1 f0 f1 f2
  by_cases hbig : r < t'.size
  · rw [if_pos hbig]
    have hbw := X2.bel
    go_wp2_with fail
    go_ret
    exact ⟨rfl, hbw⟩
  rw [if_neg hbig]
  have hnn2 : ¬ (r - (t'.size : Int) < 0) := by omega
  have h2 : t'.size ≤ 1048576 := by omega
  have HS0 := fun W => specTermMatches_any op p ⟨k, n, t⟩ ⟨k', n', t'⟩ W hp1 ht1 h2
  have HI0 := fun W => termMatches_any op p ⟨k, n, t⟩ ⟨k', n', t'⟩ W hp1 ht1 h2
  obtain ⟨P, hP⟩ : ∃ P, P = matchP op p ⟨k, n, t⟩ ⟨k', n', t'⟩ := ⟨_, rfl⟩
  rw [← hP] at HS0 HI0
  obtain ⟨p1, p2⟩ := P
  have HS : Hid (∀ W : World, Calls Tryz.prog 40 #[.agg #[.int .i64 op, .string p, .int .i64 k, .int .i64 n, .string t], .agg #[.int .i64 k', .int .i64 n', .string t']] W fun e w' => e = .returned (.tuple #[.bool p1, .int .i64 p2]) ∧ Below W.heap.size W w') := HS0
  have HI : Hid (∀ W : World, Calls Tryz.prog 39 #[.agg #[.int .i64 op, .string p, .int .i64 k, .int .i64 n, .string t], .agg #[.int .i64 k', .int .i64 n', .string t']] W fun e w' => e = .returned (.tuple #[.bool p1, .int .i64 p2]) ∧ Below W.heap.size W w') := HI0
  clear HS0 HI0 hP
  have l2 := X2.lt
  have l1 : w.heap.size < w2.heap.size := by omega
  have q0 : ∀ u : Under w2, u.x.cell? ⟨w.heap.size, 0, none⟩ = some (.int .i64 op) := fun u => (u.h.cell l1).trans X2.c0
  have q1 : ∀ u : Under w2, u.x.cell? ⟨w.heap.size, 1, none⟩ = some (.string p) := fun u => (u.h.cell l1).trans X2.c1
  have q2 : ∀ u : Under w2, u.x.cell? ⟨w.heap.size, 2, none⟩ = some (.int .i64 k) := fun u => (u.h.cell l1).trans X2.c2
  have q3 : ∀ u : Under w2, u.x.cell? ⟨w.heap.size, 3, none⟩ = some (.int .i64 n) := fun u => (u.h.cell l1).trans X2.c3
  have q4 : ∀ u : Under w2, u.x.cell? ⟨w.heap.size, 4, none⟩ = some (.string t) := fun u => (u.h.cell l1).trans X2.c4
  have r0 : ∀ u : Under w2, u.x.cell? ⟨w.heap.size + 1, 0, none⟩ = some (.int .i64 k') := fun u => (u.h.cell l2).trans X2.d0
  have r1 : ∀ u : Under w2, u.x.cell? ⟨w.heap.size + 1, 1, none⟩ = some (.int .i64 n') := fun u => (u.h.cell l2).trans X2.d1
  have r2 : ∀ u : Under w2, u.x.cell? ⟨w.heap.size + 1, 2, none⟩ = some (.string t') := fun u => (u.h.cell l2).trans X2.d2
  have hnu : Nonempty (Under w2) := ⟨⟨w2, Below.refl _ _⟩⟩
  go_wp2_with fail
  refine wp_region_under (by kernel_rfl) (by kernel_rfl) ?_
  repeat (go_big_quiet_step ((first | (go_at_call 51; exact calls_under _ (toTerm_any op p k n t _)) | (go_at_call 44; exact calls_under _ (toValue_any k' n' t' _)) | (go_at_call 40; exact calls_under _ (HS.out _)))))
  refine wpQuiet_nil ?_
  rintro _ ⟨u, rfl⟩
  have X3 := X2.step u.h
  have l3 := X3.lt
  have l4 : w.heap.size < u.x.heap.size := by omega
  clear q0 q1 q2 q3 q4 r0 r1 r2 hnu
  have q0 : ∀ u : Under u.x, u.x.cell? ⟨w.heap.size, 0, none⟩ = some (.int .i64 op) := fun u => (u.h.cell l4).trans X3.c0
  have q1 : ∀ u : Under u.x, u.x.cell? ⟨w.heap.size, 1, none⟩ = some (.string p) := fun u => (u.h.cell l4).trans X3.c1
  have q2 : ∀ u : Under u.x, u.x.cell? ⟨w.heap.size, 2, none⟩ = some (.int .i64 k) := fun u => (u.h.cell l4).trans X3.c2
  have q3 : ∀ u : Under u.x, u.x.cell? ⟨w.heap.size, 3, none⟩ = some (.int .i64 n) := fun u => (u.h.cell l4).trans X3.c3
  have q4 : ∀ u : Under u.x, u.x.cell? ⟨w.heap.size, 4, none⟩ = some (.string t) := fun u => (u.h.cell l4).trans X3.c4
  have r0 : ∀ u : Under u.x, u.x.cell? ⟨w.heap.size + 1, 0, none⟩ = some (.int .i64 k') := fun u => (u.h.cell l3).trans X3.d0
  have r1 : ∀ u : Under u.x, u.x.cell? ⟨w.heap.size + 1, 1, none⟩ = some (.int .i64 n') := fun u => (u.h.cell l3).trans X3.d1
  have r2 : ∀ u : Under u.x, u.x.cell? ⟨w.heap.size + 1, 2, none⟩ = some (.string t') := fun u => (u.h.cell l3).trans X3.d2
  have hnu : Nonempty (Under u.x) := ⟨⟨u.x, Below.refl _ _⟩⟩
  go_wp2_with fail
  refine wp_region_under (by kernel_rfl) (by kernel_rfl) ?_
  repeat (go_big_quiet_step ((first | (go_at_call 51; exact calls_under _ (toTerm_any op p k n t _)) | (go_at_call 44; exact calls_under _ (toValue_any k' n' t' _)) | (go_at_call 39; exact calls_under _ (HI.out _)))))
  refine wpQuiet_nil ?_
  rintro _ ⟨v, rfl⟩
  have hbw := (X3.step v.h).bel
  go_wp2_with fail
  go_ret
  exact ⟨rfl, hbw⟩

end PTmM
end Go.Proofs.YtgjknfbkkfidbaaGreatDoor

/- The law's walk, lifted to the row. -/
namespace Go.Proofs.YtgjknfbkkfidbaaGreatDoor
open Go.ChangeShapes Go.WideShapes Go.ChangeAt Go.RowKit Go.Joins
open Go.ChangeMaps (open_string shut_string)
set_option linter.unusedVariables false
namespace PTmM
theorem own : ownKnob Tryz.prog.godebug = none := by kernel_rfl
theorem laidOut : laidOutB Tryz.prog = true := by kernel_rfl
theorem cellsV : Tryz.prog.cellsOf 60 = 3 := by kernel_rfl

set_option maxRecDepth 100000 in
theorem lifted (os : Os) (started : os.Started) (H : Type) (enc : TypeId × Value → H) :
    ReturnsInHanded {} Tryz.checked os 9 .any (fun w args => (Rows.fnExactTermMatchesSpec.pre enc Tryz.prog Tryz.f9 Rows.fnExactTermMatchesRow.domain false w args ∧ laidMetH Tryz.prog Rows.fnExactTermMatchesRow.laid w) ∧ sizedMet enc Tryz.prog Tryz.f9 (OpenSpec.ofChange Rows.fnExactTermMatchesSpec) false w args)
      (Rows.fnExactTermMatchesSpec.post enc Tryz.prog Tryz.f9 false true false false) := by
  refine returnsInHanded_of_change_and (C := Tryz.checked) (X := fun w _ => laidMetH Tryz.prog Rows.fnExactTermMatchesRow.laid w) (fun _ _ _ hh h => h.of_heap hh) own started (by kernel_rfl) Tryz.func9
    (ChangeSpec.witness_shaped (enc := enc) (C := Tryz.checked) (os := os) (X := fun w _ => laidMetH Tryz.prog Rows.fnExactTermMatchesRow.laid w) false (World.laidAll Tryz.prog os Rows.fnExactTermMatchesRow.laid) #[.agg #[.int .i64 0, .string ByteArray.empty, .int .i64 0, .int .i64 0, .string ByteArray.empty], .agg #[.int .i64 0, .int .i64 0, .string ByteArray.empty]] 8 (World.laidAll_os _ _ _)
      (World.shaped_of_ZipB (by kernel_rfl) (by kernel_rfl)) (by kernel_rfl) (by kernel_rfl) (by kernel_rfl)
      (by rw [MakeChecks.laidMetH_plain _ _ _ (by kernel_rfl)]; exact laidMet_laidAll _ (by kernel_rfl) (by kernel_rfl))) ?_
  intro W base args ds gs before hval0 hW hcnd _ hL _
  have hval : ∀ (j : Nat) t v, Tryz.f9.params[j]? = some t → args[j]? = some v → Value.okWide Tryz.prog W .any base t v := hval0
  have hW' := hW
  obtain ⟨p, q, hA0, hV, rfl, hfz, hnd⟩ := hW
  have hA : DataW.TrodAll enc Tryz.prog W 0 (fun _ => true) true Tryz.f9.params.toList args.toList ds p := hA0
  rw [Tryz.params9] at hA hval
  obtain ⟨v0, vs0, d0, ds0, p0, q0, hargs, rfl, rfl, h0, r0⟩ := trodAll_cons hA
  obtain ⟨v1, vs1, d1, ds1, p1, q1, rfl, rfl, rfl, h1, r1⟩ := trodAll_cons r0
  obtain ⟨rfl, rfl, rfl⟩ := trodAll_nil r1
  obtain rfl : args = #[v0, v1] := by cases args; simp_all
  obtain ⟨rfl, rfl⟩ := trodVars_none hV
  have k0 := h0
  have lt0 : ∀ x ∈ p0, x.block < W.heap.size := by obtain ⟨m, hm⟩ := k0; exact DataW.trod_lt m _ _ _ hm
  obtain ⟨o0, pt0, a0, b0, s0, rfl, wp0, ws0⟩ := open_term (hval 0 74 v0 rfl rfl) h0
  have k1 := h1
  have lt1 : ∀ x ∈ p1, x.block < W.heap.size := by obtain ⟨m, hm⟩ := k1; exact DataW.trod_lt m _ _ _ hm
  obtain ⟨c10, c11, c12, y10, y11, y12, m1, rfl, hd1, hp1, hy10, hy11, hy12⟩ := open_agg3 Tryz.underlying60 (by kernel_rfl) cellsV (hval 1 60 v1 rfl rfl) h1
  obtain ⟨a1, e10, _, wa1⟩ := DataW.trod_int Tryz.underlying3 hy10
  obtain ⟨b1, e11, _, wb1⟩ := DataW.trod_int Tryz.underlying3 hy11
  obtain ⟨s1, e12, _, ws1⟩ := DataW.trod_string Tryz.underlying9 hy12
  simp at e10 e11 e12
  subst e10 e11 e12
  clear hA0 hval0
  refine (walk o0 pt0 a0 b0 s0 wp0 ws0 a1 b1 s1 ws1 wa1 wb1 W).mono fun e W' ⟨he, bel⟩ => ?_
  subst he
  exact ⟨_, rfl, _, _, _, [], _, [], hW', trodAll_mk1 (shut_bool Tryz.underlying4 _), (trodAll_cons_mk (Below.trod laidOut (by kernel_rfl) (of_decide_eq_true (by kernel_rfl)) k0 bel lt0) (trodAll_cons_mk (Below.trod laidOut (by kernel_rfl) (of_decide_eq_true (by kernel_rfl)) k1 bel lt1) trodAll_mk0)), rfl, bel.frame _, fun h => by cases h⟩
end PTmM
end Go.Proofs.YtgjknfbkkfidbaaGreatDoor
