/- What two intervals have in common: the program's answer. -/
import Derived.Test.YtkeghknceccdmaaGreatDoorIvlM
import Derived.Test.YtkeghknceccdmaaGreatDoorTail
namespace Go.Proofs.YtkeghknceccdmaaGreatDoor
open Go.RowKit
set_option linter.unusedVariables false

set_option maxRecDepth 4000 in
set_option maxHeartbeats 8000000 in
theorem implMeet_false (lo hi lo' hi' M H : ByteArray) (op' : Bool) (w : World) (hmx : ∀ (W : World) ts t, (Builtin.max_ ts t #[.string lo, .string lo']).run Tryz.prog W = .ok (.string M) W)
    (hL : ∀ W : World, Calls Tryz.prog 46 #[.agg #[.string lo, .string hi, .bool false], .agg #[.string lo', .string hi', .bool op']] W fun e w' => e = .returned (.string H) ∧ Below W.heap.size W w') (hMs : M.size ≤ 1048576) (hHs : H.size ≤ 1048576) :
    Calls Tryz.prog 9 #[.agg #[.string lo, .string hi, .bool false], .agg #[.string lo', .string hi', .bool op']] w fun e w' => e = .returned (.agg #[.string M, .string H, .bool false]) ∧ Below w.heap.size w w' := by
  have X0 := OwnI.start w (.string lo) (.string hi) (.bool false) (.string lo') (.string hi') (.bool op') 24
  have HL : Hid (∀ W : World, Calls _ _ _ W _) := hL
  have HM : Hid (∀ W : World, Calls _ _ _ W _) := fun W => strClone_any M W hMs
  have HH : Hid (∀ W : World, Calls _ _ _ W _) := fun W => strClone_any H W hHs
  clear hL hMs hHs
  go_enter Tryz.func9, Tryz.ntmps9
  go_wp2_with fail
  generalize ((w.alloc (.cells #[.string lo, .string hi, .bool false] 24)).alloc (.cells #[.string lo', .string hi', .bool op'] 24)).alloc (.cells #[.string em, .string em, .bool false] 24) = W0 at X0 ⊢
  have q0 : ∀ u : Under W0, u.x.cell? ⟨w.heap.size, 0, none⟩ = some (.string lo) := fun u => (X0.step u.h).c0
  have q1 : ∀ u : Under W0, u.x.cell? ⟨w.heap.size, 1, none⟩ = some (.string hi) := fun u => (X0.step u.h).c1
  have q2 : ∀ u : Under W0, u.x.cell? ⟨w.heap.size, 2, none⟩ = some (.bool false) := fun u => (X0.step u.h).c2
  have r0 : ∀ u : Under W0, u.x.cell? ⟨w.heap.size + 1, 0, none⟩ = some (.string lo') := fun u => (X0.step u.h).e0
  have r1 : ∀ u : Under W0, u.x.cell? ⟨w.heap.size + 1, 1, none⟩ = some (.string hi') := fun u => (X0.step u.h).e1
  have r2 : ∀ u : Under W0, u.x.cell? ⟨w.heap.size + 1, 2, none⟩ = some (.bool op') := fun u => (X0.step u.h).e2
  have hnu : Nonempty (Under W0) := ⟨⟨W0, Below.refl _ _⟩⟩
  refine wp_region_under_tail 17 (by kernel_rfl) (by kernel_rfl) ?_
  simp only [List.take_succ_cons, List.take_zero, List.drop_succ_cons, List.drop_zero]
  repeat (go_big_quiet_step ((first | (go_at_call_of 45 (Value.string M); exact calls_under _ (HM.out _)) | (go_at_call_of 45 (Value.string H); exact calls_under _ (HH.out _)) | (go_at_call 46; exact calls_under _ (HL.out _)))))
  refine wpQuiet_nil ?_
  rintro _ ⟨u, rfl⟩
  have Y := X0.step u.h
  have d0 := Y.d0
  have d1 := Y.d1
  have d2 := Y.d2
  have z0 := Y.z0
  have z1 := Y.z1
  have z2 := Y.z2
  have hlt := Y.lt
  have hbw := Y.bel
  clear q0 q1 q2 r0 r1 r2 hnu
  go_wp2_with fail
  refine bodyPost_ret (v := .agg #[.string M, .string H, .bool false]) (by simp [results, Tryz.results9, go_sem, *]) rfl ⟨rfl, ?_⟩
  (repeat (first | (with_reducible exact Below.refl _ _) | (with_reducible assumption) | (with_reducible apply below_drewN) | (with_reducible apply Below.drew) | ((with_reducible refine Below.setCell ?_ ?_ _); rotate_left; focus (first | (simp; done) | (simp; omega) | omega)) | ((with_reducible refine Below.alloc ?_ ?_ _); rotate_left; focus (first | (simp; done) | (simp; omega) | omega))))

set_option maxRecDepth 4000 in
set_option maxHeartbeats 8000000 in
theorem implMeet_true (lo hi lo' hi' M H : ByteArray) (op' : Bool) (w : World) (hmx : ∀ (W : World) ts t, (Builtin.max_ ts t #[.string lo, .string lo']).run Tryz.prog W = .ok (.string M) W)
    (hL : ∀ W : World, Calls Tryz.prog 46 #[.agg #[.string lo, .string hi, .bool true], .agg #[.string lo', .string hi', .bool op']] W fun e w' => e = .returned (.string H) ∧ Below W.heap.size W w') (hMs : M.size ≤ 1048576) (hHs : H.size ≤ 1048576) :
    Calls Tryz.prog 9 #[.agg #[.string lo, .string hi, .bool true], .agg #[.string lo', .string hi', .bool op']] w fun e w' => e = .returned (.agg #[.string M, .string H, .bool op']) ∧ Below w.heap.size w w' := by
  have X0 := OwnI.start w (.string lo) (.string hi) (.bool true) (.string lo') (.string hi') (.bool op') 24
  have HL : Hid (∀ W : World, Calls _ _ _ W _) := hL
  have HM : Hid (∀ W : World, Calls _ _ _ W _) := fun W => strClone_any M W hMs
  have HH : Hid (∀ W : World, Calls _ _ _ W _) := fun W => strClone_any H W hHs
  clear hL hMs hHs
  go_enter Tryz.func9, Tryz.ntmps9
  go_wp2_with fail
  generalize ((w.alloc (.cells #[.string lo, .string hi, .bool true] 24)).alloc (.cells #[.string lo', .string hi', .bool op'] 24)).alloc (.cells #[.string em, .string em, .bool false] 24) = W0 at X0 ⊢
  have q0 : ∀ u : Under W0, u.x.cell? ⟨w.heap.size, 0, none⟩ = some (.string lo) := fun u => (X0.step u.h).c0
  have q1 : ∀ u : Under W0, u.x.cell? ⟨w.heap.size, 1, none⟩ = some (.string hi) := fun u => (X0.step u.h).c1
  have q2 : ∀ u : Under W0, u.x.cell? ⟨w.heap.size, 2, none⟩ = some (.bool true) := fun u => (X0.step u.h).c2
  have r0 : ∀ u : Under W0, u.x.cell? ⟨w.heap.size + 1, 0, none⟩ = some (.string lo') := fun u => (X0.step u.h).e0
  have r1 : ∀ u : Under W0, u.x.cell? ⟨w.heap.size + 1, 1, none⟩ = some (.string hi') := fun u => (X0.step u.h).e1
  have r2 : ∀ u : Under W0, u.x.cell? ⟨w.heap.size + 1, 2, none⟩ = some (.bool op') := fun u => (X0.step u.h).e2
  have hnu : Nonempty (Under W0) := ⟨⟨W0, Below.refl _ _⟩⟩
  refine wp_region_under_tail 17 (by kernel_rfl) (by kernel_rfl) ?_
  simp only [List.take_succ_cons, List.take_zero, List.drop_succ_cons, List.drop_zero]
  repeat (go_big_quiet_step ((first | (go_at_call_of 45 (Value.string M); exact calls_under _ (HM.out _)) | (go_at_call_of 45 (Value.string H); exact calls_under _ (HH.out _)) | (go_at_call 46; exact calls_under _ (HL.out _)))))
  refine wpQuiet_nil ?_
  rintro _ ⟨u, rfl⟩
  have Y := X0.step u.h
  have d0 := Y.d0
  have d1 := Y.d1
  have d2 := Y.d2
  have z0 := Y.z0
  have z1 := Y.z1
  have z2 := Y.z2
  have hlt := Y.lt
  have hbw := Y.bel
  clear q0 q1 q2 r0 r1 r2 hnu
  go_wp2_with fail
  refine bodyPost_ret (v := .agg #[.string M, .string H, .bool op']) (by simp [results, Tryz.results9, go_sem, *]) rfl ⟨rfl, ?_⟩
  (repeat (first | (with_reducible exact Below.refl _ _) | (with_reducible assumption) | (with_reducible apply below_drewN) | (with_reducible apply Below.drew) | ((with_reducible refine Below.setCell ?_ ?_ _); rotate_left; focus (first | (simp; done) | (simp; omega) | omega)) | ((with_reducible refine Below.alloc ?_ ?_ _); rotate_left; focus (first | (simp; done) | (simp; omega) | omega))))

theorem implMeet_any (a b : Ivl) (w : World) (hs : a.lo.size ≤ 1048576) (hs1 : a.hi.size ≤ 1048576) (hs2 : b.lo.size ≤ 1048576) (hs3 : b.hi.size ≤ 1048576) :
    Calls Tryz.prog 9 #[.agg #[.string a.lo, .string a.hi, .bool a.op], .agg #[.string b.lo, .string b.hi, .bool b.op]] w fun e w' => e = .returned (.agg #[.string (meetI a b).lo, .string (meetI a b).hi, .bool (meetI a b).op]) ∧ Below w.heap.size w w' := by
  have hML : (Lib.maxS a.lo b.lo).size ≤ 1048576 := by unfold Lib.maxS; split <;> assumption
  have hHL : (hiM a b).size ≤ 1048576 := by
    unfold hiM
    split
    · split
      · show 0 ≤ 1048576; omega
      · exact hs3
    · split
      · exact hs1
      · unfold Lib.minS; split <;> assumption
  obtain ⟨lo, hi, op⟩ := a
  obtain ⟨lo', hi', op'⟩ := b
  cases op
  · exact implMeet_false lo hi lo' hi' _ _ op' w (fun W ts t => Lib.run_max_strs W ts t lo lo') (fun W => lesserHigh_any ⟨lo, hi, false⟩ ⟨lo', hi', op'⟩ W) hML hHL
  · exact implMeet_true lo hi lo' hi' _ _ op' w (fun W ts t => Lib.run_max_strs W ts t lo lo') (fun W => lesserHigh_any ⟨lo, hi, true⟩ ⟨lo', hi', op'⟩ W) hML hHL

end Go.Proofs.YtkeghknceccdmaaGreatDoor
