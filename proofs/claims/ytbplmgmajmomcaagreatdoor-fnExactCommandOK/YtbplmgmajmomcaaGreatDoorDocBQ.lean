/- Whether a value is a right document: what the program and the specification answer. -/
import Derived.Test.YtbplmgmajmomcaaGreatDoorOwnQ
import Derived.Test.YtbplmgmajmomcaaGreatDoorLawVal
import Derived.Test.YtbplmgmajmomcaaGreatDoorOKD
namespace Go.Proofs.YtbplmgmajmomcaaGreatDoor
open Go.RowKit
set_option linter.unusedVariables false

theorem docB_ok (v : Val) (h : docB v = true) : okB v = true := by unfold docB at h; rw [Bool.and_eq_true] at h; exact h.2

set_option maxRecDepth 4000 in
set_option maxHeartbeats 1000000 in
theorem documentOK_any (v : Val) (w : World) (hs : v.t.size ≤ 1048576) :
    Calls Tryz.prog 114 #[.agg #[.int .i64 v.k, .int .i64 v.n, .string v.t]] w fun e w' => e = .returned (.bool (docB v)) ∧ Below w.heap.size w w' := by
  have X0 := Boxed.start w (.int .i64 v.k) (.int .i64 v.n) (.string v.t) 53
  unfold docB
  by_cases h5 : v.k = 5
  · have e5 : (v.k == 5) = true := by simp [h5]
    rw [decide_eq_true h5, Bool.true_and]
    clear h5
    go_enter Tryz.func114, Tryz.ntmps114
    go_wp2_with fail
    refine (valueOK_any v.k v.n v.t _ (by unfold maxLen; omega)).mono ?_
    rintro e w1 ⟨rfl, hb⟩
    have hbw := (X0.step hb).bel
    clear hb
    go_wp2_with fail
    go_ret
    exact ⟨rfl, hbw⟩
  · have e5 : (v.k == 5) = false := beq_eq_false_iff_ne.mpr h5
    rw [decide_eq_false h5, Bool.false_and]
    clear h5
    go_enter Tryz.func114, Tryz.ntmps114
    go_wp2_with fail
    go_ret
    exact ⟨rfl, X0.bel⟩
set_option maxRecDepth 4000 in
set_option maxHeartbeats 1000000 in
theorem l03Doc_any (v : Val) (w : World) (hs : v.t.size ≤ 1048576) :
    Calls Tryz.prog 54 #[.agg #[.int .i64 v.k, .int .i64 v.n, .string v.t]] w fun e w' => e = .returned (.bool (docB v)) ∧ Below w.heap.size w w' := by
  have X0 := Boxed.start w (.int .i64 v.k) (.int .i64 v.n) (.string v.t) 53
  have HC : Hid (∀ W : World, Calls _ _ _ W _) := fun W => specValueOK_any v.k v.n v.t W hs
  have hd : docB v = (okB v && (v.k == 5)) := by unfold docB; rw [Bool.and_comm]; congr 1
  rw [hd]
  have ho : okB ⟨v.k, v.n, v.t⟩ = okB v := rfl
  rw [ho] at HC
  clear hd ho
  obtain ⟨O, hO⟩ : ∃ O, O = okB v := ⟨_, rfl⟩
  rw [← hO] at HC ⊢
  clear hO
  cases O
  · go_enter Tryz.func54, Tryz.ntmps54
    go_wp2_with fail
    refine (HC.out _).mono ?_
    rintro e w1 ⟨rfl, hb⟩
    have hbw := (X0.step hb).bel
    clear hb
    go_wp2_with fail
    go_ret
    exact ⟨rfl, hbw⟩
  · go_enter Tryz.func54, Tryz.ntmps54
    go_wp2_with fail
    refine (HC.out _).mono ?_
    rintro e w1 ⟨rfl, hb⟩
    have X1 := X0.step hb
    have a0 := X1.c0
    have hbw := X1.bel
    clear hb
    go_wp2_with fail
    go_ret
    exact ⟨ret_bool (by simp), hbw⟩

end Go.Proofs.YtbplmgmajmomcaaGreatDoor
