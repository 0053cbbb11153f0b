/- What an interval has: the program's and the specification's answer, for every interval and text. -/
import Derived.Test.YtkeghknceccdmaaGreatDoorLawVal
import Derived.Test.YtkeghknceccdmaaGreatDoorFits
namespace Go.Proofs.YtkeghknceccdmaaGreatDoor
open Go.RowKit
set_option linter.unusedVariables false

/-- An interval of texts. -/
structure Ivl where
  lo : ByteArray
  hi : ByteArray
  op : Bool
def hasI (i : Ivl) (key : ByteArray) : Bool := (Op.bytesLess i.lo.toList key.toList || i.lo.toList == key.toList) && (i.op || Op.bytesLess key.toList i.hi.toList)
def hasP (i : Ivl) (key : ByteArray) : Bool := decide (key.size ≤ 65536) && hasI i key

set_option maxRecDepth 4000 in
set_option maxHeartbeats 1000000 in
theorem l04Has_any (lo hi : ByteArray) (op : Bool) (key : ByteArray) (w : World) :
    Calls Tryz.prog 53 #[.agg #[.string lo, .string hi, .bool op], .string key] w fun e w' => e = .returned (.bool (hasI ⟨lo, hi, op⟩ key)) ∧ Below w.heap.size w w' := by
  unfold hasI
  simp only
  cases hL : Op.bytesLess lo.toList key.toList <;> cases hE : (lo.toList == key.toList) <;> cases op <;> cases hH : Op.bytesLess key.toList hi.toList
  all_goals
    go_enter Tryz.func53, Tryz.ntmps53
    go_wp2_with fail
    go_ret
    exact ⟨rfl, by (repeat (first | (with_reducible exact Below.refl _ _) | (with_reducible assumption) | (with_reducible apply below_drewN) | (with_reducible apply Below.drew) | ((with_reducible refine Below.setCell ?_ ?_ _); rotate_left; focus (first | (simp; done) | (simp; omega) | omega)) | ((with_reducible refine Below.alloc ?_ ?_ _); rotate_left; focus (first | (simp; done) | (simp; omega) | omega))))⟩

set_option maxRecDepth 4000 in
set_option maxHeartbeats 1000000 in
theorem specHas_any (lo hi : ByteArray) (op : Bool) (key : ByteArray) (w : World) (hk : key.size ≤ 1048576) :
    Calls Tryz.prog 15 #[.agg #[.string lo, .string hi, .bool op], .string key] w fun e w' => e = .returned (.bool (hasP ⟨lo, hi, op⟩ key)) ∧ Below w.heap.size w w' := by
  have X0 := Boxed.start w (.string lo) (.string hi) (.bool op) 24
  unfold hasP
  by_cases h : key.size ≤ 65536
  · rw [decide_eq_true h, Bool.true_and]
    obtain ⟨R, hR⟩ : ∃ R, R = hasI ⟨lo, hi, op⟩ key := ⟨_, rfl⟩
    have HC0 := fun W : World => l04Has_any lo hi op key W
    rw [← hR] at HC0 ⊢
    have HC : Hid _ := HC0
    clear HC0 hR
    go_enter Tryz.func15, Tryz.ntmps15
    go_wp2_with (go_at_call 53; refine (HC.out _).mono ?_; rintro e w1 ⟨rfl, hb⟩; have X := Boxed.step (by assumption) hb; have g0 := X.c0; have g1 := X.c1; have g2 := X.c2; clear hb)
    go_ret
    exact ⟨rfl, X.bel⟩
  · rw [decide_eq_false h, Bool.false_and]
    go_enter Tryz.func15, Tryz.ntmps15
    go_wp2_with fail
    go_ret
    exact ⟨rfl, X0.bel⟩

set_option maxRecDepth 4000 in
set_option maxHeartbeats 1000000 in
theorem implHas_any (lo hi : ByteArray) (op : Bool) (key : ByteArray) (w : World) (hk : key.size ≤ 1048576) :
    Calls Tryz.prog 14 #[.agg #[.string lo, .string hi, .bool op], .string key] w fun e w' => e = .returned (.bool (hasP ⟨lo, hi, op⟩ key)) ∧ Below w.heap.size w w' := by
  unfold hasP
  by_cases h : key.size ≤ 65536
  · rw [decide_eq_true h, Bool.true_and]
    have h' : (key.size : Int) ≤ 65536 := by omega
    unfold hasI
    simp only
    cases hL : Op.bytesLess lo.toList key.toList <;> cases hE : (lo.toList == key.toList) <;> cases op <;> cases hH : Op.bytesLess key.toList hi.toList
    all_goals
      go_enter Tryz.func14, Tryz.ntmps14
      go_wp2_with fail
      go_ret
      exact ⟨rfl, by (repeat (first | (with_reducible exact Below.refl _ _) | (with_reducible assumption) | (with_reducible apply below_drewN) | (with_reducible apply Below.drew) | ((with_reducible refine Below.setCell ?_ ?_ _); rotate_left; focus (first | (simp; done) | (simp; omega) | omega)) | ((with_reducible refine Below.alloc ?_ ?_ _); rotate_left; focus (first | (simp; done) | (simp; omega) | omega))))⟩
  · rw [decide_eq_false h, Bool.false_and]
    have h' : ¬ (key.size : Int) ≤ 65536 := by omega
    go_enter Tryz.func14, Tryz.ntmps14
    go_wp2_with fail
    go_ret
    exact ⟨rfl, by (repeat (first | (with_reducible exact Below.refl _ _) | (with_reducible assumption) | (with_reducible apply below_drewN) | (with_reducible apply Below.drew) | ((with_reducible refine Below.setCell ?_ ?_ _); rotate_left; focus (first | (simp; done) | (simp; omega) | omega)) | ((with_reducible refine Below.alloc ?_ ?_ _); rotate_left; focus (first | (simp; done) | (simp; omega) | omega))))⟩

end Go.Proofs.YtkeghknceccdmaaGreatDoor
