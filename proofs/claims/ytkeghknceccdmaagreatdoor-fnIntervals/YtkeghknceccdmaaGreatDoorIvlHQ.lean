/- What an interval has: the program's and the specification's answer, for every interval and text. -/
import Derived.Test.YtkeghknceccdmaaGreatDoorLawVal
import Derived.Test.YtkeghknceccdmaaGreatDoorFits
import Derived.Test.YtkeghknceccdmaaGreatDoorOrdSQ
import Derived.Test.YtkeghknceccdmaaGreatDoorOwnQ
import Derived.Lib.MinMaxS
import Derived.Deep.DeepCutAuto
import Derived.Deep.RegionHeld3
namespace Go.Proofs.YtkeghknceccdmaaGreatDoor
open Go.RowKit
set_option linter.unusedVariables false

/-- An interval of texts. -/
structure Ivl where
  lo : ByteArray
  hi : ByteArray
  op : Bool
def hasI (i : Ivl) (key : ByteArray) : Bool := (Op.bytesLess i.lo.toList key.toList || i.lo.toList == key.toList) && (i.op || Op.bytesLess key.toList i.hi.toList)
def hasP (i : Ivl) (key : ByteArray) : Bool := decide (key.size ≤ 65536) && hasI i key

set_option maxRecDepth 4000 in
set_option maxHeartbeats 1000000 in
theorem l04Has_any (lo hi : ByteArray) (op : Bool) (key : ByteArray) (w : World) :
    Calls Tryz.prog 53 #[.agg #[.string lo, .string hi, .bool op], .string key] w fun e w' => e = .returned (.bool (hasI ⟨lo, hi, op⟩ key)) ∧ Below w.heap.size w w' := by
  unfold hasI
  simp only
  cases hL : Op.bytesLess lo.toList key.toList <;> cases hE : (lo.toList == key.toList) <;> cases op <;> cases hH : Op.bytesLess key.toList hi.toList
  all_goals
    go_enter Tryz.func53, Tryz.ntmps53
    go_wp2_with fail
    go_ret
    exact ⟨rfl, by (repeat (first | (with_reducible exact Below.refl _ _) | (with_reducible assumption) | (with_reducible apply below_drewN) | (with_reducible apply Below.drew) | ((with_reducible refine Below.setCell ?_ ?_ _); rotate_left; focus (first | (simp; done) | (simp; omega) | omega)) | ((with_reducible refine Below.alloc ?_ ?_ _); rotate_left; focus (first | (simp; done) | (simp; omega) | omega))))⟩

set_option maxRecDepth 4000 in
set_option maxHeartbeats 1000000 in
theorem specHas_any (lo hi : ByteArray) (op : Bool) (key : ByteArray) (w : World) (hk : key.size ≤ 1048576) :
    Calls Tryz.prog 15 #[.agg #[.string lo, .string hi, .bool op], .string key] w fun e w' => e = .returned (.bool (hasP ⟨lo, hi, op⟩ key)) ∧ Below w.heap.size w w' := by
  have X0 := Boxed.start w (.string lo) (.string hi) (.bool op) 24
  unfold hasP
  by_cases h : key.size ≤ 65536
  · rw [decide_eq_true h, Bool.true_and]
    obtain ⟨R, hR⟩ : ∃ R, R = hasI ⟨lo, hi, op⟩ key := ⟨_, rfl⟩
    have HC0 := fun W : World => l04Has_any lo hi op key W
    rw [← hR] at HC0 ⊢
    have HC : Hid _ := HC0
    clear HC0 hR
    go_enter Tryz.func15, Tryz.ntmps15
    go_wp2_with (go_at_call 53; refine (HC.out _).mono ?_; rintro e w1 ⟨rfl, hb⟩; have X := Boxed.step (by assumption) hb; have g0 := X.c0; have g1 := X.c1; have g2 := X.c2; clear hb)
    go_ret
    exact ⟨rfl, X.bel⟩
  · rw [decide_eq_false h, Bool.false_and]
    go_enter Tryz.func15, Tryz.ntmps15
    go_wp2_with fail
    go_ret
    exact ⟨rfl, X0.bel⟩

set_option maxRecDepth 4000 in
set_option maxHeartbeats 1000000 in
theorem implHas_any (lo hi : ByteArray) (op : Bool) (key : ByteArray) (w : World) (hk : key.size ≤ 1048576) :
    Calls Tryz.prog 14 #[.agg #[.string lo, .string hi, .bool op], .string key] w fun e w' => e = .returned (.bool (hasP ⟨lo, hi, op⟩ key)) ∧ Below w.heap.size w w' := by
  unfold hasP
  by_cases h : key.size ≤ 65536
  · rw [decide_eq_true h, Bool.true_and]
    have h' : (key.size : Int) ≤ 65536 := by omega
    unfold hasI
    simp only
    cases hL : Op.bytesLess lo.toList key.toList <;> cases hE : (lo.toList == key.toList) <;> cases op <;> cases hH : Op.bytesLess key.toList hi.toList
    all_goals
      go_enter Tryz.func14, Tryz.ntmps14
      go_wp2_with fail
      go_ret
      exact ⟨rfl, by (repeat (first | (with_reducible exact Below.refl _ _) | (with_reducible assumption) | (with_reducible apply below_drewN) | (with_reducible apply Below.drew) | ((with_reducible refine Below.setCell ?_ ?_ _); rotate_left; focus (first | (simp; done) | (simp; omega) | omega)) | ((with_reducible refine Below.alloc ?_ ?_ _); rotate_left; focus (first | (simp; done) | (simp; omega) | omega))))⟩
  · rw [decide_eq_false h, Bool.false_and]
    have h' : ¬ (key.size : Int) ≤ 65536 := by omega
    go_enter Tryz.func14, Tryz.ntmps14
    go_wp2_with fail
    go_ret
    exact ⟨rfl, by (repeat (first | (with_reducible exact Below.refl _ _) | (with_reducible assumption) | (with_reducible apply below_drewN) | (with_reducible apply Below.drew) | ((with_reducible refine Below.setCell ?_ ?_ _); rotate_left; focus (first | (simp; done) | (simp; omega) | omega)) | ((with_reducible refine Below.alloc ?_ ?_ _); rotate_left; focus (first | (simp; done) | (simp; omega) | omega))))⟩

end Go.Proofs.YtkeghknceccdmaaGreatDoor

/- What two intervals have in common: the program's and the specification's answer, for every two intervals. -/
namespace Go.Proofs.YtkeghknceccdmaaGreatDoor
open Go.RowKit
set_option linter.unusedVariables false

/-- The lesser end of two intervals. -/
def hiM (a b : Ivl) : ByteArray := if a.op then (if b.op then em else b.hi) else (if b.op then a.hi else Lib.minS a.hi b.hi)
def meetI (a b : Ivl) : Ivl := ⟨Lib.maxS a.lo b.lo, hiM a b, a.op && b.op⟩

set_option maxRecDepth 4000 in
set_option maxHeartbeats 2000000 in
theorem l04Meet_any (a b : Ivl) (w : World) :
    Calls Tryz.prog 47 #[.agg #[.string a.lo, .string a.hi, .bool a.op], .agg #[.string b.lo, .string b.hi, .bool b.op]] w fun e w' => e = .returned (.agg #[.string (meetI a b).lo, .string (meetI a b).hi, .bool (meetI a b).op]) ∧ Below w.heap.size w w' := by
  obtain ⟨lo, hi, op⟩ := a
  obtain ⟨lo', hi', op'⟩ := b
  unfold meetI hiM
  simp only
  have hmx := fun (W : World) ts t => Lib.run_max_strs (P := Tryz.prog) W ts t lo lo'
  have hmn := fun (W : World) ts t => Lib.run_min_strs (P := Tryz.prog) W ts t hi hi'
  obtain ⟨M, hM⟩ : ∃ M, M = Lib.maxS lo lo' := ⟨_, rfl⟩
  obtain ⟨N, hN⟩ : ∃ N, N = Lib.minS hi hi' := ⟨_, rfl⟩
  rw [← hM] at hmx ⊢
  rw [← hN] at hmn ⊢
  clear hM hN
  cases op <;> cases op'
  · show Calls _ _ _ _ fun e w' => e = .returned (.agg #[.string M, .string N, .bool false]) ∧ Below w.heap.size w w'
    go_enter Tryz.func47, Tryz.ntmps47
    go_wp2_with fail
    refine bodyPost_ret (v := .agg #[.string M, .string N, .bool false]) (by simp [results, Tryz.results47, go_sem]) rfl ⟨rfl, ?_⟩
    (repeat (first | (with_reducible exact Below.refl _ _) | (with_reducible assumption) | (with_reducible apply below_drewN) | (with_reducible apply Below.drew) | ((with_reducible refine Below.setCell ?_ ?_ _); rotate_left; focus (first | (simp; done) | (simp; omega) | omega)) | ((with_reducible refine Below.alloc ?_ ?_ _); rotate_left; focus (first | (simp; done) | (simp; omega) | omega))))
  · show Calls _ _ _ _ fun e w' => e = .returned (.agg #[.string M, .string hi, .bool false]) ∧ Below w.heap.size w w'
    go_enter Tryz.func47, Tryz.ntmps47
    go_wp2_with fail
    refine bodyPost_ret (v := .agg #[.string M, .string hi, .bool false]) (by simp [results, Tryz.results47, go_sem]) rfl ⟨rfl, ?_⟩
    (repeat (first | (with_reducible exact Below.refl _ _) | (with_reducible assumption) | (with_reducible apply below_drewN) | (with_reducible apply Below.drew) | ((with_reducible refine Below.setCell ?_ ?_ _); rotate_left; focus (first | (simp; done) | (simp; omega) | omega)) | ((with_reducible refine Below.alloc ?_ ?_ _); rotate_left; focus (first | (simp; done) | (simp; omega) | omega))))
  · show Calls _ _ _ _ fun e w' => e = .returned (.agg #[.string M, .string hi', .bool false]) ∧ Below w.heap.size w w'
    go_enter Tryz.func47, Tryz.ntmps47
    go_wp2_with fail
    refine bodyPost_ret (v := .agg #[.string M, .string hi', .bool false]) (by simp [results, Tryz.results47, go_sem]) rfl ⟨rfl, ?_⟩
    (repeat (first | (with_reducible exact Below.refl _ _) | (with_reducible assumption) | (with_reducible apply below_drewN) | (with_reducible apply Below.drew) | ((with_reducible refine Below.setCell ?_ ?_ _); rotate_left; focus (first | (simp; done) | (simp; omega) | omega)) | ((with_reducible refine Below.alloc ?_ ?_ _); rotate_left; focus (first | (simp; done) | (simp; omega) | omega))))
  · show Calls _ _ _ _ fun e w' => e = .returned (.agg #[.string M, .string em, .bool true]) ∧ Below w.heap.size w w'
    go_enter Tryz.func47, Tryz.ntmps47
    go_wp2_with fail
    refine bodyPost_ret (v := .agg #[.string M, .string em, .bool true]) (by simp [results, Tryz.results47, go_sem]) rfl ⟨rfl, ?_⟩
    (repeat (first | (with_reducible exact Below.refl _ _) | (with_reducible assumption) | (with_reducible apply below_drewN) | (with_reducible apply Below.drew) | ((with_reducible refine Below.setCell ?_ ?_ _); rotate_left; focus (first | (simp; done) | (simp; omega) | omega)) | ((with_reducible refine Below.alloc ?_ ?_ _); rotate_left; focus (first | (simp; done) | (simp; omega) | omega))))

set_option maxRecDepth 4000 in
set_option maxHeartbeats 2000000 in
theorem specMeet_any (a b : Ivl) (w : World) :
    Calls Tryz.prog 10 #[.agg #[.string a.lo, .string a.hi, .bool a.op], .agg #[.string b.lo, .string b.hi, .bool b.op]] w fun e w' => e = .returned (.agg #[.string (meetI a b).lo, .string (meetI a b).hi, .bool (meetI a b).op]) ∧ Below w.heap.size w w' := by
  obtain ⟨⟨ml, mh, mo⟩, hm⟩ : ∃ m, m = meetI a b := ⟨_, rfl⟩
  have HC0 := fun W : World => l04Meet_any a b W
  rw [← hm] at HC0 ⊢
  have HC : Hid (∀ W : World, Calls _ _ _ W _) := HC0
  clear HC0 hm
  have Y0 := Res3.start ((w.alloc (.cells #[.string a.lo, .string a.hi, .bool a.op] 24)).alloc (.cells #[.string b.lo, .string b.hi, .bool b.op] 24)) (.string em) (.string em) (.bool false) 24
  go_enter Tryz.func10, Tryz.ntmps10
  go_wp2_with fail
  refine (HC.out _).mono ?_
  rintro e w1 ⟨rfl, hb⟩
  have Y := Y0.step hb
  have g0 := Y.c0
  have g1 := Y.c1
  have g2 := Y.c2
  have z0 := Y.z0
  have z1 := Y.z1
  have z2 := Y.z2
  have hlt := Y.lt
  have hbw : Below w.heap.size w w1 := (((Below.refl _ _).alloc (Nat.le_refl _) _).alloc (by simp) _).trans (Y.bel.mono (by simp; omega))
  simp only [heap_size_alloc] at g0 g1 g2 z0 z1 z2 hlt
  clear hb Y Y0
  go_wp2_with fail
  refine bodyPost_ret (v := .agg #[.string ml, .string mh, .bool mo]) (by simp [results, Tryz.results10, go_sem, *]) rfl ⟨rfl, ?_⟩
  (repeat (first | (with_reducible exact Below.refl _ _) | (with_reducible assumption) | (with_reducible apply below_drewN) | (with_reducible apply Below.drew) | ((with_reducible refine Below.setCell ?_ ?_ _); rotate_left; focus (first | (simp; done) | (simp; omega) | omega)) | ((with_reducible refine Below.alloc ?_ ?_ _); rotate_left; focus (first | (simp; done) | (simp; omega) | omega))))

set_option maxRecDepth 4000 in
set_option maxHeartbeats 2000000 in
theorem lesserHigh_any (a b : Ivl) (w : World) :
    Calls Tryz.prog 46 #[.agg #[.string a.lo, .string a.hi, .bool a.op], .agg #[.string b.lo, .string b.hi, .bool b.op]] w fun e w' => e = .returned (.string (hiM a b)) ∧ Below w.heap.size w w' := by
  obtain ⟨lo, hi, op⟩ := a
  obtain ⟨lo', hi', op'⟩ := b
  unfold hiM
  simp only
  have hmn := fun (W : World) ts t => Lib.run_min_strs (P := Tryz.prog) W ts t hi hi'
  obtain ⟨N, hN⟩ : ∃ N, N = Lib.minS hi hi' := ⟨_, rfl⟩
  rw [← hN] at hmn ⊢
  clear hN
  cases op <;> cases op'
  all_goals
    go_enter Tryz.func46, Tryz.ntmps46
    go_wp2_with fail
    go_ret
    exact ⟨rfl, by (repeat (first | (with_reducible exact Below.refl _ _) | (with_reducible assumption) | (with_reducible apply below_drewN) | (with_reducible apply Below.drew) | ((with_reducible refine Below.setCell ?_ ?_ _); rotate_left; focus (first | (simp; done) | (simp; omega) | omega)) | ((with_reducible refine Below.alloc ?_ ?_ _); rotate_left; focus (first | (simp; done) | (simp; omega) | omega))))⟩

/-- Three cells in each of the first two new blocks, an empty interval that may be written in the third. -/
structure OwnI (w W : World) (a b c a' b' c' : Value) : Prop where
  bel : Below w.heap.size w W
  lt : w.heap.size + 1 + 1 < W.heap.size
  c0 : W.cell? ⟨w.heap.size, 0, none⟩ = some a
  c1 : W.cell? ⟨w.heap.size, 1, none⟩ = some b
  c2 : W.cell? ⟨w.heap.size, 2, none⟩ = some c
  e0 : W.cell? ⟨w.heap.size + 1, 0, none⟩ = some a'
  e1 : W.cell? ⟨w.heap.size + 1, 1, none⟩ = some b'
  e2 : W.cell? ⟨w.heap.size + 1, 2, none⟩ = some c'
  d0 : W.cell? ⟨w.heap.size + 1 + 1, 0, none⟩ = some (.string em)
  d1 : W.cell? ⟨w.heap.size + 1 + 1, 1, none⟩ = some (.string em)
  d2 : W.cell? ⟨w.heap.size + 1 + 1, 2, none⟩ = some (.bool false)
  z0 : W.frozen? ⟨w.heap.size + 1 + 1, 0, none⟩ = false
  z1 : W.frozen? ⟨w.heap.size + 1 + 1, 1, none⟩ = false
  z2 : W.frozen? ⟨w.heap.size + 1 + 1, 2, none⟩ = false
theorem OwnI.start (w : World) (a b c a' b' c' : Value) (T : TypeId) : OwnI w (((w.alloc (.cells #[a, b, c] T)).alloc (.cells #[a', b', c'] T)).alloc (.cells #[.string em, .string em, .bool false] T)) a b c a' b' c' :=
  ⟨(((Below.refl _ _).alloc (Nat.le_refl _) _).alloc (by simp) _).alloc (by simp; omega) _, by simp, by simp [go_sem], by simp [go_sem], by simp [go_sem], by simp [go_sem], by simp [go_sem], by simp [go_sem], by simp [go_sem], by simp [go_sem], by simp [go_sem], by simp [go_sem], by simp [go_sem], by simp [go_sem]⟩
theorem OwnI.step {w W W' : World} {a b c a' b' c' : Value} (h : OwnI w W a b c a' b' c') (hb : Below W.heap.size W W') : OwnI w W' a b c a' b' c' :=
  have hl1 : w.heap.size + 1 < W.heap.size := Nat.lt_of_succ_lt h.lt
  have hl : w.heap.size < W.heap.size := Nat.lt_of_succ_lt hl1
  ⟨h.bel.trans (hb.mono h.bel.size), Nat.lt_of_lt_of_le h.lt hb.size, (hb.cell hl).trans h.c0, (hb.cell hl).trans h.c1, (hb.cell hl).trans h.c2, (hb.cell hl1).trans h.e0, (hb.cell hl1).trans h.e1, (hb.cell hl1).trans h.e2, (hb.cell h.lt).trans h.d0, (hb.cell h.lt).trans h.d1, (hb.cell h.lt).trans h.d2, (hb.frozen h.lt).trans h.z0, (hb.frozen h.lt).trans h.z1, (hb.frozen h.lt).trans h.z2⟩
theorem keepI {w W W' : World} {a b c a' b' c' : Value} (h : OwnI w W a b c a' b' c') (hb : Below (w.heap.size + 1 + 1) W W') : W'.cell? ⟨w.heap.size, 0, none⟩ = some a ∧ W'.cell? ⟨w.heap.size, 1, none⟩ = some b ∧ W'.cell? ⟨w.heap.size, 2, none⟩ = some c ∧ W'.cell? ⟨w.heap.size + 1, 0, none⟩ = some a' ∧ W'.cell? ⟨w.heap.size + 1, 1, none⟩ = some b' ∧ W'.cell? ⟨w.heap.size + 1, 2, none⟩ = some c' :=
  have hl : w.heap.size < w.heap.size + 1 + 1 := by omega
  have hl1 : w.heap.size + 1 < w.heap.size + 1 + 1 := by omega
  ⟨(hb.cell hl).trans h.c0, (hb.cell hl).trans h.c1, (hb.cell hl).trans h.c2, (hb.cell hl1).trans h.e0, (hb.cell hl1).trans h.e1, (hb.cell hl1).trans h.e2⟩

end Go.Proofs.YtkeghknceccdmaaGreatDoor
