/- What the specification's cutting of one value answers, case by case. -/
import Derived.Test.YtcggkeleaepebaaGreatDoorSpec
namespace Go.Proofs.YtcggkeleaepebaaGreatDoor
open Go.RowKit
set_option linter.unusedVariables false

set_option maxHeartbeats 1000000 in
theorem l01Next_c0 (s : ByteArray) (w : World) (hs : s.size ≤ maxLen) (hp : 0 < s.size) (c0 : s[0].toNat = 0) :
    Calls Tryz.prog 164 #[.string s] w fun e w' => e = .returned (.tuple #[.agg #[.int .i64 0, .int .i64 0, .string em], .string (s.extract 1 s.size), .bool true]) ∧ Below w.heap.size w w' := by
  have hs' := hs
  unfold maxLen at hs'
  have e0 : ((s.size : Int) == 0) = false := beq_eq_false_iff_ne.mpr (by omega)
  go_enter Tryz.func164, Tryz.ntmps164
  go_wp2_with fail
  go_region
  all_goals go_wp2_with fail
  exact bodyPost_ret (v := .tuple #[.agg #[.int .i64 0, .int .i64 0, .string em], .string (s.extract 1 s.size), .bool true]) (by simp [results, Tryz.results164, go_sem]) rfl ⟨rfl, by (repeat (first | (with_reducible exact Below.refl _ _) | (with_reducible assumption) | (with_reducible apply below_drewN) | (with_reducible apply Below.drew) | ((with_reducible refine Below.setCell ?_ ?_ _); rotate_left; focus (first | (simp; done) | (simp; omega) | omega)) | ((with_reducible refine Below.alloc ?_ ?_ _); rotate_left; focus (first | (simp; done) | (simp; omega) | omega))))⟩

set_option maxHeartbeats 1000000 in
theorem l01Next_c1 (s : ByteArray) (w : World) (hs : s.size ≤ maxLen) (hp : 0 < s.size) (c0 : s[0].toNat = 1) (h2 : 1 < s.size) :
    Calls Tryz.prog 164 #[.string s] w fun e w' => e = .returned (.tuple #[.agg #[.int .i64 1, .int .i64 s[1].toNat, .string em], .string (s.extract 2 s.size), .bool true]) ∧ Below w.heap.size w w' := by
  have hs' := hs
  unfold maxLen at hs'
  have e0 : ((s.size : Int) == 0) = false := beq_eq_false_iff_ne.mpr (by omega)
  have e1 : decide ((s.size : Int) < 2) = false := by simp; omega
  have ew : wrap64 (s[1].toNat : Int) = s[1].toNat := IntWalk.wrap64_in _ ⟨by omega, by have := s[1].toNat_lt; omega⟩
  go_enter Tryz.func164, Tryz.ntmps164
  go_wp2_with fail
  go_region
  all_goals go_wp2_with fail
  exact bodyPost_ret (v := .tuple #[.agg #[.int .i64 1, .int .i64 s[1].toNat, .string em], .string (s.extract 2 s.size), .bool true]) (by simp [results, Tryz.results164, go_sem]) rfl ⟨rfl, by (repeat (first | (with_reducible exact Below.refl _ _) | (with_reducible assumption) | (with_reducible apply below_drewN) | (with_reducible apply Below.drew) | ((with_reducible refine Below.setCell ?_ ?_ _); rotate_left; focus (first | (simp; done) | (simp; omega) | omega)) | ((with_reducible refine Below.alloc ?_ ?_ _); rotate_left; focus (first | (simp; done) | (simp; omega) | omega))))⟩

set_option maxHeartbeats 1000000 in
theorem l01Next_c2 (s : ByteArray) (w : World) (hs : s.size ≤ maxLen) (hp : 0 < s.size) (c0 : s[0].toNat = 2) (h2 : 9 ≤ s.size) (hh : hd (s.extract 1 s.size) ≤ 127) :
    Calls Tryz.prog 164 #[.string s] w fun e w' => e = .returned (.tuple #[.agg #[.int .i64 2, .int .i64 ((beT (s.extract 1 s.size) 8 : Int) - 4611686018427387904), .string em], .string (s.extract 9 s.size), .bool true]) ∧ Below w.heap.size w w' := by
  have hs' := hs
  unfold maxLen at hs'
  have e0 : ((s.size : Int) == 0) = false := beq_eq_false_iff_ne.mpr (by omega)
  have e1 : decide ((s.size : Int) < 9) = false := by simp; omega
  have h1 : 1 < s.size := by omega
  have hq := hd_one s (by omega)
  have e2 : decide ((127 : Int) < (s[1].toNat : Int)) = false := by simp; omega
  have hx : (s.extract 1 s.size).size = s.size - 1 := by simp
  have hx0 : 0 < (s.extract 1 s.size).size := by omega
  have hb := beT_half (s.extract 1 s.size) 8 (by omega) hx0 (by omega) (by have := head_get _ hx0; omega)
  have hb2 : beT (s.extract 1 s.size) 8 < 9223372036854775808 := by omega
  have HH : Hid _ := hh
  clear hb hx0 hx hq hh
  go_enter Tryz.func164, Tryz.ntmps164
  go_wp2_with (go_at_call 179; refine (l01Of_9 s _ hs h2 HH.out).mono ?_; rintro e w' ⟨rfl, rfl⟩)
  go_region
  all_goals go_wp2_with fail
  exact bodyPost_ret (v := .tuple #[.agg #[.int .i64 2, .int .i64 ((beT (s.extract 1 s.size) 8 : Int) - 4611686018427387904), .string em], .string (s.extract 9 s.size), .bool true]) (by simp [results, Tryz.results164, go_sem]) rfl ⟨rfl, by (repeat (first | (with_reducible exact Below.refl _ _) | (with_reducible assumption) | (with_reducible apply below_drewN) | (with_reducible apply Below.drew) | ((with_reducible refine Below.setCell ?_ ?_ _); rotate_left; focus (first | (simp; done) | (simp; omega) | omega)) | ((with_reducible refine Below.alloc ?_ ?_ _); rotate_left; focus (first | (simp; done) | (simp; omega) | omega))))⟩

theorem minus_ext (s : ByteArray) (a b : Nat) (h : 1 + b ≤ s.size) : (s.extract 1 s.size).extract a b = s.extract (1 + a) (1 + b) := by
  rw [ByteArray.extract_extract]; congr 1; omega

set_option maxHeartbeats 1000000 in
theorem l01Next_c3 (s : ByteArray) (w : World) (hs : s.size ≤ maxLen) (hp : 0 < s.size) (c0 : s[0].toNat = 3) (h2 : 3 ≤ s.size) (h3 : 3 + beT (s.extract 1 s.size) 2 ≤ s.size) :
    Calls Tryz.prog 164 #[.string s] w fun e w' => e = .returned (.tuple #[.agg #[.int .i64 3, .int .i64 0, .string (s.extract 3 (3 + beT (s.extract 1 s.size) 2))], .string (s.extract (3 + beT (s.extract 1 s.size) 2) s.size), .bool true]) ∧ Below w.heap.size w w' := by
  have hs' := hs
  unfold maxLen at hs'
  have e0 : ((s.size : Int) == 0) = false := beq_eq_false_iff_ne.mpr (by omega)
  have e1 : decide ((s.size : Int) < 3) = false := by simp; omega
  go_enter Tryz.func164, Tryz.ntmps164
  go_wp2_with (go_at_call 179; refine (l01Of_3 s _ hs h2).mono ?_; rintro e w' ⟨rfl, rfl⟩)
  go_region
  all_goals go_wp2_with fail
  exact bodyPost_ret (v := .tuple #[.agg #[.int .i64 3, .int .i64 0, .string (s.extract 3 (3 + beT (s.extract 1 s.size) 2))], .string (s.extract (3 + beT (s.extract 1 s.size) 2) s.size), .bool true]) (by simp [results, Tryz.results164, go_sem]) rfl ⟨rfl, by (repeat (first | (with_reducible exact Below.refl _ _) | (with_reducible assumption) | (with_reducible apply below_drewN) | (with_reducible apply Below.drew) | ((with_reducible refine Below.setCell ?_ ?_ _); rotate_left; focus (first | (simp; done) | (simp; omega) | omega)) | ((with_reducible refine Below.alloc ?_ ?_ _); rotate_left; focus (first | (simp; done) | (simp; omega) | omega))))⟩

set_option maxHeartbeats 1000000 in
theorem l01Next_n3a (s : ByteArray) (w : World) (hs : s.size ≤ maxLen) (hp : 0 < s.size) (c0 : s[0].toNat = 3) (h2 : s.size < 3) :
    Calls Tryz.prog 164 #[.string s] w fun e w' => e = .returned (.tuple #[.agg #[.int .i64 0, .int .i64 0, .string em], .string em, .bool false]) ∧ Below w.heap.size w w' := by
  have hs' := hs
  unfold maxLen at hs'
  have e0 : ((s.size : Int) == 0) = false := beq_eq_false_iff_ne.mpr (by omega)
  go_enter Tryz.func164, Tryz.ntmps164
  go_wp2_with fail
  exact bodyPost_ret (v := .tuple #[.agg #[.int .i64 0, .int .i64 0, .string em], .string em, .bool false]) (by simp [results, Tryz.results164, go_sem]) rfl ⟨rfl, by (repeat (first | (with_reducible exact Below.refl _ _) | (with_reducible assumption) | (with_reducible apply below_drewN) | (with_reducible apply Below.drew) | ((with_reducible refine Below.setCell ?_ ?_ _); rotate_left; focus (first | (simp; done) | (simp; omega) | omega)) | ((with_reducible refine Below.alloc ?_ ?_ _); rotate_left; focus (first | (simp; done) | (simp; omega) | omega))))⟩

set_option maxHeartbeats 1000000 in
theorem l01Next_n3b (s : ByteArray) (w : World) (hs : s.size ≤ maxLen) (hp : 0 < s.size) (c0 : s[0].toNat = 3) (h2 : 3 ≤ s.size) (h3 : s.size < 3 + beT (s.extract 1 s.size) 2) :
    Calls Tryz.prog 164 #[.string s] w fun e w' => e = .returned (.tuple #[.agg #[.int .i64 0, .int .i64 0, .string em], .string em, .bool false]) ∧ Below w.heap.size w w' := by
  have hs' := hs
  unfold maxLen at hs'
  have e0 : ((s.size : Int) == 0) = false := beq_eq_false_iff_ne.mpr (by omega)
  have e1 : decide ((s.size : Int) < 3) = false := by simp; omega
  have hb := beT_bound (s.extract 1 s.size) 2 (by simp; omega)
  go_enter Tryz.func164, Tryz.ntmps164
  go_wp2_with (go_at_call 179; refine (l01Of_3 s _ hs h2).mono ?_; rintro e w' ⟨rfl, rfl⟩)
  exact bodyPost_ret (v := .tuple #[.agg #[.int .i64 0, .int .i64 0, .string em], .string em, .bool false]) (by simp [results, Tryz.results164, go_sem]) rfl ⟨rfl, by (repeat (first | (with_reducible exact Below.refl _ _) | (with_reducible assumption) | (with_reducible apply below_drewN) | (with_reducible apply Below.drew) | ((with_reducible refine Below.setCell ?_ ?_ _); rotate_left; focus (first | (simp; done) | (simp; omega) | omega)) | ((with_reducible refine Below.alloc ?_ ?_ _); rotate_left; focus (first | (simp; done) | (simp; omega) | omega))))⟩

set_option maxHeartbeats 1000000 in
theorem l01Next_c4 (s : ByteArray) (w : World) (hs : s.size ≤ maxLen) (hp : 0 < s.size) (c0 : s[0].toNat = 4) (h2 : 3 ≤ s.size) (h3 : 3 + beT (s.extract 1 s.size) 2 ≤ s.size) :
    Calls Tryz.prog 164 #[.string s] w fun e w' => e = .returned (.tuple #[.agg #[.int .i64 4, .int .i64 0, .string (s.extract 3 (3 + beT (s.extract 1 s.size) 2))], .string (s.extract (3 + beT (s.extract 1 s.size) 2) s.size), .bool true]) ∧ Below w.heap.size w w' := by
  have hs' := hs
  unfold maxLen at hs'
  have e0 : ((s.size : Int) == 0) = false := beq_eq_false_iff_ne.mpr (by omega)
  have e1 : decide ((s.size : Int) < 3) = false := by simp; omega
  go_enter Tryz.func164, Tryz.ntmps164
  go_wp2_with (go_at_call 179; refine (l01Of_3 s _ hs h2).mono ?_; rintro e w' ⟨rfl, rfl⟩)
  go_region
  all_goals go_wp2_with fail
  exact bodyPost_ret (v := .tuple #[.agg #[.int .i64 4, .int .i64 0, .string (s.extract 3 (3 + beT (s.extract 1 s.size) 2))], .string (s.extract (3 + beT (s.extract 1 s.size) 2) s.size), .bool true]) (by simp [results, Tryz.results164, go_sem]) rfl ⟨rfl, by (repeat (first | (with_reducible exact Below.refl _ _) | (with_reducible assumption) | (with_reducible apply below_drewN) | (with_reducible apply Below.drew) | ((with_reducible refine Below.setCell ?_ ?_ _); rotate_left; focus (first | (simp; done) | (simp; omega) | omega)) | ((with_reducible refine Below.alloc ?_ ?_ _); rotate_left; focus (first | (simp; done) | (simp; omega) | omega))))⟩

set_option maxHeartbeats 1000000 in
theorem l01Next_n4a (s : ByteArray) (w : World) (hs : s.size ≤ maxLen) (hp : 0 < s.size) (c0 : s[0].toNat = 4) (h2 : s.size < 3) :
    Calls Tryz.prog 164 #[.string s] w fun e w' => e = .returned (.tuple #[.agg #[.int .i64 0, .int .i64 0, .string em], .string em, .bool false]) ∧ Below w.heap.size w w' := by
  have hs' := hs
  unfold maxLen at hs'
  have e0 : ((s.size : Int) == 0) = false := beq_eq_false_iff_ne.mpr (by omega)
  go_enter Tryz.func164, Tryz.ntmps164
  go_wp2_with fail
  exact bodyPost_ret (v := .tuple #[.agg #[.int .i64 0, .int .i64 0, .string em], .string em, .bool false]) (by simp [results, Tryz.results164, go_sem]) rfl ⟨rfl, by (repeat (first | (with_reducible exact Below.refl _ _) | (with_reducible assumption) | (with_reducible apply below_drewN) | (with_reducible apply Below.drew) | ((with_reducible refine Below.setCell ?_ ?_ _); rotate_left; focus (first | (simp; done) | (simp; omega) | omega)) | ((with_reducible refine Below.alloc ?_ ?_ _); rotate_left; focus (first | (simp; done) | (simp; omega) | omega))))⟩

set_option maxHeartbeats 1000000 in
theorem l01Next_n4b (s : ByteArray) (w : World) (hs : s.size ≤ maxLen) (hp : 0 < s.size) (c0 : s[0].toNat = 4) (h2 : 3 ≤ s.size) (h3 : s.size < 3 + beT (s.extract 1 s.size) 2) :
    Calls Tryz.prog 164 #[.string s] w fun e w' => e = .returned (.tuple #[.agg #[.int .i64 0, .int .i64 0, .string em], .string em, .bool false]) ∧ Below w.heap.size w w' := by
  have hs' := hs
  unfold maxLen at hs'
  have e0 : ((s.size : Int) == 0) = false := beq_eq_false_iff_ne.mpr (by omega)
  have e1 : decide ((s.size : Int) < 3) = false := by simp; omega
  have hb := beT_bound (s.extract 1 s.size) 2 (by simp; omega)
  go_enter Tryz.func164, Tryz.ntmps164
  go_wp2_with (go_at_call 179; refine (l01Of_3 s _ hs h2).mono ?_; rintro e w' ⟨rfl, rfl⟩)
  exact bodyPost_ret (v := .tuple #[.agg #[.int .i64 0, .int .i64 0, .string em], .string em, .bool false]) (by simp [results, Tryz.results164, go_sem]) rfl ⟨rfl, by (repeat (first | (with_reducible exact Below.refl _ _) | (with_reducible assumption) | (with_reducible apply below_drewN) | (with_reducible apply Below.drew) | ((with_reducible refine Below.setCell ?_ ?_ _); rotate_left; focus (first | (simp; done) | (simp; omega) | omega)) | ((with_reducible refine Below.alloc ?_ ?_ _); rotate_left; focus (first | (simp; done) | (simp; omega) | omega))))⟩

set_option maxHeartbeats 1000000 in
theorem l01Next_c5 (s : ByteArray) (w : World) (hs : s.size ≤ maxLen) (hp : 0 < s.size) (c0 : s[0].toNat = 5) (h2 : 3 ≤ s.size) (h3 : 3 + beT (s.extract 1 s.size) 2 ≤ s.size) :
    Calls Tryz.prog 164 #[.string s] w fun e w' => e = .returned (.tuple #[.agg #[.int .i64 5, .int .i64 0, .string (s.extract 3 (3 + beT (s.extract 1 s.size) 2))], .string (s.extract (3 + beT (s.extract 1 s.size) 2) s.size), .bool true]) ∧ Below w.heap.size w w' := by
  have hs' := hs
  unfold maxLen at hs'
  have e0 : ((s.size : Int) == 0) = false := beq_eq_false_iff_ne.mpr (by omega)
  have e1 : decide ((s.size : Int) < 3) = false := by simp; omega
  go_enter Tryz.func164, Tryz.ntmps164
  go_wp2_with (go_at_call 179; refine (l01Of_3 s _ hs h2).mono ?_; rintro e w' ⟨rfl, rfl⟩)
  go_region
  all_goals go_wp2_with fail
  exact bodyPost_ret (v := .tuple #[.agg #[.int .i64 5, .int .i64 0, .string (s.extract 3 (3 + beT (s.extract 1 s.size) 2))], .string (s.extract (3 + beT (s.extract 1 s.size) 2) s.size), .bool true]) (by simp [results, Tryz.results164, go_sem]) rfl ⟨rfl, by (repeat (first | (with_reducible exact Below.refl _ _) | (with_reducible assumption) | (with_reducible apply below_drewN) | (with_reducible apply Below.drew) | ((with_reducible refine Below.setCell ?_ ?_ _); rotate_left; focus (first | (simp; done) | (simp; omega) | omega)) | ((with_reducible refine Below.alloc ?_ ?_ _); rotate_left; focus (first | (simp; done) | (simp; omega) | omega))))⟩

set_option maxHeartbeats 1000000 in
theorem l01Next_n5a (s : ByteArray) (w : World) (hs : s.size ≤ maxLen) (hp : 0 < s.size) (c0 : s[0].toNat = 5) (h2 : s.size < 3) :
    Calls Tryz.prog 164 #[.string s] w fun e w' => e = .returned (.tuple #[.agg #[.int .i64 0, .int .i64 0, .string em], .string em, .bool false]) ∧ Below w.heap.size w w' := by
  have hs' := hs
  unfold maxLen at hs'
  have e0 : ((s.size : Int) == 0) = false := beq_eq_false_iff_ne.mpr (by omega)
  go_enter Tryz.func164, Tryz.ntmps164
  go_wp2_with fail
  exact bodyPost_ret (v := .tuple #[.agg #[.int .i64 0, .int .i64 0, .string em], .string em, .bool false]) (by simp [results, Tryz.results164, go_sem]) rfl ⟨rfl, by (repeat (first | (with_reducible exact Below.refl _ _) | (with_reducible assumption) | (with_reducible apply below_drewN) | (with_reducible apply Below.drew) | ((with_reducible refine Below.setCell ?_ ?_ _); rotate_left; focus (first | (simp; done) | (simp; omega) | omega)) | ((with_reducible refine Below.alloc ?_ ?_ _); rotate_left; focus (first | (simp; done) | (simp; omega) | omega))))⟩

set_option maxHeartbeats 1000000 in
theorem l01Next_n5b (s : ByteArray) (w : World) (hs : s.size ≤ maxLen) (hp : 0 < s.size) (c0 : s[0].toNat = 5) (h2 : 3 ≤ s.size) (h3 : s.size < 3 + beT (s.extract 1 s.size) 2) :
    Calls Tryz.prog 164 #[.string s] w fun e w' => e = .returned (.tuple #[.agg #[.int .i64 0, .int .i64 0, .string em], .string em, .bool false]) ∧ Below w.heap.size w w' := by
  have hs' := hs
  unfold maxLen at hs'
  have e0 : ((s.size : Int) == 0) = false := beq_eq_false_iff_ne.mpr (by omega)
  have e1 : decide ((s.size : Int) < 3) = false := by simp; omega
  have hb := beT_bound (s.extract 1 s.size) 2 (by simp; omega)
  go_enter Tryz.func164, Tryz.ntmps164
  go_wp2_with (go_at_call 179; refine (l01Of_3 s _ hs h2).mono ?_; rintro e w' ⟨rfl, rfl⟩)
  exact bodyPost_ret (v := .tuple #[.agg #[.int .i64 0, .int .i64 0, .string em], .string em, .bool false]) (by simp [results, Tryz.results164, go_sem]) rfl ⟨rfl, by (repeat (first | (with_reducible exact Below.refl _ _) | (with_reducible assumption) | (with_reducible apply below_drewN) | (with_reducible apply Below.drew) | ((with_reducible refine Below.setCell ?_ ?_ _); rotate_left; focus (first | (simp; done) | (simp; omega) | omega)) | ((with_reducible refine Below.alloc ?_ ?_ _); rotate_left; focus (first | (simp; done) | (simp; omega) | omega))))⟩

set_option maxHeartbeats 1000000 in
theorem l01Next_e (s : ByteArray) (w : World) (hs : s.size ≤ maxLen) (hz : s.size = 0) :
    Calls Tryz.prog 164 #[.string s] w fun e w' => e = .returned (.tuple #[.agg #[.int .i64 0, .int .i64 0, .string em], .string em, .bool false]) ∧ Below w.heap.size w w' := by
  have hs' := hs
  unfold maxLen at hs'
  go_enter Tryz.func164, Tryz.ntmps164
  go_wp2_with fail
  exact bodyPost_ret (v := .tuple #[.agg #[.int .i64 0, .int .i64 0, .string em], .string em, .bool false]) (by simp [results, Tryz.results164, go_sem]) rfl ⟨rfl, by (repeat (first | (with_reducible exact Below.refl _ _) | (with_reducible assumption) | (with_reducible apply below_drewN) | (with_reducible apply Below.drew) | ((with_reducible refine Below.setCell ?_ ?_ _); rotate_left; focus (first | (simp; done) | (simp; omega) | omega)) | ((with_reducible refine Below.alloc ?_ ?_ _); rotate_left; focus (first | (simp; done) | (simp; omega) | omega))))⟩

set_option maxHeartbeats 1000000 in
theorem l01Next_n1 (s : ByteArray) (w : World) (hs : s.size ≤ maxLen) (hp : 0 < s.size) (c0 : s[0].toNat = 1) (h2 : s.size < 2) :
    Calls Tryz.prog 164 #[.string s] w fun e w' => e = .returned (.tuple #[.agg #[.int .i64 0, .int .i64 0, .string em], .string em, .bool false]) ∧ Below w.heap.size w w' := by
  have hs' := hs
  unfold maxLen at hs'
  have e0 : ((s.size : Int) == 0) = false := beq_eq_false_iff_ne.mpr (by omega)
  go_enter Tryz.func164, Tryz.ntmps164
  go_wp2_with fail
  exact bodyPost_ret (v := .tuple #[.agg #[.int .i64 0, .int .i64 0, .string em], .string em, .bool false]) (by simp [results, Tryz.results164, go_sem]) rfl ⟨rfl, by (repeat (first | (with_reducible exact Below.refl _ _) | (with_reducible assumption) | (with_reducible apply below_drewN) | (with_reducible apply Below.drew) | ((with_reducible refine Below.setCell ?_ ?_ _); rotate_left; focus (first | (simp; done) | (simp; omega) | omega)) | ((with_reducible refine Below.alloc ?_ ?_ _); rotate_left; focus (first | (simp; done) | (simp; omega) | omega))))⟩

set_option maxHeartbeats 1000000 in
theorem l01Next_n2a (s : ByteArray) (w : World) (hs : s.size ≤ maxLen) (hp : 0 < s.size) (c0 : s[0].toNat = 2) (h2 : s.size < 9) :
    Calls Tryz.prog 164 #[.string s] w fun e w' => e = .returned (.tuple #[.agg #[.int .i64 0, .int .i64 0, .string em], .string em, .bool false]) ∧ Below w.heap.size w w' := by
  have hs' := hs
  unfold maxLen at hs'
  have e0 : ((s.size : Int) == 0) = false := beq_eq_false_iff_ne.mpr (by omega)
  go_enter Tryz.func164, Tryz.ntmps164
  go_wp2_with fail
  exact bodyPost_ret (v := .tuple #[.agg #[.int .i64 0, .int .i64 0, .string em], .string em, .bool false]) (by simp [results, Tryz.results164, go_sem]) rfl ⟨rfl, by (repeat (first | (with_reducible exact Below.refl _ _) | (with_reducible assumption) | (with_reducible apply below_drewN) | (with_reducible apply Below.drew) | ((with_reducible refine Below.setCell ?_ ?_ _); rotate_left; focus (first | (simp; done) | (simp; omega) | omega)) | ((with_reducible refine Below.alloc ?_ ?_ _); rotate_left; focus (first | (simp; done) | (simp; omega) | omega))))⟩

set_option maxHeartbeats 1000000 in
theorem l01Next_n2b (s : ByteArray) (w : World) (hs : s.size ≤ maxLen) (hp : 0 < s.size) (c0 : s[0].toNat = 2) (h2 : 9 ≤ s.size) (hh : 127 < hd (s.extract 1 s.size)) :
    Calls Tryz.prog 164 #[.string s] w fun e w' => e = .returned (.tuple #[.agg #[.int .i64 0, .int .i64 0, .string em], .string em, .bool false]) ∧ Below w.heap.size w w' := by
  have hs' := hs
  unfold maxLen at hs'
  have e0 : ((s.size : Int) == 0) = false := beq_eq_false_iff_ne.mpr (by omega)
  have e1 : decide ((s.size : Int) < 9) = false := by simp; omega
  have h1 : 1 < s.size := by omega
  have hq := hd_one s (by omega)
  have e2 : (127 : Int) < (s[1].toNat : Int) := by omega
  clear hq hh
  go_enter Tryz.func164, Tryz.ntmps164
  go_wp2_with fail
  exact bodyPost_ret (v := .tuple #[.agg #[.int .i64 0, .int .i64 0, .string em], .string em, .bool false]) (by simp [results, Tryz.results164, go_sem]) rfl ⟨rfl, by (repeat (first | (with_reducible exact Below.refl _ _) | (with_reducible assumption) | (with_reducible apply below_drewN) | (with_reducible apply Below.drew) | ((with_reducible refine Below.setCell ?_ ?_ _); rotate_left; focus (first | (simp; done) | (simp; omega) | omega)) | ((with_reducible refine Below.alloc ?_ ?_ _); rotate_left; focus (first | (simp; done) | (simp; omega) | omega))))⟩

set_option maxHeartbeats 1000000 in
theorem l01Next_o (s : ByteArray) (w : World) (hs : s.size ≤ maxLen) (hp : 0 < s.size) (c0 : 5 < s[0].toNat) :
    Calls Tryz.prog 164 #[.string s] w fun e w' => e = .returned (.tuple #[.agg #[.int .i64 0, .int .i64 0, .string em], .string em, .bool false]) ∧ Below w.heap.size w w' := by
  have hs' := hs
  unfold maxLen at hs'
  have e0 : ((s.size : Int) == 0) = false := beq_eq_false_iff_ne.mpr (by omega)
  have hlt := s[0].toNat_lt
  have ew : wrap64 (s[0].toNat : Int) = s[0].toNat := IntWalk.wrap64_in _ ⟨by omega, by omega⟩
  have k0 : ((s[0].toNat : Int) == 0) = false := beq_eq_false_iff_ne.mpr (by omega)
  have k1 : ((s[0].toNat : Int) == 1) = false := beq_eq_false_iff_ne.mpr (by omega)
  have k2 : ((s[0].toNat : Int) == 2) = false := beq_eq_false_iff_ne.mpr (by omega)
  have k3 : ((s[0].toNat : Int) == 3) = false := beq_eq_false_iff_ne.mpr (by omega)
  have k4 : ((s[0].toNat : Int) == 4) = false := beq_eq_false_iff_ne.mpr (by omega)
  have k5 : ((s[0].toNat : Int) == 5) = false := beq_eq_false_iff_ne.mpr (by omega)
  go_enter Tryz.func164, Tryz.ntmps164
  go_wp2_with fail
  exact bodyPost_ret (v := .tuple #[.agg #[.int .i64 0, .int .i64 0, .string em], .string em, .bool false]) (by simp [results, Tryz.results164, go_sem]) rfl ⟨rfl, by (repeat (first | (with_reducible exact Below.refl _ _) | (with_reducible assumption) | (with_reducible apply below_drewN) | (with_reducible apply Below.drew) | ((with_reducible refine Below.setCell ?_ ?_ _); rotate_left; focus (first | (simp; done) | (simp; omega) | omega)) | ((with_reducible refine Below.alloc ?_ ?_ _); rotate_left; focus (first | (simp; done) | (simp; omega) | omega))))⟩

end Go.Proofs.YtcggkeleaepebaaGreatDoor
