/- A value as the program holds it. -/
import Derived.Test.YtdchhjnmhnehiaaGreatDoorRowV
import Derived.Test.YtdchhjnmhnehiaaGreatDoorEncUQ
namespace Go.Proofs.YtdchhjnmhnehiaaGreatDoor
open Go.RowKit

abbrev aggV (v : Val) : Value := .agg #[.int .i64 v.k, .int .i64 v.n, .string v.t]

end Go.Proofs.YtdchhjnmhnehiaaGreatDoor

/- What the specification's making of lists answers, for every row of values. -/
namespace Go.Proofs.YtdchhjnmhnehiaaGreatDoor
open Go.RowKit
set_option linter.unusedVariables false

/-- The bytes of values one behind the other. -/
def encL (l : List Val) : List Int := l.flatMap encB
theorem encL_take (l : List Val) (k : Nat) (h : k < l.length) : encL (l.take (k + 1)) = encL (l.take k) ++ encB l[k] := by
  unfold encL; rw [List.take_succ_eq_append_getElem h, List.flatMap_append, List.flatMap_singleton]
theorem encL_len (l : List Val) (h : ∀ v ∈ l, okB v = true) : (encL l).length ≤ l.length * 400 := by
  induction l with
  | nil => simp [encL]
  | cons v l ih =>
    have h1 := (encB_len v (h v (by simp))).2
    have h2 := ih (fun u hu => h u (by simp [hu]))
    unfold encL at h2 ⊢
    rw [List.flatMap_cons, List.length_append, List.length_cons]; omega
theorem encL_take_len (l : List Val) (h : ∀ v ∈ l, okB v = true) (k : Nat) (hl : l.length ≤ 300) : (encL (l.take k)).length ≤ 120000 := by
  have := encL_len (l.take k) (fun v hv => h v (List.mem_of_mem_take hv))
  have h2 : (l.take k).length ≤ l.length := by simp; omega
  omega

set_option maxRecDepth 4000 in
set_option maxHeartbeats 1000000 in
theorem l01List_any (g cap : Nat) (l : List Val) (w : World) (hr : ReadV w g l) (hl : l.length ≤ 300) (hall : ∀ v ∈ l, okB v = true) :
    Calls Tryz.prog 75 #[.slice (some ⟨g, 0, none⟩) l.length cap] w fun e w' => e = .returned (.agg #[.int .i64 4, .int .i64 0, .string (txt (encL l))]) ∧ Below w.heap.size w w' := by
  have HR : Hid _ := hr
  have HA : Hid _ := hall
  clear hr hall
  go_enter Tryz.func75, Tryz.ntmps75
  go_wp2_with fail
  go_loopw [3, 4] (fun u i wr => ∃ k : Nat, k ≤ l.length ∧ i = .int .i64 k ∧ u = .string (txt (encL (l.take k))) ∧ Res3 w wr (.int .i64 0) (.int .i64 0) (.string em)) (fun _ i _ => l.length - (intOf i).toNat)
  case atStart => exact ⟨0, Nat.zero_le _, rfl, rfl, Res3.start w _ _ _ _⟩
  case round =>
    obtain ⟨k, hk, rfl, rfl, X0⟩ := hrel
    have hbel := X0.bel
    have hz := hbel.size
    by_cases hlt : k < l.length
    · have R := (HR.out.next hbel)
      obtain ⟨x0, x1, x2⟩ := R.cells k hlt
      have hok := HA.out l[k] (List.getElem_mem _)
      have HK : Hid _ := hok
      have hsz : (txt (encL (l.take k))).size ≤ 120000 := by rw [txt_size]; exact encL_take_len l HA.out k hl
      have hsz2 : (txt (encB l[k])).size ≤ 400 := by rw [txt_size]; exact (encB_len _ hok).2
      clear hok R
      go_wp2_with fail
      refine (l01Encode_any l[k] HK.out _).mono ?_
      rintro e w1 ⟨rfl, hb⟩
      have X1 := X0.step hb
      clear hb
      go_wp2_with fail
      go_roundw
      case rel => exact ⟨k + 1, by omega, by go_num, by rw [encL_take l k hlt, txt_append], X1⟩
      case measure => simp [intOf]; omega
    · have g0 := X0.c0
      have g1 := X0.c1
      have g2 := X0.c2
      have z0 := X0.z0
      have z1 := X0.z1
      have z2 := X0.z2
      have hlt1 := X0.lt
      clear X0
      have e : l.take k = l := List.take_of_length_le (by omega)
      rw [e]
      go_wp2_with fail
      refine bodyPost_ret (v := .agg #[.int .i64 4, .int .i64 0, .string (txt (encL l))]) (by simp [results, Tryz.results75, go_sem, *]) rfl ⟨rfl, ?_⟩
      (repeat (first | (with_reducible exact Below.refl _ _) | (with_reducible assumption) | (with_reducible apply below_drewN) | (with_reducible apply Below.drew) | ((with_reducible refine Below.setCell ?_ ?_ _); rotate_left; focus (first | (simp; done) | (simp; omega) | omega)) | ((with_reducible refine Below.alloc ?_ ?_ _); rotate_left; focus (first | (simp; done) | (simp; omega) | omega))))

/-- What is answered of a made list that is made of right values. -/
def fitP (l : List Val) : Val × Int :=
  if 300 < (encL l).length then (zv, 10)
  else if 4 < dmax (depthV 5) l then (zv, 9)
  else (⟨4, 0, txt (encL l)⟩, 0)
/-- What a call that makes a list answers: a value, and a code. -/
def listP (l : List Val) : Val × Int :=
  if 4096 < l.length then (zv, 2)
  else if 300 < l.length then (zv, 10)
  else if l.all okB = false then (zv, 1)
  else fitP l
theorem listP_long (l : List Val) (h : 4096 < l.length) : listP l = (zv, 2) := by unfold listP; rw [if_pos h]
theorem listP_many (l : List Val) (h : ¬ 4096 < l.length) (h2 : 300 < l.length) : listP l = (zv, 10) := by unfold listP; rw [if_neg h, if_pos h2]
theorem listP_bad (l : List Val) (h2 : ¬ 300 < l.length) (k : Nat) (hk : k < l.length) (hb : okB l[k] = false) : listP l = (zv, 1) := by
  have : l.all okB = false := by
    rw [Bool.eq_false_iff]; intro hh
    rw [List.all_eq_true] at hh
    have := hh l[k] (List.getElem_mem _)
    rw [hb] at this; cases this
  unfold listP; rw [if_neg (by omega), if_neg h2, if_pos this]
theorem listP_ok (l : List Val) (h2 : ¬ 300 < l.length) (h : ∀ v ∈ l, okB v = true) : listP l = fitP l := by
  have : l.all okB = true := List.all_eq_true.mpr h
  unfold listP; rw [if_neg (by omega), if_neg h2, this, if_neg (by simp)]
theorem fitP_size (l : List Val) (h : 300 < (encL l).length) : fitP l = (zv, 10) := by unfold fitP; rw [if_pos h]
theorem fitP_deep (l : List Val) (h : ¬ 300 < (encL l).length) (h2 : 4 < dmax (depthV 5) l) : fitP l = (zv, 9) := by unfold fitP; rw [if_neg h, if_pos h2]
theorem fitP_ok (l : List Val) (h : ¬ 300 < (encL l).length) (h2 : ¬ 4 < dmax (depthV 5) l) : fitP l = (⟨4, 0, txt (encL l)⟩, 0) := by unfold fitP; rw [if_neg h, if_neg h2]
theorem made_ok (l : List Val) (hall : ∀ v ∈ l, okB v = true) (h : ¬ 300 < (encL l).length) : okB ⟨4, 0, txt (encL l)⟩ = decide (dmax (depthV 5) l ≤ 4) := list_made l hall (by unfold encL at h; omega)

end Go.Proofs.YtdchhjnmhnehiaaGreatDoor
