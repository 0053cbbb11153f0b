/- What a write, or a version, says of an id: right or not, by both; small facts on blocks. -/
import Derived.Test.YtncpijfbbgipaaaGreatDoorChgBQ
import Derived.Test.YtncpijfbbgipaaaGreatDoorDocBQ
namespace Go.Proofs.YtncpijfbbgipaaaGreatDoor.Co
open Go.RowKit Tr
set_option linter.unusedVariables false

def zeroB (v : Val) : Bool := decide (v.k = 0) && (decide (v.n = 0) && decide (v.t.size = 0))
/-- What a version, or a write, says of an id. -/
def stateB (id : Int) (g : Bool) (v : Val) : Bool := if g then zeroB v else (docB v && decide (idP v = id))
def timeB (t : Int) : Bool := decide (1 ≤ t ∧ t ≤ 10000)
def topB (i : Int) : Bool := decide (0 ≤ i ∧ i ≤ 19)
/-- A state that is read off IdOf's answer. -/
theorem state_id (id : Int) (v : Val) (h : 0 ≤ id) : (docB v && decide (idP v = id)) = (decide ((idR v).2 = 0) && decide ((idR v).1 = id)) := by
  unfold idR
  cases hd : docB v
  · simp
  · have hr := idP_range v
    by_cases hn : idP v < 0
    · simp only [if_true, if_pos hn]
      have : ¬ idP v = id := by omega
      simp [this]
    · simp only [if_true, if_neg hn]
      simp
set_option maxRecDepth 4000 in
set_option maxHeartbeats 1000000 in
theorem topIdOK_any (i : Int) (w : World) :
    Calls Tryz.prog 52 #[.int .i64 i] w fun e w' => e = .returned (.bool (topB i)) ∧ w' = w := by
  unfold topB
  by_cases h1 : 0 ≤ i
  · by_cases h2 : i ≤ 19
    · rw [decide_eq_true ⟨h1, h2⟩]
      go_enter Tryz.func52, Tryz.ntmps52
      go_wp2_with fail
      go_ret
      exact ⟨rfl, rfl⟩
    · rw [decide_eq_false (fun h => h2 h.2)]
      go_enter Tryz.func52, Tryz.ntmps52
      go_wp2_with fail
      go_ret
      exact ⟨rfl, rfl⟩
  · rw [decide_eq_false (fun h => h1 h.1)]
    go_enter Tryz.func52, Tryz.ntmps52
    go_wp2_with fail
    go_ret
    exact ⟨rfl, rfl⟩
set_option maxRecDepth 4000 in
set_option maxHeartbeats 1000000 in
theorem timeOK_any (i : Int) (w : World) :
    Calls Tryz.prog 29 #[.int .i64 i] w fun e w' => e = .returned (.bool (timeB i)) ∧ w' = w := by
  unfold timeB
  by_cases h1 : 1 ≤ i
  · by_cases h2 : i ≤ 10000
    · rw [decide_eq_true ⟨h1, h2⟩]
      go_enter Tryz.func29, Tryz.ntmps29
      go_wp2_with fail
      go_ret
      exact ⟨rfl, rfl⟩
    · rw [decide_eq_false (fun h => h2 h.2)]
      go_enter Tryz.func29, Tryz.ntmps29
      go_wp2_with fail
      go_ret
      exact ⟨rfl, rfl⟩
  · rw [decide_eq_false (fun h => h1 h.1)]
    go_enter Tryz.func29, Tryz.ntmps29
    go_wp2_with fail
    go_ret
    exact ⟨rfl, rfl⟩
theorem size0 (t : ByteArray) : decide (t.size = 0) = (t.toList == []) := by
  rw [ByteArray.toList_eq]
  by_cases h : t.size = 0
  · rw [decide_eq_true h]
    have : t.data.toList = [] := List.length_eq_zero_iff.mp (by rw [toList_length]; exact h)
    rw [this]; rfl
  · rw [decide_eq_false h]
    symm
    rw [beq_eq_false_iff_ne]
    intro e
    exact h (by rw [← toList_length, e]; rfl)
set_option maxRecDepth 4000 in
set_option maxHeartbeats 1000000 in
theorem stateOK_any (id : Int) (g : Bool) (v : Val) (w : World) (hid : 0 ≤ id) (hs : v.t.size ≤ 1048576) :
    Calls Tryz.prog 53 #[.int .i64 id, .bool g, .agg #[.int .i64 v.k, .int .i64 v.n, .string v.t]] w fun e w' => e = .returned (.bool (stateB id g v)) ∧ Below w.heap.size w w' := by
  have X0 := Boxed.start w (.int .i64 v.k) (.int .i64 v.n) (.string v.t) 39
  have hbw0 := X0.bel
  have HC : Hid (∀ W : World, Calls _ _ _ W _) := fun W => idOf_any v W hs
  obtain ⟨R, hR⟩ : ∃ R, R = stateB id g v := ⟨_, rfl⟩
  rw [← hR]
  unfold stateB at hR
  cases g
  · rw [if_neg (by simp), state_id id v hid] at hR
    obtain ⟨r, hr⟩ : ∃ r, r = idR v := ⟨_, rfl⟩
    rw [← hr] at hR HC
    clear hr
    by_cases h1 : r.2 = 0
    · have e1 : (r.2 == 0) = true := by simp [h1]
      rw [decide_eq_true h1, Bool.true_and] at hR
      have HR : Hid (R = _) := hR
      clear hR h1
      go_enter Tryz.func53, Tryz.ntmps53
      go_wp2_with fail
      refine (HC.out _).mono ?_
      rintro e w1 ⟨rfl, hb⟩
      have hbw := (X0.step hb).bel
      clear hb
      go_wp2_with fail
      go_ret
      exact ⟨ret_bool' (by rw [HR.out]; rfl), hbw⟩
    · have e1 : (r.2 == 0) = false := beq_eq_false_iff_ne.mpr h1
      rw [decide_eq_false h1, Bool.false_and] at hR
      have HR : Hid (R = _) := hR
      clear hR h1
      go_enter Tryz.func53, Tryz.ntmps53
      go_wp2_with fail
      refine (HC.out _).mono ?_
      rintro e w1 ⟨rfl, hb⟩
      have hbw := (X0.step hb).bel
      clear hb
      go_wp2_with fail
      go_ret
      exact ⟨ret_bool' HR.out.symm, hbw⟩
  · rw [if_pos rfl] at hR
    unfold zeroB at hR
    rw [size0] at hR
    have HR : Hid (R = _) := hR
    clear hR HC
    go_enter Tryz.func53, Tryz.ntmps53
    go_wp2_with fail
    all_goals
      go_ret
      refine ⟨ret_bool' ?_, ?_⟩
      · rw [HR.out]; simp [*]
      · (repeat (first | (with_reducible exact Below.refl _ _) | (with_reducible assumption) | (with_reducible apply below_drewN) | (with_reducible apply Below.drew) | ((with_reducible refine Below.setCell ?_ ?_ _); rotate_left; focus (first | (simp; done) | (simp; omega) | omega)) | ((with_reducible refine Below.alloc ?_ ?_ _); rotate_left; focus (first | (simp; done) | (simp; omega) | omega))))

set_option maxRecDepth 4000 in
set_option maxHeartbeats 1000000 in
theorem l08Doc_any (id : Int) (g : Bool) (v : Val) (w : World) (hs : v.t.size ≤ 1048576) :
    Calls Tryz.prog 45 #[.int .i64 id, .bool g, .agg #[.int .i64 v.k, .int .i64 v.n, .string v.t]] w fun e w' => e = .returned (.bool (stateB id g v)) ∧ Below w.heap.size w w' := by
  have X0 := Boxed.start w (.int .i64 v.k) (.int .i64 v.n) (.string v.t) 39
  have hbw0 := X0.bel
  have HC : Hid (∀ W : World, Calls _ _ _ W _) := fun W => l03Doc_any v W hs
  obtain ⟨R, hR⟩ : ∃ R, R = stateB id g v := ⟨_, rfl⟩
  rw [← hR]
  unfold stateB at hR
  cases g
  · rw [if_neg (by simp)] at hR
    cases hd : docB v
    · rw [hd, Bool.false_and] at hR
      rw [hd] at HC
      subst hR
      clear hd
      go_enter Tryz.func45, Tryz.ntmps45
      go_wp2_with fail
      refine (HC.out _).mono ?_
      rintro e w1 ⟨rfl, hb⟩
      have hbw := (X0.step hb).bel
      clear hb
      go_wp2_with fail
      go_ret
      exact ⟨rfl, hbw⟩
    · have HD : Hid (∀ W : World, Calls _ _ _ W _) := fun W => l06Id_any v W hd
      rw [hd, Bool.true_and] at hR
      rw [hd] at HC
      have HR : Hid (R = _) := hR
      clear hd hR
      go_enter Tryz.func45, Tryz.ntmps45
      go_wp2_with fail
      refine (HC.out _).mono ?_
      rintro e w1 ⟨rfl, hb⟩
      have X1 := X0.step hb
      have c0 := X1.c0; have c1 := X1.c1; have c2 := X1.c2
      clear hb
      go_wp2_with fail
      refine (HD.out _).mono ?_
      rintro e w2 ⟨rfl, hb⟩
      have hbw := (X1.step hb).bel
      clear hb X1 c0 c1 c2
      go_wp2_with fail
      go_ret
      exact ⟨ret_bool' (by rw [HR.out]; rfl), hbw⟩
  · rw [if_pos rfl] at hR
    unfold zeroB at hR
    rw [size0] at hR
    have HR : Hid (R = _) := hR
    clear hR HC
    go_enter Tryz.func45, Tryz.ntmps45
    go_wp2_with fail
    all_goals
      go_ret
      refine ⟨ret_bool' ?_, ?_⟩
      · rw [HR.out]; simp [*]
      · (repeat (first | (with_reducible exact Below.refl _ _) | (with_reducible assumption) | (with_reducible apply below_drewN) | (with_reducible apply Below.drew) | ((with_reducible refine Below.setCell ?_ ?_ _); rotate_left; focus (first | (simp; done) | (simp; omega) | omega)) | ((with_reducible refine Below.alloc ?_ ?_ _); rotate_left; focus (first | (simp; done) | (simp; omega) | omega))))

theorem cellsVv : Tryz.prog.cellsOf 27 = 3 := by kernel_rfl
theorem cellsI1 : Tryz.prog.cellsOf 3 = 1 := by kernel_rfl
theorem cellsS1 : Tryz.prog.cellsOf 9 = 1 := by kernel_rfl
theorem cellsB1 : Tryz.prog.cellsOf 4 = 1 := by kernel_rfl
theorem six {W : World} {b : Nat} {T : TypeId} {v0 v1 v2 v3 v4 v5 : Value} (h : W.heap[b]? = some (.cells #[v0, v1, v2, v3, v4, v5] T)) :
    W.cell? ⟨b, 0, none⟩ = some v0 ∧ W.cell? ⟨b, 1, none⟩ = some v1 ∧ W.cell? ⟨b, 2, none⟩ = some v2 ∧ W.cell? ⟨b, 3, none⟩ = some v3 ∧ W.cell? ⟨b, 4, none⟩ = some v4 ∧ W.cell? ⟨b, 5, none⟩ = some v5 := by
  refine ⟨?_, ?_, ?_, ?_, ?_, ?_⟩ <;> simp [World.cell?, h]
theorem five {W : World} {b : Nat} {T : TypeId} {v0 v1 v2 v3 v4 : Value} (h : W.heap[b]? = some (.cells #[v0, v1, v2, v3, v4] T)) :
    W.cell? ⟨b, 0, none⟩ = some v0 ∧ W.cell? ⟨b, 1, none⟩ = some v1 ∧ W.cell? ⟨b, 2, none⟩ = some v2 ∧ W.cell? ⟨b, 3, none⟩ = some v3 ∧ W.cell? ⟨b, 4, none⟩ = some v4 := by
  refine ⟨?_, ?_, ?_, ?_, ?_⟩ <;> simp [World.cell?, h]
theorem soft {W : World} {b : Nat} {T : TypeId} {vs : Array Value} (h : W.heap[b]? = some (.cells vs T)) (o : Nat) : W.frozen? ⟨b, o, none⟩ = false := by simp [World.frozen?, h]
theorem set_same {w : World} {g o : Nat} {v : Value} {c : Array Value} {T : TypeId} (h : w.heap[g]? = some (.cells c T)) : (w.setCell ⟨g, o, none⟩ v).heap[g]? = some (.cells (c.setIfInBounds o v) T) := by
  simp [World.setCell, Array.getElem?_modify, h]
theorem set_other {w : World} {g b o : Nat} {v : Value} (h : b ≠ g) : (w.setCell ⟨g, o, none⟩ v).heap[b]? = w.heap[b]? := by
  have : g ≠ b := fun e => h e.symm
  simp [World.setCell, Array.getElem?_modify, this]

end Go.Proofs.YtncpijfbbgipaaaGreatDoor.Co
