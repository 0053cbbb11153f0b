/- Whether a chain of versions is right: the program's answer. -/
import Derived.Test.YtkafanjfjplakaaGreatDoorColM
namespace Go.Proofs.YtkafanjfjplakaaGreatDoor.Co
open Go.RowKit Tr
set_option linter.unusedVariables false

/-- A box of two cells. -/
structure Box2 (w W : World) (a b : Value) : Prop where
  bel : Below w.heap.size w W
  lt : w.heap.size < W.heap.size
  c0 : W.cell? ⟨w.heap.size, 0, none⟩ = some a
  c1 : W.cell? ⟨w.heap.size, 1, none⟩ = some b
theorem Box2.start (w : World) (a b : Value) (T : TypeId) : Box2 w (w.alloc (.cells #[a, b] T)) a b :=
  ⟨(Below.refl _ _).alloc (Nat.le_refl _) _, by simp, by simp [go_sem], by simp [go_sem]⟩
theorem Box2.step {w W W' : World} {a b : Value} (h : Box2 w W a b) (hb : Below W.heap.size W W') : Box2 w W' a b :=
  ⟨h.bel.trans (hb.mono h.bel.size), Nat.lt_of_lt_of_le h.lt hb.size, (hb.cell h.lt).trans h.c0, (hb.cell h.lt).trans h.c1⟩
/-- A box of a version: five cells. -/
structure Box5 (w W : World) (v : Ver) : Prop where
  bel : Below w.heap.size w W
  lt : w.heap.size < W.heap.size
  c0 : W.cell? ⟨w.heap.size, 0, none⟩ = some (.int .i64 v.tm)
  c1 : W.cell? ⟨w.heap.size, 1, none⟩ = some (.bool v.gone)
  c2 : W.cell? ⟨w.heap.size, 2, none⟩ = some (.int .i64 v.doc.k)
  c3 : W.cell? ⟨w.heap.size, 3, none⟩ = some (.int .i64 v.doc.n)
  c4 : W.cell? ⟨w.heap.size, 4, none⟩ = some (.string v.doc.t)
theorem Box5.start (w : World) (v : Ver) (T : TypeId) : Box5 w (w.alloc (.cells #[.int .i64 v.tm, .bool v.gone, .int .i64 v.doc.k, .int .i64 v.doc.n, .string v.doc.t] T)) v :=
  ⟨(Below.refl _ _).alloc (Nat.le_refl _) _, by simp, by simp [go_sem], by simp [go_sem], by simp [go_sem], by simp [go_sem], by simp [go_sem]⟩
theorem Box5.step {w W W' : World} {v : Ver} (h : Box5 w W v) (hb : Below W.heap.size W W') : Box5 w W' v :=
  ⟨h.bel.trans (hb.mono h.bel.size), Nat.lt_of_lt_of_le h.lt hb.size, (hb.cell h.lt).trans h.c0, (hb.cell h.lt).trans h.c1, (hb.cell h.lt).trans h.c2, (hb.cell h.lt).trans h.c3, (hb.cell h.lt).trans h.c4⟩

set_option maxRecDepth 4000 in
set_option maxHeartbeats 1000000 in
theorem topIdOK_any (i : Int) (w : World) :
    Calls Tryz.prog 119 #[.int .i64 i] w fun e w' => e = .returned (.bool (topB i)) ∧ w' = w := by
  unfold topB
  by_cases h1 : 0 ≤ i
  · by_cases h2 : i ≤ 19
    · rw [decide_eq_true ⟨h1, h2⟩]
      go_enter Tryz.func119, Tryz.ntmps119
      go_wp2_with fail
      go_ret
      exact ⟨rfl, rfl⟩
    · rw [decide_eq_false (fun h => h2 h.2)]
      go_enter Tryz.func119, Tryz.ntmps119
      go_wp2_with fail
      go_ret
      exact ⟨rfl, rfl⟩
  · rw [decide_eq_false (fun h => h1 h.1)]
    go_enter Tryz.func119, Tryz.ntmps119
    go_wp2_with fail
    go_ret
    exact ⟨rfl, rfl⟩
set_option maxRecDepth 4000 in
set_option maxHeartbeats 1000000 in
theorem timeOK_any (i : Int) (w : World) :
    Calls Tryz.prog 68 #[.int .i64 i] w fun e w' => e = .returned (.bool (timeB i)) ∧ w' = w := by
  unfold timeB
  by_cases h1 : 1 ≤ i
  · by_cases h2 : i ≤ 10000
    · rw [decide_eq_true ⟨h1, h2⟩]
      go_enter Tryz.func68, Tryz.ntmps68
      go_wp2_with fail
      go_ret
      exact ⟨rfl, rfl⟩
    · rw [decide_eq_false (fun h => h2 h.2)]
      go_enter Tryz.func68, Tryz.ntmps68
      go_wp2_with fail
      go_ret
      exact ⟨rfl, rfl⟩
  · rw [decide_eq_false (fun h => h1 h.1)]
    go_enter Tryz.func68, Tryz.ntmps68
    go_wp2_with fail
    go_ret
    exact ⟨rfl, rfl⟩
theorem size0 (t : ByteArray) : decide (t.size = 0) = (t.toList == []) := by
  rw [ByteArray.toList_eq]
  by_cases h : t.size = 0
  · rw [decide_eq_true h]
    have : t.data.toList = [] := List.length_eq_zero_iff.mp (by rw [toList_length]; exact h)
    rw [this]; rfl
  · rw [decide_eq_false h]
    symm
    rw [beq_eq_false_iff_ne]
    intro e
    exact h (by rw [← toList_length, e]; rfl)
set_option maxRecDepth 4000 in
set_option maxHeartbeats 1000000 in
theorem stateOK_any (id : Int) (g : Bool) (v : Val) (w : World) (hid : 0 ≤ id) (hs : v.t.size ≤ 1048576) :
    Calls Tryz.prog 120 #[.int .i64 id, .bool g, .agg #[.int .i64 v.k, .int .i64 v.n, .string v.t]] w fun e w' => e = .returned (.bool (stateB id g v)) ∧ Below w.heap.size w w' := by
  have X0 := Boxed.start w (.int .i64 v.k) (.int .i64 v.n) (.string v.t) 43
  have hbw0 := X0.bel
  have HC : Hid (∀ W : World, Calls _ _ _ W _) := fun W => idOf_any v W hs
  obtain ⟨R, hR⟩ : ∃ R, R = stateB id g v := ⟨_, rfl⟩
  rw [← hR]
  unfold stateB at hR
  cases g
  · rw [if_neg (by simp), state_id id v hid] at hR
    obtain ⟨r, hr⟩ : ∃ r, r = idR v := ⟨_, rfl⟩
    rw [← hr] at hR HC
    clear hr
    by_cases h1 : r.2 = 0
    · have e1 : (r.2 == 0) = true := by simp [h1]
      rw [decide_eq_true h1, Bool.true_and] at hR
      have HR : Hid (R = _) := hR
      clear hR h1
      go_enter Tryz.func120, Tryz.ntmps120
      go_wp2_with fail
      refine (HC.out _).mono ?_
      rintro e w1 ⟨rfl, hb⟩
      have hbw := (X0.step hb).bel
      clear hb
      go_wp2_with fail
      go_ret
      exact ⟨ret_bool' (by rw [HR.out]; rfl), hbw⟩
    · have e1 : (r.2 == 0) = false := beq_eq_false_iff_ne.mpr h1
      rw [decide_eq_false h1, Bool.false_and] at hR
      have HR : Hid (R = _) := hR
      clear hR h1
      go_enter Tryz.func120, Tryz.ntmps120
      go_wp2_with fail
      refine (HC.out _).mono ?_
      rintro e w1 ⟨rfl, hb⟩
      have hbw := (X0.step hb).bel
      clear hb
      go_wp2_with fail
      go_ret
      exact ⟨ret_bool' HR.out.symm, hbw⟩
  · rw [if_pos rfl] at hR
    unfold zeroB at hR
    rw [size0] at hR
    have HR : Hid (R = _) := hR
    clear hR HC
    go_enter Tryz.func120, Tryz.ntmps120
    go_wp2_with fail
    all_goals
      go_ret
      refine ⟨ret_bool' ?_, ?_⟩
      · rw [HR.out]; simp [*]
      · (repeat (first | (with_reducible exact Below.refl _ _) | (with_reducible assumption) | (with_reducible apply below_drewN) | (with_reducible apply Below.drew) | ((with_reducible refine Below.setCell ?_ ?_ _); rotate_left; focus (first | (simp; done) | (simp; omega) | omega)) | ((with_reducible refine Below.alloc ?_ ?_ _); rotate_left; focus (first | (simp; done) | (simp; omega) | omega))))

set_option maxRecDepth 4000 in
set_option maxHeartbeats 2000000 in
theorem versionsOK_any (id : Int) (p : Option Addr) (cap : Nat) (l : List Ver) (w : World) (hin : InVr w p l) (hid : 0 ≤ id) (hl : l.length ≤ 1048576) (hs : ∀ v ∈ l, szVr v) :
    Calls Tryz.prog 163 #[.agg #[.int .i64 id, .slice p l.length cap]] w fun e w' => e = .returned (.bool (chnB ⟨id, l⟩)) ∧ Below w.heap.size w w' := by
  have X0 := Box2.start w (.int .i64 id) (.slice p l.length cap) 94
  have hbw0 := X0.bel
  have HI : Hid (InVr _ _ _) := hin
  have HS : Hid _ := hs
  clear hin hs
  obtain ⟨R, hR⟩ : ∃ R, R = chnB ⟨id, l⟩ := ⟨_, rfl⟩
  rw [← hR]
  unfold chnB at hR
  simp only at hR
  by_cases h12 : 1 ≤ l.length ∧ l.length ≤ 12
  · rw [decide_eq_true h12, Bool.true_and] at hR
    have HR : Hid (R = versB id 0 l) := hR
    have a1 : ¬ (l.length : Int) < 1 := by omega
    have a2 : ¬ (12 : Int) < (l.length : Int) := by omega
    clear hR h12
    go_enter Tryz.func163, Tryz.ntmps163
    go_wp2_with fail
    generalize w.alloc (.cells #[.int .i64 id, .slice p l.length cap] 94) = W0 at X0 hbw0 ⊢
    go_loopw [3, 19] (fun u i wr => ∃ k : Nat, k ≤ l.length ∧ i = .int .i64 k ∧ u = .int .i64 (lastV l k) ∧ R = versB id (lastV l k) (l.drop k) ∧ Below W0.heap.size W0 wr) (fun _ i _ => l.length - (intOf i).toNat)
    case atStart => exact ⟨0, Nat.zero_le _, rfl, rfl, HR.out, Below.refl _ _⟩
    case round =>
      obtain ⟨k, hk, rfl, rfl, hall, hbel⟩ := hrel
      have X := X0.step hbel
      clear hbw0
      by_cases hlt : k < l.length
      · rcases HI.out.step X.bel with h0 | ⟨b, off, rfl, hbl, hcell⟩
        · omega
        have hst := hall.trans (versB_step id l k hlt)
        obtain ⟨x0, x1, x2, x3, x4⟩ := hcell k hlt
        have hlt2 : (k : Int) < (l.length : Int) := by omega
        have hsz := HS.out l[k] (List.getElem_mem _)
        have hlv := lastV_succ l k hlt
        obtain ⟨v, hv⟩ : ∃ v, v = l[k] := ⟨_, rfl⟩
        rw [← hv] at x0 x1 x2 x3 x4 hst hsz hlv
        obtain ⟨q, hq⟩ : ∃ q, q = lastV l k := ⟨_, rfl⟩
        rw [← hq] at hst ⊢
        have hsz2 : v.doc.t.size ≤ 1048576 := hsz
        have HT : Hid (∀ W : World, Calls _ _ _ W _) := fun W => timeOK_any v.tm W
        have HC : Hid (∀ W : World, Calls _ _ _ W _) := fun W => stateOK_any id v.gone v.doc W hid hsz2
        have B0 := Box5.start wr v 96
        have hbB := X.bel.trans (B0.bel.mono X.bel.size)
        have c0 := (B0.bel.cell X.lt).trans X.c0
        clear hall hcell hq hv
        by_cases e1 : q < v.tm
        · have e1' : ¬ v.tm ≤ q := by omega
          rw [decide_eq_true e1, Bool.true_and] at hst
          cases e2 : timeB v.tm
          · rw [e2] at hst HT
            have HF : Hid (R = false) := hst
            clear hst e2 e1
            go_wp2_with fail
            refine (HT.out _).mono ?_
            rintro e w1 ⟨rfl, rfl⟩
            go_wp2_with fail
            go_ret
            exact ⟨ret_bool' HF.out.symm, hbB⟩
          · rw [e2, Bool.true_and] at hst
            rw [e2] at HT
            have hc := c0
            cases e3 : stateB id v.gone v.doc
            · rw [e3] at hst HC
              have HF : Hid (R = false) := hst
              clear hst e2 e1 e3
              go_wp2_with fail
              refine (HT.out _).mono ?_
              rintro e w1 ⟨rfl, rfl⟩
              go_wp2_with fail
              refine (HC.out _).mono ?_
              rintro e w2 ⟨rfl, hb⟩
              have hbw := hbB.trans (hb.mono hbB.size)
              clear hb
              go_wp2_with fail
              go_ret
              exact ⟨ret_bool' HF.out.symm, hbw⟩
            · rw [e3, Bool.true_and] at hst
              rw [e3] at HC
              have HF : Hid (R = _) := hst
              clear hst e2 e1 e3
              go_wp2_with fail
              refine (HT.out _).mono ?_
              rintro e w1 ⟨rfl, rfl⟩
              go_wp2_with fail
              refine (HC.out _).mono ?_
              rintro e w2 ⟨rfl, hb⟩
              have d0 := (B0.step hb).c0
              have hbw : Below W0.heap.size W0 w2 := hbel.trans ((B0.step hb).bel.mono hbel.size)
              clear hb
              go_wp2_with fail
              go_roundw
              case rel => exact ⟨k + 1, by omega, by go_num, by rw [hlv], HF.out, hbw⟩
              case measure => simp [intOf]; omega
        · have e1' : v.tm ≤ q := by omega
          rw [decide_eq_false e1, Bool.false_and] at hst
          have HF : Hid (R = false) := hst
          clear hst e1
          go_wp2_with fail
          go_ret
          exact ⟨ret_bool' HF.out.symm, hbB⟩
      · have hlt2 : ¬ (k : Int) < (l.length : Int) := by omega
        have hRt := hall.trans (versB_end id l k (by omega))
        have HF : Hid (R = true) := hRt
        have hbw := X.bel
        clear hRt hall
        go_wp2_with fail
        go_ret
        exact ⟨ret_bool' HF.out.symm, hbw⟩
  · rw [decide_eq_false h12, Bool.false_and] at hR
    subst hR
    by_cases h1 : l.length < 1
    · have a1 : (l.length : Int) < 1 := by omega
      clear h12 h1
      go_enter Tryz.func163, Tryz.ntmps163
      go_wp2_with fail
      go_ret
      exact ⟨rfl, hbw0⟩
    · have a1 : ¬ (l.length : Int) < 1 := by omega
      have a2 : (12 : Int) < (l.length : Int) := by omega
      clear h12 h1
      go_enter Tryz.func163, Tryz.ntmps163
      go_wp2_with fail
      go_ret
      exact ⟨rfl, hbw0⟩

end Go.Proofs.YtkafanjfjplakaaGreatDoor.Co
