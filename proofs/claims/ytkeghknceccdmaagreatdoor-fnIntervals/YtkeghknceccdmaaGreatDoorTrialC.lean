/- What the program's trials by a term's operation answer. -/
import Derived.Test.YtkeghknceccdmaaGreatDoorTrialB
import Derived.Test.YtkeghknceccdmaaGreatDoorTermS
namespace Go.Proofs.YtkeghknceccdmaaGreatDoor
open Go.RowKit
set_option linter.unusedVariables false

/-- Four cells in the first new block. -/
structure Box4 (w W : World) (a b c d : Value) : Prop where
  bel : Below w.heap.size w W
  lt : w.heap.size < W.heap.size
  c0 : W.cell? ⟨w.heap.size, 0, none⟩ = some a
  c1 : W.cell? ⟨w.heap.size, 1, none⟩ = some b
  c2 : W.cell? ⟨w.heap.size, 2, none⟩ = some c
  c3 : W.cell? ⟨w.heap.size, 3, none⟩ = some d
theorem Box4.start (w : World) (a b c d : Value) (T : TypeId) : Box4 w (w.alloc (.cells #[a, b, c, d] T)) a b c d :=
  ⟨(Below.refl _ _).alloc (Nat.le_refl _) _, by simp, by simp [go_sem], by simp [go_sem], by simp [go_sem], by simp [go_sem]⟩
theorem Box4.step {w W W' : World} {a b c d : Value} (h : Box4 w W a b c d) (hb : Below W.heap.size W W') : Box4 w W' a b c d :=
  ⟨h.bel.trans (hb.mono h.bel.size), Nat.lt_of_lt_of_le h.lt hb.size, (hb.cell h.lt).trans h.c0, (hb.cell h.lt).trans h.c1, (hb.cell h.lt).trans h.c2, (hb.cell h.lt).trans h.c3⟩
theorem mk_func (fn : Fn) (first cap : Array Value) (w : World) : (Instr.makeFunc fn first cap).run Tryz.prog w = .ok (.func fn first cap) w := rfl

/-- What is held against a term that asks of values. -/
def withZ (l : List Val) : List Val := if l = [] then [⟨0, 0, em⟩] else l
theorem heldT_Z (op : Int) (l : List Val) (h : op ≠ 9) : heldT op l = withZ l := by unfold heldT withZ; rw [if_neg h]
set_option maxRecDepth 4000 in
set_option maxHeartbeats 1000000 in
theorem withNull_any (q : Option Addr) (qc : Nat) (l : List Val) (c : Val) (w : World) (hr : RowV w q l) :
    Calls Tryz.prog 127 #[.agg #[.slice q l.length qc, .int .i64 c.k, .int .i64 c.n, .string c.t]] w fun e w' => (∃ q' qc', e = .returned (.agg #[.slice q' (withZ l).length qc', .int .i64 c.k, .int .i64 c.n, .string c.t]) ∧ RowV w' q' (withZ l)) ∧ Below w.heap.size w w' := by
  by_cases h0 : l = []
  · subst h0
    have e : withZ [] = [⟨0, 0, em⟩] := rfl
    rw [e]
    clear e hr
    go_enter Tryz.func127, Tryz.ntmps127
    go_wp2_with fail
    refine bodyPost_ret (v := .agg #[.slice (some ⟨w.heap.size + 2, 0, none⟩) 1 1, .int .i64 c.k, .int .i64 c.n, .string c.t]) (by simp [results, Tryz.results127, go_sem, *]) rfl ⟨⟨_, _, rfl, .inr ⟨w.heap.size + 2, rfl, ?_⟩⟩, by (repeat (first | (with_reducible exact Below.refl _ _) | (with_reducible assumption) | (with_reducible apply below_drewN) | (with_reducible apply Below.drew) | ((with_reducible refine Below.setCell ?_ ?_ _); rotate_left; focus (first | (simp; done) | (simp; omega) | omega)) | ((with_reducible refine Below.alloc ?_ ?_ _); rotate_left; focus (first | (simp; done) | (simp; omega) | omega))))⟩
    refine ⟨by simp, fun i hi => ?_⟩
    obtain rfl : i = 0 := by simpa using hi
    exact ⟨by simp [go_sem], by simp [go_sem], by simp [go_sem]⟩
  · have e : withZ l = l := by unfold withZ; rw [if_neg h0]
    rw [e]
    have hl0 : ((l.length : Int) == 0) = false := beq_eq_false_iff_ne.mpr (fun e => h0 (List.eq_nil_of_length_eq_zero (by omega)))
    have HR : Hid (RowV _ _ _) := hr
    clear e hr h0
    go_enter Tryz.func127, Tryz.ntmps127
    go_wp2_with fail
    refine bodyPost_ret (v := .agg #[.slice q l.length qc, .int .i64 c.k, .int .i64 c.n, .string c.t]) (by simp [results, Tryz.results127, go_sem, *]) rfl ⟨⟨_, _, rfl, HR.out.next ?_⟩, ?_⟩
    all_goals (repeat (first | (with_reducible exact Below.refl _ _) | (with_reducible assumption) | (with_reducible apply below_drewN) | (with_reducible apply Below.drew) | ((with_reducible refine Below.setCell ?_ ?_ _); rotate_left; focus (first | (simp; done) | (simp; omega) | omega)) | ((with_reducible refine Below.alloc ?_ ?_ _); rotate_left; focus (first | (simp; done) | (simp; omega) | omega))))

set_option maxRecDepth 4000 in
set_option maxHeartbeats 1000000 in
theorem presence_exists (q : Option Addr) (qc : Nat) (l : List Val) (c : Val) (w : World) :
    Calls Tryz.prog 126 #[.agg #[.slice q l.length qc, .int .i64 c.k, .int .i64 c.n, .string c.t], .int .i64 8] w fun e w' => e = .returned (.bool (decide (0 < (l.length : Int)) == decide (c.n = 1))) ∧ Below w.heap.size w w' := by
  have hn1 : decide (c.n = 1) = (c.n == 1) := by rw [Bool.eq_iff_iff]; simp
  rw [hn1]
  clear hn1
  go_enter Tryz.func126, Tryz.ntmps126
  go_wp2_with fail
  go_ret
  exact ⟨ret_bool (by simp), by (repeat (first | (with_reducible exact Below.refl _ _) | (with_reducible assumption) | (with_reducible apply below_drewN) | (with_reducible apply Below.drew) | ((with_reducible refine Below.setCell ?_ ?_ _); rotate_left; focus (first | (simp; done) | (simp; omega) | omega)) | ((with_reducible refine Below.alloc ?_ ?_ _); rotate_left; focus (first | (simp; done) | (simp; omega) | omega))))⟩

set_option maxRecDepth 4000 in
set_option maxHeartbeats 1000000 in
theorem presence_type (q : Option Addr) (qc : Nat) (l : List Val) (c : Val) (w : World) (hr : RowV w q l) (hl : l.length ≤ 1048576) :
    Calls Tryz.prog 126 #[.agg #[.slice q l.length qc, .int .i64 c.k, .int .i64 c.n, .string c.t], .int .i64 9] w fun e w' => e = .returned (.bool (l.any (oneT 9 c))) ∧ Below w.heap.size w w' := by
  have X0 := Box4.start w (.slice q l.length qc) (.int .i64 c.k) (.int .i64 c.n) (.string c.t) 171
  have e9 : oneT 9 c = fun v => decide (v.k = c.n) := by funext v; simp [oneT]
  rw [e9]
  have HI : Hid (Calls _ _ _ _ _) := some_kind q l.length qc c q qc l (fun v => decide (v.k = c.n)) c.k c.n c.t (w.alloc (.cells #[.slice q l.length qc, .int .i64 c.k, .int .i64 c.n, .string c.t] 171)) (fun v hv W hW => isOfKind_any q l.length qc c v W) (hr.next X0.bel) hl
  have hmf := mk_func
  clear hr e9
  go_enter Tryz.func126, Tryz.ntmps126
  go_wp2_with fail
  refine HI.out.mono ?_
  rintro e w1 ⟨rfl, hb⟩
  have hbw := (X0.step hb).bel
  clear HI hb
  go_wp2_with fail
  go_ret
  exact ⟨rfl, hbw⟩

set_option maxRecDepth 4000 in
set_option maxHeartbeats 1000000 in
theorem value_lets (op : Int) (hop : op = 1 ∨ op = 2 ∨ op = 7 ∨ op = 10) (q : Option Addr) (qc : Nat) (l : List Val) (c : Val) (w : World) (hc : okB c = true) (h7 : op = 7 → c.k = 4) (hall : ∀ v ∈ l, okB v = true) (hr : RowV w q l) (hl : l.length ≤ 1048576) :
    Calls Tryz.prog 129 #[.agg #[.slice q l.length qc, .int .i64 c.k, .int .i64 c.n, .string c.t], .int .i64 op] w fun e w' => e = .returned (.bool (l.any (oneT op c) != decide (op = 2))) ∧ Below w.heap.size w w' := by
  have X0 := Box4.start w (.slice q l.length qc) (.int .i64 c.k) (.int .i64 c.n) (.string c.t) 174
  have hr0 := hr.next X0.bel
  have hmf := mk_func
  rcases hop with rfl | rfl | rfl | rfl
  · have e1 : oneT 1 c = fun v => decide (v = c) := by funext v; simp [oneT]
    rw [e1]
    have HI : Hid (Calls _ _ _ _ _) := some_wanted q l.length qc c q qc l (fun v => decide (v = c)) c.k c.n c.t (w.alloc (.cells #[.slice q l.length qc, .int .i64 c.k, .int .i64 c.n, .string c.t] 174)) (fun v hv W hW => isWanted_any q l.length qc c v W) hr0 hl
    obtain ⟨R, hR⟩ : ∃ R, R = l.any (fun v => decide (v = c)) := ⟨_, rfl⟩
    rw [← hR] at HI ⊢
    clear hr hr0 e1 hall h7 hc hR
    go_enter Tryz.func129, Tryz.ntmps129
    go_wp2_with fail
    refine HI.out.mono ?_
    rintro e w1 ⟨rfl, hb⟩
    have hbw := (X0.step hb).bel
    clear HI hb
    go_wp2_with fail
    go_ret
    exact ⟨ret_bool (by simp), hbw⟩
  · have e1 : oneT 2 c = fun v => decide (v = c) := by funext v; simp [oneT]
    rw [e1]
    have HI : Hid (Calls _ _ _ _ _) := some_wanted q l.length qc c q qc l (fun v => decide (v = c)) c.k c.n c.t (w.alloc (.cells #[.slice q l.length qc, .int .i64 c.k, .int .i64 c.n, .string c.t] 174)) (fun v hv W hW => isWanted_any q l.length qc c v W) hr0 hl
    obtain ⟨R, hR⟩ : ∃ R, R = l.any (fun v => decide (v = c)) := ⟨_, rfl⟩
    rw [← hR] at HI ⊢
    clear hr hr0 e1 hall h7 hc hR
    go_enter Tryz.func129, Tryz.ntmps129
    go_wp2_with fail
    refine HI.out.mono ?_
    rintro e w1 ⟨rfl, hb⟩
    have hbw := (X0.step hb).bel
    clear HI hb
    go_wp2_with fail
    go_ret
    exact ⟨ret_bool (by simp), hbw⟩
  · have e1 : oneT 7 c = fun v => (itms c).any (fun u => decide (u = v)) := by funext v; simp [oneT]
    rw [e1]
    have HI : Hid (Calls _ _ _ _ _) := some_item q l.length qc c q qc l (fun v => (itms c).any (fun u => decide (u = v))) c.k c.n c.t (w.alloc (.cells #[.slice q l.length qc, .int .i64 c.k, .int .i64 c.n, .string c.t] 174)) (fun v hv W hW => isItem_any q l.length qc c v W hc (h7 rfl)) hr0 hl
    obtain ⟨R, hR⟩ : ∃ R, R = l.any (fun v => (itms c).any (fun u => decide (u = v))) := ⟨_, rfl⟩
    rw [← hR] at HI ⊢
    clear hr hr0 e1 hall h7 hc hR
    go_enter Tryz.func129, Tryz.ntmps129
    go_wp2_with fail
    refine HI.out.mono ?_
    rintro e w1 ⟨rfl, hb⟩
    have hbw := (X0.step hb).bel
    clear HI hb
    go_wp2_with fail
    go_ret
    exact ⟨ret_bool (by simp), hbw⟩
  · have e1 : oneT 10 c = fun v => decide (v.k = 4) && decide (((itms v).length : Int) = c.n) := by funext v; simp [oneT]
    rw [e1]
    have HI : Hid (Calls _ _ _ _ _) := some_size q l.length qc c q qc l (fun v => decide (v.k = 4) && decide (((itms v).length : Int) = c.n)) c.k c.n c.t (w.alloc (.cells #[.slice q l.length qc, .int .i64 c.k, .int .i64 c.n, .string c.t] 174)) (fun v hv W hW => isOfSize_any q l.length qc c v W (hall v hv)) hr0 hl
    obtain ⟨R, hR⟩ : ∃ R, R = l.any (fun v => decide (v.k = 4) && decide (((itms v).length : Int) = c.n)) := ⟨_, rfl⟩
    rw [← hR] at HI ⊢
    clear hr hr0 e1 hall h7 hc hR
    go_enter Tryz.func129, Tryz.ntmps129
    go_wp2_with fail
    refine HI.out.mono ?_
    rintro e w1 ⟨rfl, hb⟩
    have hbw := (X0.step hb).bel
    clear HI hb
    go_wp2_with fail
    go_ret
    exact ⟨ret_bool (by simp), hbw⟩

set_option maxRecDepth 4000 in
set_option maxHeartbeats 2000000 in
theorem orderOne_any (op : Int) (hop : op = 3 ∨ op = 4 ∨ op = 5 ∨ op = 6) (c v : Val) (b1 b2 : Nat) (w : World) (hc : okB c = true) (hv : okB v = true) (l1 : b1 < w.heap.size) (l2 : b2 < w.heap.size)
    (c1 : w.cell? ⟨b1, 1, none⟩ = some (.int .i64 c.k)) (c2 : w.cell? ⟨b1, 2, none⟩ = some (.int .i64 c.n)) (c3 : w.cell? ⟨b1, 3, none⟩ = some (.string c.t)) (d0 : w.cell? ⟨b2, 0, none⟩ = some (.int .i64 op)) :
    Calls Tryz.prog 200 #[.agg #[.int .i64 v.k, .int .i64 v.n, .string v.t], .pointer (some ⟨b1, 0, none⟩), .pointer (some ⟨b2, 0, none⟩)] w fun e w' => e = .returned (.bool (oneT op c v)) ∧ Below w.heap.size w w' := by
  have X0 := Boxed.start w (.int .i64 v.k) (.int .i64 v.n) (.string v.t) 28
  have hsc := ok_size c hc
  have hsv := ok_size v hv
  obtain ⟨W0, hW0⟩ : ∃ W0, W0 = w.alloc (.cells #[.int .i64 v.k, .int .i64 v.n, .string v.t] 28) := ⟨_, rfl⟩
  rw [← hW0] at X0
  have k1 : b1 < W0.heap.size := Nat.lt_of_lt_of_le l1 X0.bel.size
  have k2 : b2 < W0.heap.size := Nat.lt_of_lt_of_le l2 X0.bel.size
  have q1 : ∀ u : Under W0, u.x.cell? ⟨b1, 1, none⟩ = some (.int .i64 c.k) := fun u => (u.h.cell k1).trans ((X0.bel.cell l1).trans c1)
  have q2 : ∀ u : Under W0, u.x.cell? ⟨b1, 2, none⟩ = some (.int .i64 c.n) := fun u => (u.h.cell k1).trans ((X0.bel.cell l1).trans c2)
  have q3 : ∀ u : Under W0, u.x.cell? ⟨b1, 3, none⟩ = some (.string c.t) := fun u => (u.h.cell k1).trans ((X0.bel.cell l1).trans c3)
  have q4 : ∀ u : Under W0, u.x.cell? ⟨b2, 0, none⟩ = some (.int .i64 op) := fun u => (u.h.cell k2).trans ((X0.bel.cell l2).trans d0)
  have r0 : ∀ u : Under W0, u.x.cell? ⟨w.heap.size, 0, none⟩ = some (.int .i64 v.k) := fun u => (u.h.cell X0.lt).trans X0.c0
  have r1 : ∀ u : Under W0, u.x.cell? ⟨w.heap.size, 1, none⟩ = some (.int .i64 v.n) := fun u => (u.h.cell X0.lt).trans X0.c1
  have r2 : ∀ u : Under W0, u.x.cell? ⟨w.heap.size, 2, none⟩ = some (.string v.t) := fun u => (u.h.cell X0.lt).trans X0.c2
  have hnu : Nonempty (Under W0) := ⟨⟨W0, Below.refl _ _⟩⟩
  have HCV : Hid (∀ W : World, Calls _ _ _ W _) := fun W => compare_at 5 v c W (by omega) (by omega) hv hc
  have HCF : Hid (∀ W : World, Calls _ _ _ W _) := fun W => orderFits_any op (ordV 5 v c) W hop
  have hone := oneT_ord op c v hop
  have hbw0 := X0.bel
  clear c1 c2 c3 d0 hc hv hop
  by_cases hk : v.k = c.k
  · have ek : (v.k == c.k) = true := by simp [hk]
    rw [decide_eq_true hk, Bool.true_and] at hone
    rw [hone]
    clear hone hk X0
    go_enter Tryz.func200, Tryz.ntmps200
    go_wp2_with fail
    rw [← hW0]
    clear hW0
    refine wp_region_under (by kernel_rfl) (by kernel_rfl) ?_
    repeat (go_big_quiet_step ((first | (go_at_call 202; exact calls_under _ (HCV.out _)) | (go_at_call 201; exact calls_under _ (HCF.out _)))))
    refine wpQuiet_nil ?_
    rintro _ ⟨u, rfl⟩
    have hbu := hbw0.trans (u.h.mono hbw0.size)
    go_wp2_with fail
    go_ret
    exact ⟨rfl, hbu⟩
  · have ek : (v.k == c.k) = false := beq_eq_false_iff_ne.mpr hk
    rw [decide_eq_false hk, Bool.false_and] at hone
    rw [hone]
    clear hone hk X0
    go_enter Tryz.func200, Tryz.ntmps200
    go_wp2_with fail
    rw [← hW0]
    clear hW0
    refine wp_region_under (by kernel_rfl) (by kernel_rfl) ?_
    repeat (go_big_quiet_step (fail))
    refine wpQuiet_nil ?_
    rintro _ ⟨u, rfl⟩
    have hbu := hbw0.trans (u.h.mono hbw0.size)
    go_wp2_with fail
    go_ret
    exact ⟨rfl, hbu⟩

set_option maxRecDepth 4000 in
set_option maxHeartbeats 1000000 in
theorem order_lets (op : Int) (hop : op = 3 ∨ op = 4 ∨ op = 5 ∨ op = 6) (q : Option Addr) (qc : Nat) (l : List Val) (c : Val) (w : World) (hc : okB c = true) (hall : ∀ v ∈ l, okB v = true) (hr : RowV w q l) (hl : l.length ≤ 1048576) :
    Calls Tryz.prog 128 #[.agg #[.slice q l.length qc, .int .i64 c.k, .int .i64 c.n, .string c.t], .int .i64 op] w fun e w' => e = .returned (.bool (l.any (oneT op c) != decide (op = 2))) ∧ Below w.heap.size w w' := by
  have X0 := (Box4.start w (.slice q l.length qc) (.int .i64 c.k) (.int .i64 c.n) (.string c.t) 173).step ((Below.refl _ _).alloc (Nat.le_refl _) (.cells #[.int .i64 op] 3))
  have hr0 := hr.next X0.bel
  have hmf := mk_func
  have h2 : decide (op = 2) = false := decide_eq_false (by omega)
  rw [h2]
  have hd : ((w.alloc (.cells #[.slice q l.length qc, .int .i64 c.k, .int .i64 c.n, .string c.t] 173)).alloc (.cells #[.int .i64 op] 3)).cell? ⟨w.heap.size + 1, 0, none⟩ = some (.int .i64 op) := by simp [go_sem]
  have hlt : w.heap.size + 1 < ((w.alloc (.cells #[.slice q l.length qc, .int .i64 c.k, .int .i64 c.n, .string c.t] 173)).alloc (.cells #[.int .i64 op] 3)).heap.size := by simp
  have HI : Hid (Calls _ _ _ _ _) := some_ord w.heap.size (w.heap.size + 1) q qc l (oneT op c) c.k c.n c.t ((w.alloc (.cells #[.slice q l.length qc, .int .i64 c.k, .int .i64 c.n, .string c.t] 173)).alloc (.cells #[.int .i64 op] 3)) (fun v hv W hW => orderOne_any op hop c v w.heap.size (w.heap.size + 1) W hc (hall v hv) (Nat.lt_of_lt_of_le X0.lt hW.size) (Nat.lt_of_lt_of_le hlt hW.size) ((hW.cell X0.lt).trans X0.c1) ((hW.cell X0.lt).trans X0.c2) ((hW.cell X0.lt).trans X0.c3) ((hW.cell hlt).trans hd)) hr0 hl
  obtain ⟨R, hR⟩ : ∃ R, R = l.any (oneT op c) := ⟨_, rfl⟩
  rw [← hR] at HI ⊢
  clear hr hr0 hall hc hR hd hop
  go_enter Tryz.func128, Tryz.ntmps128
  go_wp2_with fail
  refine HI.out.mono ?_
  rintro e w1 ⟨rfl, hb⟩
  have hbw := (X0.step hb).bel
  clear HI hb
  go_wp2_with fail
  go_ret
  exact ⟨ret_bool (by simp), hbw⟩

end Go.Proofs.YtkeghknceccdmaaGreatDoor
