/- What the program's asking whether a filter is right answers, for every filter. -/
import Derived.Test.YtkeghknceccdmaaGreatDoorRowC
import Derived.Test.YtkeghknceccdmaaGreatDoorTermW
namespace Go.Proofs.YtkeghknceccdmaaGreatDoor
open Go.RowKit
set_option linter.unusedVariables false

def okT (t : Trm) : Bool := termB t.op t.p t.c
/-- Is a clause right. -/
def clauseB (l : List Trm) : Bool := decide (l.length ≤ 4) && l.all okT
/-- Is a filter right. -/
def filtB (f : List (List Trm)) : Bool := decide (1 ≤ f.length ∧ f.length ≤ 3) && f.all clauseB

set_option maxRecDepth 4000 in
set_option maxHeartbeats 1000000 in
theorem isWrongTerm_any (t : Trm) (w : World) (hs : szT t) :
    Calls Tryz.prog 213 #[.agg #[.int .i64 t.op, .string t.p, .int .i64 t.c.k, .int .i64 t.c.n, .string t.c.t]] w fun e w' => e = .returned (.bool (!(okT t))) ∧ Below w.heap.size w w' := by
  have X0 := Box5.start w (.int .i64 t.op) (.string t.p) (.int .i64 t.c.k) (.int .i64 t.c.n) (.string t.c.t) 34
  have HC : Hid (∀ W : World, Calls _ _ _ W _) := fun W => termOK_any t.op t.p t.c.k t.c.n t.c.t W hs.1 hs.2
  have ho : termB t.op t.p ⟨t.c.k, t.c.n, t.c.t⟩ = okT t := rfl
  rw [ho] at HC
  clear hs ho
  go_enter Tryz.func213, Tryz.ntmps213
  go_wp2_with fail
  refine (HC.out _).mono ?_
  rintro e w1 ⟨rfl, hb⟩
  have hbw := (X0.step hb).bel
  clear hb
  go_wp2_with fail
  go_ret
  exact ⟨ret_bool (by simp), hbw⟩

set_option maxRecDepth 4000 in
set_option maxHeartbeats 1000000 in
theorem idxWrongT_any (q : Option Addr) (qc : Nat) (l : List Trm) (w : World) (hr : RowT w q l) (hl : l.length ≤ 1048576) (hs : ∀ v ∈ l, szT v) :
    Calls Tryz.prog 261 #[.slice q l.length qc, .func (.func 213) #[] #[]] w fun e w' => (∃ i : Int, e = .returned (.int .i64 i) ∧ decide (0 ≤ i) = !(l.all okT)) ∧ Below w.heap.size w w' := by
  have HR : Hid (RowT _ _ _) := hr
  have HS : Hid _ := hs
  clear hr hs
  go_enter Tryz.func261, Tryz.ntmps261
  go_wp2_with fail
  go_loopw [8] (fun i wr => ∃ k : Nat, k ≤ l.length ∧ i = .int .i64 k ∧ (∀ u ∈ l.take k, okT u = true) ∧ Below w.heap.size w wr) (fun i _ => l.length - (intOf i).toNat)
  case atStart => exact ⟨0, Nat.zero_le _, rfl, fun u hu => by simp at hu, Below.refl _ _⟩
  case round =>
    obtain ⟨k, hk, rfl, hall, hbel⟩ := hrel
    have HA : Hid _ := hall
    clear hall
    by_cases hlt : k < l.length
    · rcases HR.out.next hbel with h0 | ⟨g, rfl, R⟩
      · subst h0; simp at hlt
      obtain ⟨x0, x1, x2, x3, x4⟩ := R.cells k hlt
      have hlt2 : (k : Int) < (l.length : Int) := by omega
      have HK0 : ∀ W : World, Below wr.heap.size wr W → Calls Tryz.prog 213 #[.agg #[.int .i64 l[k].op, .string l[k].p, .int .i64 l[k].c.k, .int .i64 l[k].c.n, .string l[k].c.t]] W fun e w' => e = .returned (.bool (!(okT l[k]))) ∧ Below W.heap.size W w' := fun W _ => isWrongTerm_any l[k] W (HS.out l[k] (List.getElem_mem _))
      cases hP : okT l[k]
      · rw [hP] at HK0
        have HK : Hid _ := HK0
        have hal : l.all okT = false := by
          rw [Bool.eq_false_iff]; intro hh
          have := List.all_eq_true.mp hh l[k] (List.getElem_mem _)
          rw [hP] at this; cases this
        have HL : Hid _ := hal
        clear R hP HK0 hal
        go_wp2_with fail
        refine (HK.out _ (Below.refl _ _)).mono ?_
        rintro e w1 ⟨rfl, hb⟩
        have hb1 := hbel.trans (hb.mono hbel.size)
        clear hb
        go_wp2_with fail
        go_ret
        exact ⟨⟨k, rfl, by rw [HL.out]; exact decide_eq_true (by omega)⟩, hb1⟩
      · rw [hP] at HK0
        have HK : Hid _ := HK0
        have HPK : Hid _ := hP
        clear R hP HK0
        go_wp2_with fail
        refine (HK.out _ (Below.refl _ _)).mono ?_
        rintro e w1 ⟨rfl, hb⟩
        have hb1 := hbel.trans (hb.mono hbel.size)
        clear hb
        go_wp2_with fail
        go_roundw
        case rel =>
          refine ⟨k + 1, by omega, by go_num, ?_, hb1⟩
          intro u hu
          rw [List.take_succ_eq_append_getElem hlt] at hu
          rcases List.mem_append.mp hu with h | h
          · exact HA.out u h
          · simp at h; subst h; exact HPK.out
        case measure => simp [intOf]; omega
    · have hlt2 : ¬ (k : Int) < (l.length : Int) := by omega
      have hal : l.all okT = true := List.all_eq_true.mpr (fun u hu => HA.out u (by rw [List.take_of_length_le (by omega)]; exact hu))
      have HL : Hid _ := hal
      clear hal
      go_wp2_with fail
      go_ret
      exact ⟨⟨-1, rfl, by rw [HL.out]; rfl⟩, hbel⟩
set_option maxRecDepth 4000 in
set_option maxHeartbeats 1000000 in
theorem anyWrongT_any (q : Option Addr) (qc : Nat) (l : List Trm) (w : World) (hr : RowT w q l) (hl : l.length ≤ 1048576) (hs : ∀ v ∈ l, szT v) :
    Calls Tryz.prog 212 #[.slice q l.length qc, .func (.func 213) #[] #[]] w fun e w' => e = .returned (.bool (!(l.all okT))) ∧ Below w.heap.size w w' := by
  have HI : Hid (Calls _ _ _ _ _) := idxWrongT_any q qc l w hr hl hs
  clear hr hs
  go_enter Tryz.func212, Tryz.ntmps212
  go_wp2_with fail
  refine HI.out.mono ?_
  rintro e w1 ⟨⟨i, rfl, hi⟩, hb⟩
  have HJ : Hid _ := hi
  clear hi HI
  go_wp2_with fail
  go_ret
  exact ⟨ret_bool HJ.out, hb⟩

set_option maxRecDepth 4000 in
set_option maxHeartbeats 1000000 in
theorem isWrongClause_any (p : Option Addr) (cap : Nat) (l : List Trm) (w : World) (hr : RowT w p l) (hs : szC l) :
    Calls Tryz.prog 142 #[.agg #[.slice p l.length cap]] w fun e w' => e = .returned (.bool (!(clauseB l))) ∧ Below w.heap.size w w' := by
  have hb0 : Below w.heap.size w (w.alloc (.cells #[.slice p l.length cap] 109)) := (Below.refl _ _).alloc (Nat.le_refl _) _
  have hlen := hs.1
  unfold clauseB
  by_cases h4 : l.length ≤ 4
  · have h4' : ¬ (4 : Int) < (l.length : Int) := by omega
    have HC : Hid (Calls _ _ _ _ _) := anyWrongT_any p cap l (w.alloc (.cells #[.slice p l.length cap] 109)) (hr.next hb0) hs.1 hs.2
    rw [decide_eq_true h4, Bool.true_and]
    obtain ⟨R, hR⟩ : ∃ R, R = l.all okT := ⟨_, rfl⟩
    rw [← hR] at HC ⊢
    clear hr hs hR
    go_enter Tryz.func142, Tryz.ntmps142
    go_wp2_with fail
    refine HC.out.mono ?_
    rintro e w1 ⟨rfl, hb⟩
    have hbw := hb0.trans (hb.mono hb0.size)
    clear hb
    go_wp2_with fail
    go_ret
    exact ⟨rfl, hbw⟩
  · have h4' : (4 : Int) < (l.length : Int) := by omega
    rw [decide_eq_false h4, Bool.false_and]
    clear hr hs
    go_enter Tryz.func142, Tryz.ntmps142
    go_wp2_with fail
    go_ret
    exact ⟨rfl, hb0⟩

set_option maxRecDepth 4000 in
set_option maxHeartbeats 1000000 in
theorem idxWrongC_any (q : Option Addr) (qc : Nat) (l : List (List Trm)) (w : World) (hr : RowC w q l) (hl : l.length ≤ 1048576) (hs : ∀ v ∈ l, szC v) :
    Calls Tryz.prog 211 #[.slice q l.length qc, .func (.func 142) #[] #[]] w fun e w' => (∃ i : Int, e = .returned (.int .i64 i) ∧ decide (0 ≤ i) = !(l.all clauseB)) ∧ Below w.heap.size w w' := by
  have HR : Hid (RowC _ _ _) := hr
  have HS : Hid _ := hs
  clear hr hs
  go_enter Tryz.func211, Tryz.ntmps211
  go_wp2_with fail
  go_loopw [8] (fun i wr => ∃ k : Nat, k ≤ l.length ∧ i = .int .i64 k ∧ (∀ u ∈ l.take k, clauseB u = true) ∧ Below w.heap.size w wr) (fun i _ => l.length - (intOf i).toNat)
  case atStart => exact ⟨0, Nat.zero_le _, rfl, fun u hu => by simp at hu, Below.refl _ _⟩
  case round =>
    obtain ⟨k, hk, rfl, hall, hbel⟩ := hrel
    have HA : Hid _ := hall
    clear hall
    by_cases hlt : k < l.length
    · rcases HR.out.next hbel with h0 | ⟨g, rfl, R⟩
      · subst h0; simp at hlt
      obtain ⟨pk, ck, x0, xr⟩ := R.cells k hlt
      have hlt2 : (k : Int) < (l.length : Int) := by omega
      have HK0 : ∀ W : World, Below wr.heap.size wr W → Calls Tryz.prog 142 #[.agg #[.slice pk l[k].length ck]] W fun e w' => e = .returned (.bool (!(clauseB l[k]))) ∧ Below W.heap.size W w' := fun W hW => isWrongClause_any pk ck l[k] W (xr.next hW) (HS.out l[k] (List.getElem_mem _))
      cases hP : clauseB l[k]
      · rw [hP] at HK0
        have HK : Hid _ := HK0
        have hal : l.all clauseB = false := by
          rw [Bool.eq_false_iff]; intro hh
          have := List.all_eq_true.mp hh l[k] (List.getElem_mem _)
          rw [hP] at this; cases this
        have HL : Hid _ := hal
        clear R hP HK0 hal
        go_wp2_with fail
        refine (HK.out _ (Below.refl _ _)).mono ?_
        rintro e w1 ⟨rfl, hb⟩
        have hb1 := hbel.trans (hb.mono hbel.size)
        clear hb
        go_wp2_with fail
        go_ret
        exact ⟨⟨k, rfl, by rw [HL.out]; exact decide_eq_true (by omega)⟩, hb1⟩
      · rw [hP] at HK0
        have HK : Hid _ := HK0
        have HPK : Hid _ := hP
        clear R hP HK0
        go_wp2_with fail
        refine (HK.out _ (Below.refl _ _)).mono ?_
        rintro e w1 ⟨rfl, hb⟩
        have hb1 := hbel.trans (hb.mono hbel.size)
        clear hb
        go_wp2_with fail
        go_roundw
        case rel =>
          refine ⟨k + 1, by omega, by go_num, ?_, hb1⟩
          intro u hu
          rw [List.take_succ_eq_append_getElem hlt] at hu
          rcases List.mem_append.mp hu with h | h
          · exact HA.out u h
          · simp at h; subst h; exact HPK.out
        case measure => simp [intOf]; omega
    · have hlt2 : ¬ (k : Int) < (l.length : Int) := by omega
      have hal : l.all clauseB = true := List.all_eq_true.mpr (fun u hu => HA.out u (by rw [List.take_of_length_le (by omega)]; exact hu))
      have HL : Hid _ := hal
      clear hal
      go_wp2_with fail
      go_ret
      exact ⟨⟨-1, rfl, by rw [HL.out]; rfl⟩, hbel⟩
set_option maxRecDepth 4000 in
set_option maxHeartbeats 1000000 in
theorem anyWrongC_any (q : Option Addr) (qc : Nat) (l : List (List Trm)) (w : World) (hr : RowC w q l) (hl : l.length ≤ 1048576) (hs : ∀ v ∈ l, szC v) :
    Calls Tryz.prog 141 #[.slice q l.length qc, .func (.func 142) #[] #[]] w fun e w' => e = .returned (.bool (!(l.all clauseB))) ∧ Below w.heap.size w w' := by
  have HI : Hid (Calls _ _ _ _ _) := idxWrongC_any q qc l w hr hl hs
  clear hr hs
  go_enter Tryz.func141, Tryz.ntmps141
  go_wp2_with fail
  refine HI.out.mono ?_
  rintro e w1 ⟨⟨i, rfl, hi⟩, hb⟩
  have HJ : Hid _ := hi
  clear hi HI
  go_wp2_with fail
  go_ret
  exact ⟨ret_bool HJ.out, hb⟩

set_option maxRecDepth 4000 in
set_option maxHeartbeats 1000000 in
theorem filterOK_any (p : Option Addr) (cap : Nat) (f : List (List Trm)) (w : World) (hr : RowC w p f) (hl : f.length ≤ 1048576) (hs : ∀ l ∈ f, szC l) :
    Calls Tryz.prog 70 #[.agg #[.slice p f.length cap]] w fun e w' => e = .returned (.bool (filtB f)) ∧ Below w.heap.size w w' := by
  have hb0 : Below w.heap.size w (w.alloc (.cells #[.slice p f.length cap] 53)) := (Below.refl _ _).alloc (Nat.le_refl _) _
  unfold filtB
  by_cases h1 : 1 ≤ f.length
  · have h1' : (1 : Int) ≤ (f.length : Int) := by omega
    have d1 : decide ((1 : Int) ≤ (f.length : Int)) = true := decide_eq_true h1'
    by_cases h3 : f.length ≤ 3
    · have h3' : (f.length : Int) ≤ 3 := by omega
      have d3 : decide ((f.length : Int) ≤ 3) = true := decide_eq_true h3'
      have HC : Hid (Calls _ _ _ _ _) := anyWrongC_any p cap f (w.alloc (.cells #[.slice p f.length cap] 53)) (hr.next hb0) hl hs
      rw [decide_eq_true (And.intro h1 h3), Bool.true_and]
      obtain ⟨R, hR⟩ : ∃ R, R = f.all clauseB := ⟨_, rfl⟩
      rw [← hR] at HC ⊢
      clear hr hs hR
      go_enter Tryz.func70, Tryz.ntmps70
      go_wp2_with fail
      refine HC.out.mono ?_
      rintro e w1 ⟨rfl, hb⟩
      have hbw := hb0.trans (hb.mono hb0.size)
      clear hb
      go_wp2_with fail
      go_ret
      exact ⟨ret_bool (by simp), hbw⟩
    · have h3' : ¬ (f.length : Int) ≤ 3 := by omega
      have d3 : decide ((f.length : Int) ≤ 3) = false := decide_eq_false h3'
      rw [decide_eq_false (fun h => h3 h.2), Bool.false_and]
      clear hr hs
      go_enter Tryz.func70, Tryz.ntmps70
      go_wp2_with fail
      go_ret
      exact ⟨rfl, hb0⟩
  · have h1' : ¬ (1 : Int) ≤ (f.length : Int) := by omega
    have d1 : decide ((1 : Int) ≤ (f.length : Int)) = false := decide_eq_false h1'
    rw [decide_eq_false (fun h => h1 h.1), Bool.false_and]
    clear hr hs
    go_enter Tryz.func70, Tryz.ntmps70
    go_wp2_with fail
    go_ret
    exact ⟨rfl, hb0⟩

end Go.Proofs.YtkeghknceccdmaaGreatDoor
