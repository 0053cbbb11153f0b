/- What the program's asking whether a filter is right answers, for every filter. -/
import Derived.Test.YtkeghknceccdmaaGreatDoorRowTQ
import Derived.Test.YtkeghknceccdmaaGreatDoorSplitWQ
namespace Go.Proofs.YtkeghknceccdmaaGreatDoor
open Go.RowKit
set_option linter.unusedVariables false

def okT (t : Trm) : Bool := termB t.op t.p t.c
/-- Is a clause right. -/
def clauseB (l : List Trm) : Bool := decide (l.length ≤ 4) && l.all okT
/-- Is a filter right. -/
def filtB (f : List (List Trm)) : Bool := decide (1 ≤ f.length ∧ f.length ≤ 3) && f.all clauseB

set_option maxRecDepth 4000 in
set_option maxHeartbeats 1000000 in
theorem isWrongTerm_any (t : Trm) (w : World) (hs : szT t) :
    Calls Tryz.prog 213 #[.agg #[.int .i64 t.op, .string t.p, .int .i64 t.c.k, .int .i64 t.c.n, .string t.c.t]] w fun e w' => e = .returned (.bool (!(okT t))) ∧ Below w.heap.size w w' := by
  have X0 := Box5.start w (.int .i64 t.op) (.string t.p) (.int .i64 t.c.k) (.int .i64 t.c.n) (.string t.c.t) 34
  have HC : Hid (∀ W : World, Calls _ _ _ W _) := fun W => termOK_any t.op t.p t.c.k t.c.n t.c.t W hs.1 hs.2
  have ho : termB t.op t.p ⟨t.c.k, t.c.n, t.c.t⟩ = okT t := rfl
  rw [ho] at HC
  clear hs ho
  go_enter Tryz.func213, Tryz.ntmps213
  go_wp2_with fail
  refine (HC.out _).mono ?_
  rintro e w1 ⟨rfl, hb⟩
  have hbw := (X0.step hb).bel
  clear hb
  go_wp2_with fail
  go_ret
  exact ⟨ret_bool (by simp), hbw⟩

set_option maxRecDepth 4000 in
set_option maxHeartbeats 1000000 in
theorem idxWrongT_any (q : Option Addr) (qc : Nat) (l : List Trm) (w : World) (hr : RowT w q l) (hl : l.length ≤ 1048576) (hs : ∀ v ∈ l, szT v) :
    Calls Tryz.prog 261 #[.slice q l.length qc, .func (.func 213) #[] #[]] w fun e w' => (∃ i : Int, e = .returned (.int .i64 i) ∧ decide (0 ≤ i) = !(l.all okT)) ∧ Below w.heap.size w w' := by
  have HR : Hid (RowT _ _ _) := hr
  have HS : Hid _ := hs
  clear hr hs
  go_enter Tryz.func261, Tryz.ntmps261
  go_wp2_with fail
  go_loopw [8] (fun i wr => ∃ k : Nat, k ≤ l.length ∧ i = .int .i64 k ∧ (∀ u ∈ l.take k, okT u = true) ∧ Below w.heap.size w wr) (fun i _ => l.length - (intOf i).toNat)
  case atStart => exact ⟨0, Nat.zero_le _, rfl, fun u hu => by simp at hu, Below.refl _ _⟩
  case round =>
    obtain ⟨k, hk, rfl, hall, hbel⟩ := hrel
    have HA : Hid _ := hall
    clear hall
    by_cases hlt : k < l.length
    · rcases HR.out.next hbel with h0 | ⟨g, rfl, R⟩
      · subst h0; simp at hlt
      obtain ⟨x0, x1, x2, x3, x4⟩ := R.cells k hlt
      have hlt2 : (k : Int) < (l.length : Int) := by omega
      have HK0 : ∀ W : World, Below wr.heap.size wr W → Calls Tryz.prog 213 #[.agg #[.int .i64 l[k].op, .string l[k].p, .int .i64 l[k].c.k, .int .i64 l[k].c.n, .string l[k].c.t]] W fun e w' => e = .returned (.bool (!(okT l[k]))) ∧ Below W.heap.size W w' := fun W _ => isWrongTerm_any l[k] W (HS.out l[k] (List.getElem_mem _))
      cases hP : okT l[k]
      · rw [hP] at HK0
        have HK : Hid _ := HK0
        have hal : l.all okT = false := by
          rw [Bool.eq_false_iff]; intro hh
          have := List.all_eq_true.mp hh l[k] (List.getElem_mem _)
          rw [hP] at this; cases this
        have HL : Hid _ := hal
        clear R hP HK0 hal
        go_wp2_with fail
        refine (HK.out _ (Below.refl _ _)).mono ?_
        rintro e w1 ⟨rfl, hb⟩
        have hb1 := hbel.trans (hb.mono hbel.size)
        clear hb
        go_wp2_with fail
        go_ret
        exact ⟨⟨k, rfl, by rw [HL.out]; exact decide_eq_true (by omega)⟩, hb1⟩
      · rw [hP] at HK0
        have HK : Hid _ := HK0
        have HPK : Hid _ := hP
        clear R hP HK0
        go_wp2_with fail
        refine (HK.out _ (Below.refl _ _)).mono ?_
        rintro e w1 ⟨rfl, hb⟩
        have hb1 := hbel.trans (hb.mono hbel.size)
        clear hb
        go_wp2_with fail
        go_roundw
        case rel =>
          refine ⟨k + 1, by omega, by go_num, ?_, hb1⟩
          intro u hu
          rw [List.take_succ_eq_append_getElem hlt] at hu
          rcases List.mem_append.mp hu with h | h
          · exact HA.out u h
          · simp at h; subst h; exact HPK.out
        case measure => simp [intOf]; omega
    · have hlt2 : ¬ (k : Int) < (l.length : Int) := by omega
      have hal : l.all okT = true := List.all_eq_true.mpr (fun u hu => HA.out u (by rw [List.take_of_length_le (by omega)]; exact hu))
      have HL : Hid _ := hal
      clear hal
      go_wp2_with fail
      go_ret
      exact ⟨⟨-1, rfl, by rw [HL.out]; rfl⟩, hbel⟩
set_option maxRecDepth 4000 in
set_option maxHeartbeats 1000000 in
theorem anyWrongT_any (q : Option Addr) (qc : Nat) (l : List Trm) (w : World) (hr : RowT w q l) (hl : l.length ≤ 1048576) (hs : ∀ v ∈ l, szT v) :
    Calls Tryz.prog 212 #[.slice q l.length qc, .func (.func 213) #[] #[]] w fun e w' => e = .returned (.bool (!(l.all okT))) ∧ Below w.heap.size w w' := by
  have HI : Hid (Calls _ _ _ _ _) := idxWrongT_any q qc l w hr hl hs
  clear hr hs
  go_enter Tryz.func212, Tryz.ntmps212
  go_wp2_with fail
  refine HI.out.mono ?_
  rintro e w1 ⟨⟨i, rfl, hi⟩, hb⟩
  have HJ : Hid _ := hi
  clear hi HI
  go_wp2_with fail
  go_ret
  exact ⟨ret_bool HJ.out, hb⟩

set_option maxRecDepth 4000 in
set_option maxHeartbeats 1000000 in
theorem isWrongClause_any (p : Option Addr) (cap : Nat) (l : List Trm) (w : World) (hr : RowT w p l) (hs : szC l) :
    Calls Tryz.prog 142 #[.agg #[.slice p l.length cap]] w fun e w' => e = .returned (.bool (!(clauseB l))) ∧ Below w.heap.size w w' := by
  have hb0 : Below w.heap.size w (w.alloc (.cells #[.slice p l.length cap] 109)) := (Below.refl _ _).alloc (Nat.le_refl _) _
  have hlen := hs.1
  unfold clauseB
  by_cases h4 : l.length ≤ 4
  · have h4' : ¬ (4 : Int) < (l.length : Int) := by omega
    have HC : Hid (Calls _ _ _ _ _) := anyWrongT_any p cap l (w.alloc (.cells #[.slice p l.length cap] 109)) (hr.next hb0) hs.1 hs.2
    rw [decide_eq_true h4, Bool.true_and]
    obtain ⟨R, hR⟩ : ∃ R, R = l.all okT := ⟨_, rfl⟩
    rw [← hR] at HC ⊢
    clear hr hs hR
    go_enter Tryz.func142, Tryz.ntmps142
    go_wp2_with fail
    refine HC.out.mono ?_
    rintro e w1 ⟨rfl, hb⟩
    have hbw := hb0.trans (hb.mono hb0.size)
    clear hb
    go_wp2_with fail
    go_ret
    exact ⟨rfl, hbw⟩
  · have h4' : (4 : Int) < (l.length : Int) := by omega
    rw [decide_eq_false h4, Bool.false_and]
    clear hr hs
    go_enter Tryz.func142, Tryz.ntmps142
    go_wp2_with fail
    go_ret
    exact ⟨rfl, hb0⟩

set_option maxRecDepth 4000 in
set_option maxHeartbeats 1000000 in
theorem idxWrongC_any (q : Option Addr) (qc : Nat) (l : List (List Trm)) (w : World) (hr : RowC w q l) (hl : l.length ≤ 1048576) (hs : ∀ v ∈ l, szC v) :
    Calls Tryz.prog 211 #[.slice q l.length qc, .func (.func 142) #[] #[]] w fun e w' => (∃ i : Int, e = .returned (.int .i64 i) ∧ decide (0 ≤ i) = !(l.all clauseB)) ∧ Below w.heap.size w w' := by
  have HR : Hid (RowC _ _ _) := hr
  have HS : Hid _ := hs
  clear hr hs
  go_enter Tryz.func211, Tryz.ntmps211
  go_wp2_with fail
  go_loopw [8] (fun i wr => ∃ k : Nat, k ≤ l.length ∧ i = .int .i64 k ∧ (∀ u ∈ l.take k, clauseB u = true) ∧ Below w.heap.size w wr) (fun i _ => l.length - (intOf i).toNat)
  case atStart => exact ⟨0, Nat.zero_le _, rfl, fun u hu => by simp at hu, Below.refl _ _⟩
  case round =>
    obtain ⟨k, hk, rfl, hall, hbel⟩ := hrel
    have HA : Hid _ := hall
    clear hall
    by_cases hlt : k < l.length
    · rcases HR.out.next hbel with h0 | ⟨g, rfl, R⟩
      · subst h0; simp at hlt
      obtain ⟨pk, ck, x0, xr⟩ := R.cells k hlt
      have hlt2 : (k : Int) < (l.length : Int) := by omega
      have HK0 : ∀ W : World, Below wr.heap.size wr W → Calls Tryz.prog 142 #[.agg #[.slice pk l[k].length ck]] W fun e w' => e = .returned (.bool (!(clauseB l[k]))) ∧ Below W.heap.size W w' := fun W hW => isWrongClause_any pk ck l[k] W (xr.next hW) (HS.out l[k] (List.getElem_mem _))
      cases hP : clauseB l[k]
      · rw [hP] at HK0
        have HK : Hid _ := HK0
        have hal : l.all clauseB = false := by
          rw [Bool.eq_false_iff]; intro hh
          have := List.all_eq_true.mp hh l[k] (List.getElem_mem _)
          rw [hP] at this; cases this
        have HL : Hid _ := hal
        clear R hP HK0 hal
        go_wp2_with fail
        refine (HK.out _ (Below.refl _ _)).mono ?_
        rintro e w1 ⟨rfl, hb⟩
        have hb1 := hbel.trans (hb.mono hbel.size)
        clear hb
        go_wp2_with fail
        go_ret
        exact ⟨⟨k, rfl, by rw [HL.out]; exact decide_eq_true (by omega)⟩, hb1⟩
      · rw [hP] at HK0
        have HK : Hid _ := HK0
        have HPK : Hid _ := hP
        clear R hP HK0
        go_wp2_with fail
        refine (HK.out _ (Below.refl _ _)).mono ?_
        rintro e w1 ⟨rfl, hb⟩
        have hb1 := hbel.trans (hb.mono hbel.size)
        clear hb
        go_wp2_with fail
        go_roundw
        case rel =>
          refine ⟨k + 1, by omega, by go_num, ?_, hb1⟩
          intro u hu
          rw [List.take_succ_eq_append_getElem hlt] at hu
          rcases List.mem_append.mp hu with h | h
          · exact HA.out u h
          · simp at h; subst h; exact HPK.out
        case measure => simp [intOf]; omega
    · have hlt2 : ¬ (k : Int) < (l.length : Int) := by omega
      have hal : l.all clauseB = true := List.all_eq_true.mpr (fun u hu => HA.out u (by rw [List.take_of_length_le (by omega)]; exact hu))
      have HL : Hid _ := hal
      clear hal
      go_wp2_with fail
      go_ret
      exact ⟨⟨-1, rfl, by rw [HL.out]; rfl⟩, hbel⟩
set_option maxRecDepth 4000 in
set_option maxHeartbeats 1000000 in
theorem anyWrongC_any (q : Option Addr) (qc : Nat) (l : List (List Trm)) (w : World) (hr : RowC w q l) (hl : l.length ≤ 1048576) (hs : ∀ v ∈ l, szC v) :
    Calls Tryz.prog 141 #[.slice q l.length qc, .func (.func 142) #[] #[]] w fun e w' => e = .returned (.bool (!(l.all clauseB))) ∧ Below w.heap.size w w' := by
  have HI : Hid (Calls _ _ _ _ _) := idxWrongC_any q qc l w hr hl hs
  clear hr hs
  go_enter Tryz.func141, Tryz.ntmps141
  go_wp2_with fail
  refine HI.out.mono ?_
  rintro e w1 ⟨⟨i, rfl, hi⟩, hb⟩
  have HJ : Hid _ := hi
  clear hi HI
  go_wp2_with fail
  go_ret
  exact ⟨ret_bool HJ.out, hb⟩

set_option maxRecDepth 4000 in
set_option maxHeartbeats 1000000 in
theorem filterOK_any (p : Option Addr) (cap : Nat) (f : List (List Trm)) (w : World) (hr : RowC w p f) (hl : f.length ≤ 1048576) (hs : ∀ l ∈ f, szC l) :
    Calls Tryz.prog 70 #[.agg #[.slice p f.length cap]] w fun e w' => e = .returned (.bool (filtB f)) ∧ Below w.heap.size w w' := by
  have hb0 : Below w.heap.size w (w.alloc (.cells #[.slice p f.length cap] 53)) := (Below.refl _ _).alloc (Nat.le_refl _) _
  unfold filtB
  by_cases h1 : 1 ≤ f.length
  · have h1' : (1 : Int) ≤ (f.length : Int) := by omega
    have d1 : decide ((1 : Int) ≤ (f.length : Int)) = true := decide_eq_true h1'
    by_cases h3 : f.length ≤ 3
    · have h3' : (f.length : Int) ≤ 3 := by omega
      have d3 : decide ((f.length : Int) ≤ 3) = true := decide_eq_true h3'
      have HC : Hid (Calls _ _ _ _ _) := anyWrongC_any p cap f (w.alloc (.cells #[.slice p f.length cap] 53)) (hr.next hb0) hl hs
      rw [decide_eq_true (And.intro h1 h3), Bool.true_and]
      obtain ⟨R, hR⟩ : ∃ R, R = f.all clauseB := ⟨_, rfl⟩
      rw [← hR] at HC ⊢
      clear hr hs hR
      go_enter Tryz.func70, Tryz.ntmps70
      go_wp2_with fail
      refine HC.out.mono ?_
      rintro e w1 ⟨rfl, hb⟩
      have hbw := hb0.trans (hb.mono hb0.size)
      clear hb
      go_wp2_with fail
      go_ret
      exact ⟨ret_bool (by simp), hbw⟩
    · have h3' : ¬ (f.length : Int) ≤ 3 := by omega
      have d3 : decide ((f.length : Int) ≤ 3) = false := decide_eq_false h3'
      rw [decide_eq_false (fun h => h3 h.2), Bool.false_and]
      clear hr hs
      go_enter Tryz.func70, Tryz.ntmps70
      go_wp2_with fail
      go_ret
      exact ⟨rfl, hb0⟩
  · have h1' : ¬ (1 : Int) ≤ (f.length : Int) := by omega
    have d1 : decide ((1 : Int) ≤ (f.length : Int)) = false := decide_eq_false h1'
    rw [decide_eq_false (fun h => h1 h.1), Bool.false_and]
    clear hr hs
    go_enter Tryz.func70, Tryz.ntmps70
    go_wp2_with fail
    go_ret
    exact ⟨rfl, hb0⟩

end Go.Proofs.YtkeghknceccdmaaGreatDoor

/- What the specification's asking whether a filter is right answers, for every filter. -/
namespace Go.Proofs.YtkeghknceccdmaaGreatDoor
open Go.RowKit
set_option linter.unusedVariables false

set_option maxRecDepth 8000 in
set_option maxHeartbeats 2000000 in
theorem specFilt_any (p : Option Addr) (cap : Nat) (f : List (List Trm)) (w : World) (hr : RowC w p f) (hl : f.length ≤ 1048576) (hs : ∀ l ∈ f, szC l) :
    Calls Tryz.prog 67 #[.agg #[.slice p f.length cap]] w fun e w' => e = .returned (.bool (filtB f)) ∧ Below w.heap.size w w' := by
  have hb0 : Below w.heap.size w (w.alloc (.cells #[.slice p f.length cap] 53)) := (Below.refl _ _).alloc (Nat.le_refl _) _
  have c0 : (w.alloc (.cells #[.slice p f.length cap] 53)).cell? ⟨w.heap.size, 0, none⟩ = some (.slice p f.length cap) := by simp [go_sem]
  have hl0 : w.heap.size < (w.alloc (.cells #[.slice p f.length cap] 53)).heap.size := by simp
  obtain ⟨R, hR⟩ : ∃ R, R = filtB f := ⟨_, rfl⟩
  rw [← hR]
  have HR : Hid _ := hR
  have HRC : Hid (RowC _ _ _) := hr.next hb0
  have HS : Hid _ := hs
  clear hr hs hR
  by_cases hin : 1 ≤ f.length ∧ f.length ≤ 3
  case neg =>
    have hd : decide ((1 : Int) ≤ (f.length : Int) ∧ (f.length : Int) ≤ 3) = false := decide_eq_false (by omega)
    have hRf : R = false := by rw [HR.out]; unfold filtB; rw [decide_eq_false hin, Bool.false_and]
    have HD : Hid _ := hd
    clear HR hd
    subst hRf
    go_enter Tryz.func67, Tryz.ntmps67
    go_wp2_with fail
    refine (l01In_any _ 1 3 _).mono ?_
    rintro e w1 ⟨rfl, rfl⟩
    rw [HD.out]
    go_wp2_with fail
    go_ret
    exact ⟨rfl, hb0⟩
  case pos =>
  have hd : decide ((1 : Int) ≤ (f.length : Int) ∧ (f.length : Int) ≤ 3) = true := decide_eq_true (by omega)
  have hRa : R = f.all clauseB := by rw [HR.out]; unfold filtB; rw [decide_eq_true hin, Bool.true_and]
  have HD : Hid _ := hd
  have HRA : Hid _ := hRa
  clear HR hd hRa
  go_enter Tryz.func67, Tryz.ntmps67
  go_wp2_with fail
  refine (l01In_any _ 1 3 _).mono ?_
  rintro e w1 ⟨rfl, rfl⟩
  rw [HD.out]
  go_wp2_with fail
  generalize w.alloc (.cells #[.slice p f.length cap] 53) = W0 at hb0 c0 hl0 HRC ⊢
  go_loopw [3] (fun i wr => ∃ k : Nat, k ≤ f.length ∧ i = .int .i64 k ∧ (∀ l ∈ f.take k, clauseB l = true) ∧ Below W0.heap.size W0 wr) (fun i _ => f.length - (intOf i).toNat)
  case atStart => exact ⟨0, Nat.zero_le _, rfl, (fun l hl => by simp at hl), Below.refl _ _⟩
  case round =>
    obtain ⟨k, hk, rfl, hall, hbel⟩ := hrel
    have HA : Hid _ := hall
    have hc := (hbel.cell hl0).trans c0
    have hlw : w.heap.size < wr.heap.size := Nat.lt_of_lt_of_le hl0 hbel.size
    have hbw := hb0.trans (hbel.mono hb0.size)
    clear hall
    by_cases hlt : k < f.length
    · rcases HRC.out.next hbel with h0 | ⟨g, rfl, RC⟩
      · subst h0; simp at hlt
      obtain ⟨pk, ck, x0, xr⟩ := RC.cells k hlt
      have hgl := RC.lt
      have hlt2 : (k : Int) < (f.length : Int) := by omega
      have hsk := HS.out f[k] (List.getElem_mem _)
      have HSK : Hid (szC _) := hsk
      have HXR : Hid (RowT _ _ _) := xr
      have hlen := hsk.1
      clear RC xr hsk
      obtain ⟨fk, hfk⟩ : ∃ fk, fk = f[k] := ⟨_, rfl⟩
      rw [← hfk] at x0 HSK HXR hlen
      have HFK : Hid _ := hfk
      clear hfk
      by_cases h4 : fk.length ≤ 4
      · have h4' : ¬ (4 : Int) < (fk.length : Int) := by omega
        go_wp2_with fail
        obtain ⟨wo, hwo⟩ : ∃ wo, wo = wr := ⟨_, rfl⟩
        subst hwo
        go_loopw [4] (fun j wr2 => ∃ q : Nat, q ≤ fk.length ∧ j = .int .i64 q ∧ (∀ t ∈ fk.take q, okT t = true) ∧ Below wo.heap.size wo wr2) (fun j _ => fk.length - (intOf j).toNat)
        case atStart => exact ⟨0, Nat.zero_le _, rfl, (fun t ht => by simp at ht), Below.refl _ _⟩
        case round =>
          obtain ⟨q, hq, rfl, hall2, hbel2⟩ := hrel
          have HA2 : Hid _ := hall2
          have hc2 := (hbel2.cell hlw).trans hc
          have hx2 := (hbel2.cell hgl).trans x0
          have hbw2 := hbw.trans (hbel2.mono hbw.size)
          have hbel3 := hbel.trans (hbel2.mono hbel.size)
          clear hall2
          by_cases hqt : q < fk.length
          · rcases HXR.out.next hbel2 with h0 | ⟨gt, rfl, RT⟩
            · subst h0; simp at hqt
            obtain ⟨y0, y1, y2, y3, y4⟩ := RT.cells q hqt
            have hqt2 : (q : Int) < (fk.length : Int) := by omega
            have hst := HSK.out.2 fk[q] (List.getElem_mem _)
            have HC0 : ∀ W : World, Calls Tryz.prog 64 #[.agg #[.int .i64 fk[q].op, .string fk[q].p, .int .i64 fk[q].c.k, .int .i64 fk[q].c.n, .string fk[q].c.t]] W fun e w' => e = .returned (.bool (okT fk[q])) ∧ Below W.heap.size W w' := fun W => specTerm_any fk[q].op fk[q].p fk[q].c.k fk[q].c.n fk[q].c.t W hst.1 hst.2
            clear RT hst
            cases hP : okT fk[q]
            · rw [hP] at HC0
              have HC : Hid _ := HC0
              have hRf : R = false := by
                rw [HRA.out, Bool.eq_false_iff]; intro hh
                have h1 := List.all_eq_true.mp hh f[k] (List.getElem_mem _)
                rw [← HFK.out] at h1
                unfold clauseB at h1
                rw [Bool.and_eq_true] at h1
                have := List.all_eq_true.mp h1.2 fk[q] (List.getElem_mem _)
                rw [hP] at this; cases this
              clear HC0 hP HRA
              subst hRf
              go_wp2_with fail
              refine (HC.out _).mono ?_
              rintro e w3 ⟨rfl, hb⟩
              have hb3 := hbw2.trans (hb.mono hbw2.size)
              clear hb
              go_wp2_with fail
              go_ret
              exact ⟨rfl, hb3⟩
            · rw [hP] at HC0
              have HC : Hid _ := HC0
              have HPK : Hid _ := hP
              clear HC0 hP
              go_wp2_with fail
              refine (HC.out _).mono ?_
              rintro e w3 ⟨rfl, hb⟩
              have hb3 := hbel2.trans (hb.mono hbel2.size)
              clear hb
              go_wp2_with fail
              go_roundw
              case rel => exact ⟨q + 1, by omega, by go_num, take_allT _ fk q hqt HA2.out HPK.out, hb3⟩
              case measure => simp [intOf]; omega
          · have hqt2 : ¬ (q : Int) < (fk.length : Int) := by omega
            have hcl : clauseB f[k] = true := by
              rw [← HFK.out]
              unfold clauseB
              rw [decide_eq_true h4, Bool.true_and]
              exact List.all_eq_true.mpr (fun u hu => HA2.out u (by rw [List.take_of_length_le (by omega)]; exact hu))
            have HCL : Hid _ := hcl
            clear hcl
            go_wp2_with fail
            go_roundw
            case rel => exact ⟨k + 1, by omega, by go_num, take_allC _ f k hlt HA.out HCL.out, hbel3⟩
            case measure => simp [intOf]; omega
      · have h4' : (4 : Int) < (fk.length : Int) := by omega
        have hRf : R = false := by
          rw [HRA.out, Bool.eq_false_iff]; intro hh
          have h1 := List.all_eq_true.mp hh f[k] (List.getElem_mem _)
          rw [← HFK.out] at h1
          unfold clauseB at h1
          rw [decide_eq_false h4] at h1; cases h1
        clear HRA
        subst hRf
        go_wp2_with fail
        go_ret
        exact ⟨rfl, hbw⟩
    · have hlt2 : ¬ (k : Int) < (f.length : Int) := by omega
      have hRt : R = true := by
        rw [HRA.out]
        exact List.all_eq_true.mpr (fun u hu => HA.out u (by rw [List.take_of_length_le (by omega)]; exact hu))
      clear HRA
      subst hRt
      go_wp2_with fail
      go_ret
      exact ⟨rfl, hbw⟩

end Go.Proofs.YtkeghknceccdmaaGreatDoor
