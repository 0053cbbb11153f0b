/- What the library's search among values by one of the program's trials answers. -/
import Derived.Test.YtkeghknceccdmaaGreatDoorTrialA
namespace Go.Proofs.YtkeghknceccdmaaGreatDoor
open Go.RowKit
set_option linter.unusedVariables false

set_option maxRecDepth 4000 in
set_option maxHeartbeats 1000000 in
theorem idx_kind (p : Option Addr) (m cap : Nat) (c : Val) (q : Option Addr) (qc : Nat) (l : List Val) (P : Val → Bool) (w : World)
    (HC : ∀ v ∈ l, ∀ W : World, Below w.heap.size w W → Calls Tryz.prog 199 #[.agg #[.slice p m cap, .int .i64 c.k, .int .i64 c.n, .string c.t], .agg #[.int .i64 v.k, .int .i64 v.n, .string v.t]] W fun e w' => e = .returned (.bool (P v)) ∧ Below W.heap.size W w') (hr : RowV w q l) (hl : l.length ≤ 1048576) :
    Calls Tryz.prog 286 #[.slice q l.length qc, .func (.func 199) #[.agg #[.slice p m cap, .int .i64 c.k, .int .i64 c.n, .string c.t]] #[]] w fun e w' => (∃ i : Int, e = .returned (.int .i64 i) ∧ decide (0 ≤ i) = l.any P) ∧ Below w.heap.size w w' := by
  have HR : Hid (RowV _ _ _) := hr
  have HF : Hid _ := HC
  clear hr HC
  go_enter Tryz.func286, Tryz.ntmps286
  go_wp2_with fail
  go_loopw [8] (fun i wr => ∃ k : Nat, k ≤ l.length ∧ i = .int .i64 k ∧ (∀ u ∈ l.take k, P u = false) ∧ Below w.heap.size w wr) (fun i _ => l.length - (intOf i).toNat)
  case atStart => exact ⟨0, Nat.zero_le _, rfl, fun u hu => by simp at hu, Below.refl _ _⟩
  case round =>
    obtain ⟨k, hk, rfl, hall, hbel⟩ := hrel
    have HA : Hid _ := hall
    clear hall
    by_cases hlt : k < l.length
    · rcases HR.out.next hbel with h0 | ⟨g, rfl, R⟩
      · subst h0; simp at hlt
      obtain ⟨x0, x1, x2⟩ := R.cells k hlt
      have hlt2 : (k : Int) < (l.length : Int) := by omega
      have HK0 := HF.out l[k] (List.getElem_mem _)
      cases hP : P l[k]
      · rw [hP] at HK0
        have HK : Hid _ := HK0
        have HPK : Hid _ := hP
        clear R hP HK0
        go_wp2_with fail
        refine (HK.out _ hbel).mono ?_
        rintro e w1 ⟨rfl, hb⟩
        have hb1 := hbel.trans (hb.mono hbel.size)
        clear hb
        go_wp2_with fail
        go_roundw
        case rel =>
          refine ⟨k + 1, by omega, by go_num, ?_, hb1⟩
          intro u hu
          rw [List.take_succ_eq_append_getElem hlt] at hu
          rcases List.mem_append.mp hu with h | h
          · exact HA.out u h
          · simp at h; subst h; exact HPK.out
        case measure => simp [intOf]; omega
      · rw [hP] at HK0
        have HK : Hid _ := HK0
        have hal : l.any P = true := List.any_eq_true.mpr ⟨l[k], List.getElem_mem _, hP⟩
        have HL : Hid _ := hal
        clear R hP HK0 hal
        go_wp2_with fail
        refine (HK.out _ hbel).mono ?_
        rintro e w1 ⟨rfl, hb⟩
        have hb1 := hbel.trans (hb.mono hbel.size)
        clear hb
        go_wp2_with fail
        go_ret
        exact ⟨⟨k, rfl, by rw [HL.out]; exact decide_eq_true (by omega)⟩, hb1⟩
    · have hlt2 : ¬ (k : Int) < (l.length : Int) := by omega
      have hal : l.any P = false := by
        rw [Bool.eq_false_iff]; intro hh
        obtain ⟨u, hu, he⟩ := List.any_eq_true.mp hh
        have := HA.out u (by rw [List.take_of_length_le (by omega)]; exact hu)
        rw [this] at he; cases he
      have HL : Hid _ := hal
      clear hal
      go_wp2_with fail
      go_ret
      exact ⟨⟨-1, rfl, by rw [HL.out]; rfl⟩, hbel⟩
set_option maxRecDepth 4000 in
set_option maxHeartbeats 1000000 in
theorem con_kind (p : Option Addr) (m cap : Nat) (c : Val) (q : Option Addr) (qc : Nat) (l : List Val) (P : Val → Bool) (w : World)
    (HC : ∀ v ∈ l, ∀ W : World, Below w.heap.size w W → Calls Tryz.prog 199 #[.agg #[.slice p m cap, .int .i64 c.k, .int .i64 c.n, .string c.t], .agg #[.int .i64 v.k, .int .i64 v.n, .string v.t]] W fun e w' => e = .returned (.bool (P v)) ∧ Below W.heap.size W w') (hr : RowV w q l) (hl : l.length ≤ 1048576) :
    Calls Tryz.prog 254 #[.slice q l.length qc, .func (.func 199) #[.agg #[.slice p m cap, .int .i64 c.k, .int .i64 c.n, .string c.t]] #[]] w fun e w' => e = .returned (.bool (l.any P)) ∧ Below w.heap.size w w' := by
  have HI : Hid (Calls _ _ _ _ _) := idx_kind p m cap c q qc l P w HC hr hl
  clear HC hr
  go_enter Tryz.func254, Tryz.ntmps254
  go_wp2_with fail
  refine HI.out.mono ?_
  rintro e w1 ⟨⟨i, rfl, hi⟩, hb⟩
  have HJ : Hid _ := hi
  clear hi HI
  go_wp2_with fail
  go_ret
  exact ⟨ret_bool HJ.out, hb⟩
set_option maxRecDepth 4000 in
set_option maxHeartbeats 1000000 in
theorem some_kind (p : Option Addr) (m cap : Nat) (c : Val) (q : Option Addr) (qc : Nat) (l : List Val) (P : Val → Bool) (k n : Int) (t : ByteArray) (w : World)
    (HC : ∀ v ∈ l, ∀ W : World, Below w.heap.size w W → Calls Tryz.prog 199 #[.agg #[.slice p m cap, .int .i64 c.k, .int .i64 c.n, .string c.t], .agg #[.int .i64 v.k, .int .i64 v.n, .string v.t]] W fun e w' => e = .returned (.bool (P v)) ∧ Below W.heap.size W w') (hr : RowV w q l) (hl : l.length ≤ 1048576) :
    Calls Tryz.prog 198 #[.agg #[.slice q l.length qc, .int .i64 k, .int .i64 n, .string t], .func (.func 199) #[.agg #[.slice p m cap, .int .i64 c.k, .int .i64 c.n, .string c.t]] #[]] w fun e w' => e = .returned (.bool (l.any P)) ∧ Below w.heap.size w w' := by
  have hb0 : Below w.heap.size w (w.alloc (.cells #[.slice q l.length qc, .int .i64 k, .int .i64 n, .string t] 169)) := (Below.refl _ _).alloc (Nat.le_refl _) _
  have HI : Hid (Calls _ _ _ _ _) := con_kind p m cap c q qc l P (w.alloc (.cells #[.slice q l.length qc, .int .i64 k, .int .i64 n, .string t] 169)) (fun v hv W hW => HC v hv W (hb0.trans (hW.mono hb0.size))) (hr.next hb0) hl
  clear HC hr
  go_enter Tryz.func198, Tryz.ntmps198
  go_wp2_with fail
  refine HI.out.mono ?_
  rintro e w1 ⟨rfl, hb⟩
  have hb1 := hb0.trans (hb.mono hb0.size)
  clear HI hb
  go_wp2_with fail
  go_ret
  exact ⟨rfl, hb1⟩

set_option maxRecDepth 4000 in
set_option maxHeartbeats 1000000 in
theorem idx_wanted (p : Option Addr) (m cap : Nat) (c : Val) (q : Option Addr) (qc : Nat) (l : List Val) (P : Val → Bool) (w : World)
    (HC : ∀ v ∈ l, ∀ W : World, Below w.heap.size w W → Calls Tryz.prog 203 #[.agg #[.slice p m cap, .int .i64 c.k, .int .i64 c.n, .string c.t], .agg #[.int .i64 v.k, .int .i64 v.n, .string v.t]] W fun e w' => e = .returned (.bool (P v)) ∧ Below W.heap.size W w') (hr : RowV w q l) (hl : l.length ≤ 1048576) :
    Calls Tryz.prog 286 #[.slice q l.length qc, .func (.func 203) #[.agg #[.slice p m cap, .int .i64 c.k, .int .i64 c.n, .string c.t]] #[]] w fun e w' => (∃ i : Int, e = .returned (.int .i64 i) ∧ decide (0 ≤ i) = l.any P) ∧ Below w.heap.size w w' := by
  have HR : Hid (RowV _ _ _) := hr
  have HF : Hid _ := HC
  clear hr HC
  go_enter Tryz.func286, Tryz.ntmps286
  go_wp2_with fail
  go_loopw [8] (fun i wr => ∃ k : Nat, k ≤ l.length ∧ i = .int .i64 k ∧ (∀ u ∈ l.take k, P u = false) ∧ Below w.heap.size w wr) (fun i _ => l.length - (intOf i).toNat)
  case atStart => exact ⟨0, Nat.zero_le _, rfl, fun u hu => by simp at hu, Below.refl _ _⟩
  case round =>
    obtain ⟨k, hk, rfl, hall, hbel⟩ := hrel
    have HA : Hid _ := hall
    clear hall
    by_cases hlt : k < l.length
    · rcases HR.out.next hbel with h0 | ⟨g, rfl, R⟩
      · subst h0; simp at hlt
      obtain ⟨x0, x1, x2⟩ := R.cells k hlt
      have hlt2 : (k : Int) < (l.length : Int) := by omega
      have HK0 := HF.out l[k] (List.getElem_mem _)
      cases hP : P l[k]
      · rw [hP] at HK0
        have HK : Hid _ := HK0
        have HPK : Hid _ := hP
        clear R hP HK0
        go_wp2_with fail
        refine (HK.out _ hbel).mono ?_
        rintro e w1 ⟨rfl, hb⟩
        have hb1 := hbel.trans (hb.mono hbel.size)
        clear hb
        go_wp2_with fail
        go_roundw
        case rel =>
          refine ⟨k + 1, by omega, by go_num, ?_, hb1⟩
          intro u hu
          rw [List.take_succ_eq_append_getElem hlt] at hu
          rcases List.mem_append.mp hu with h | h
          · exact HA.out u h
          · simp at h; subst h; exact HPK.out
        case measure => simp [intOf]; omega
      · rw [hP] at HK0
        have HK : Hid _ := HK0
        have hal : l.any P = true := List.any_eq_true.mpr ⟨l[k], List.getElem_mem _, hP⟩
        have HL : Hid _ := hal
        clear R hP HK0 hal
        go_wp2_with fail
        refine (HK.out _ hbel).mono ?_
        rintro e w1 ⟨rfl, hb⟩
        have hb1 := hbel.trans (hb.mono hbel.size)
        clear hb
        go_wp2_with fail
        go_ret
        exact ⟨⟨k, rfl, by rw [HL.out]; exact decide_eq_true (by omega)⟩, hb1⟩
    · have hlt2 : ¬ (k : Int) < (l.length : Int) := by omega
      have hal : l.any P = false := by
        rw [Bool.eq_false_iff]; intro hh
        obtain ⟨u, hu, he⟩ := List.any_eq_true.mp hh
        have := HA.out u (by rw [List.take_of_length_le (by omega)]; exact hu)
        rw [this] at he; cases he
      have HL : Hid _ := hal
      clear hal
      go_wp2_with fail
      go_ret
      exact ⟨⟨-1, rfl, by rw [HL.out]; rfl⟩, hbel⟩
set_option maxRecDepth 4000 in
set_option maxHeartbeats 1000000 in
theorem con_wanted (p : Option Addr) (m cap : Nat) (c : Val) (q : Option Addr) (qc : Nat) (l : List Val) (P : Val → Bool) (w : World)
    (HC : ∀ v ∈ l, ∀ W : World, Below w.heap.size w W → Calls Tryz.prog 203 #[.agg #[.slice p m cap, .int .i64 c.k, .int .i64 c.n, .string c.t], .agg #[.int .i64 v.k, .int .i64 v.n, .string v.t]] W fun e w' => e = .returned (.bool (P v)) ∧ Below W.heap.size W w') (hr : RowV w q l) (hl : l.length ≤ 1048576) :
    Calls Tryz.prog 254 #[.slice q l.length qc, .func (.func 203) #[.agg #[.slice p m cap, .int .i64 c.k, .int .i64 c.n, .string c.t]] #[]] w fun e w' => e = .returned (.bool (l.any P)) ∧ Below w.heap.size w w' := by
  have HI : Hid (Calls _ _ _ _ _) := idx_wanted p m cap c q qc l P w HC hr hl
  clear HC hr
  go_enter Tryz.func254, Tryz.ntmps254
  go_wp2_with fail
  refine HI.out.mono ?_
  rintro e w1 ⟨⟨i, rfl, hi⟩, hb⟩
  have HJ : Hid _ := hi
  clear hi HI
  go_wp2_with fail
  go_ret
  exact ⟨ret_bool HJ.out, hb⟩
set_option maxRecDepth 4000 in
set_option maxHeartbeats 1000000 in
theorem some_wanted (p : Option Addr) (m cap : Nat) (c : Val) (q : Option Addr) (qc : Nat) (l : List Val) (P : Val → Bool) (k n : Int) (t : ByteArray) (w : World)
    (HC : ∀ v ∈ l, ∀ W : World, Below w.heap.size w W → Calls Tryz.prog 203 #[.agg #[.slice p m cap, .int .i64 c.k, .int .i64 c.n, .string c.t], .agg #[.int .i64 v.k, .int .i64 v.n, .string v.t]] W fun e w' => e = .returned (.bool (P v)) ∧ Below W.heap.size W w') (hr : RowV w q l) (hl : l.length ≤ 1048576) :
    Calls Tryz.prog 198 #[.agg #[.slice q l.length qc, .int .i64 k, .int .i64 n, .string t], .func (.func 203) #[.agg #[.slice p m cap, .int .i64 c.k, .int .i64 c.n, .string c.t]] #[]] w fun e w' => e = .returned (.bool (l.any P)) ∧ Below w.heap.size w w' := by
  have hb0 : Below w.heap.size w (w.alloc (.cells #[.slice q l.length qc, .int .i64 k, .int .i64 n, .string t] 169)) := (Below.refl _ _).alloc (Nat.le_refl _) _
  have HI : Hid (Calls _ _ _ _ _) := con_wanted p m cap c q qc l P (w.alloc (.cells #[.slice q l.length qc, .int .i64 k, .int .i64 n, .string t] 169)) (fun v hv W hW => HC v hv W (hb0.trans (hW.mono hb0.size))) (hr.next hb0) hl
  clear HC hr
  go_enter Tryz.func198, Tryz.ntmps198
  go_wp2_with fail
  refine HI.out.mono ?_
  rintro e w1 ⟨rfl, hb⟩
  have hb1 := hb0.trans (hb.mono hb0.size)
  clear HI hb
  go_wp2_with fail
  go_ret
  exact ⟨rfl, hb1⟩

set_option maxRecDepth 4000 in
set_option maxHeartbeats 1000000 in
theorem idx_item (p : Option Addr) (m cap : Nat) (c : Val) (q : Option Addr) (qc : Nat) (l : List Val) (P : Val → Bool) (w : World)
    (HC : ∀ v ∈ l, ∀ W : World, Below w.heap.size w W → Calls Tryz.prog 204 #[.agg #[.slice p m cap, .int .i64 c.k, .int .i64 c.n, .string c.t], .agg #[.int .i64 v.k, .int .i64 v.n, .string v.t]] W fun e w' => e = .returned (.bool (P v)) ∧ Below W.heap.size W w') (hr : RowV w q l) (hl : l.length ≤ 1048576) :
    Calls Tryz.prog 286 #[.slice q l.length qc, .func (.func 204) #[.agg #[.slice p m cap, .int .i64 c.k, .int .i64 c.n, .string c.t]] #[]] w fun e w' => (∃ i : Int, e = .returned (.int .i64 i) ∧ decide (0 ≤ i) = l.any P) ∧ Below w.heap.size w w' := by
  have HR : Hid (RowV _ _ _) := hr
  have HF : Hid _ := HC
  clear hr HC
  go_enter Tryz.func286, Tryz.ntmps286
  go_wp2_with fail
  go_loopw [8] (fun i wr => ∃ k : Nat, k ≤ l.length ∧ i = .int .i64 k ∧ (∀ u ∈ l.take k, P u = false) ∧ Below w.heap.size w wr) (fun i _ => l.length - (intOf i).toNat)
  case atStart => exact ⟨0, Nat.zero_le _, rfl, fun u hu => by simp at hu, Below.refl _ _⟩
  case round =>
    obtain ⟨k, hk, rfl, hall, hbel⟩ := hrel
    have HA : Hid _ := hall
    clear hall
    by_cases hlt : k < l.length
    · rcases HR.out.next hbel with h0 | ⟨g, rfl, R⟩
      · subst h0; simp at hlt
      obtain ⟨x0, x1, x2⟩ := R.cells k hlt
      have hlt2 : (k : Int) < (l.length : Int) := by omega
      have HK0 := HF.out l[k] (List.getElem_mem _)
      cases hP : P l[k]
      · rw [hP] at HK0
        have HK : Hid _ := HK0
        have HPK : Hid _ := hP
        clear R hP HK0
        go_wp2_with fail
        refine (HK.out _ hbel).mono ?_
        rintro e w1 ⟨rfl, hb⟩
        have hb1 := hbel.trans (hb.mono hbel.size)
        clear hb
        go_wp2_with fail
        go_roundw
        case rel =>
          refine ⟨k + 1, by omega, by go_num, ?_, hb1⟩
          intro u hu
          rw [List.take_succ_eq_append_getElem hlt] at hu
          rcases List.mem_append.mp hu with h | h
          · exact HA.out u h
          · simp at h; subst h; exact HPK.out
        case measure => simp [intOf]; omega
      · rw [hP] at HK0
        have HK : Hid _ := HK0
        have hal : l.any P = true := List.any_eq_true.mpr ⟨l[k], List.getElem_mem _, hP⟩
        have HL : Hid _ := hal
        clear R hP HK0 hal
        go_wp2_with fail
        refine (HK.out _ hbel).mono ?_
        rintro e w1 ⟨rfl, hb⟩
        have hb1 := hbel.trans (hb.mono hbel.size)
        clear hb
        go_wp2_with fail
        go_ret
        exact ⟨⟨k, rfl, by rw [HL.out]; exact decide_eq_true (by omega)⟩, hb1⟩
    · have hlt2 : ¬ (k : Int) < (l.length : Int) := by omega
      have hal : l.any P = false := by
        rw [Bool.eq_false_iff]; intro hh
        obtain ⟨u, hu, he⟩ := List.any_eq_true.mp hh
        have := HA.out u (by rw [List.take_of_length_le (by omega)]; exact hu)
        rw [this] at he; cases he
      have HL : Hid _ := hal
      clear hal
      go_wp2_with fail
      go_ret
      exact ⟨⟨-1, rfl, by rw [HL.out]; rfl⟩, hbel⟩
set_option maxRecDepth 4000 in
set_option maxHeartbeats 1000000 in
theorem con_item (p : Option Addr) (m cap : Nat) (c : Val) (q : Option Addr) (qc : Nat) (l : List Val) (P : Val → Bool) (w : World)
    (HC : ∀ v ∈ l, ∀ W : World, Below w.heap.size w W → Calls Tryz.prog 204 #[.agg #[.slice p m cap, .int .i64 c.k, .int .i64 c.n, .string c.t], .agg #[.int .i64 v.k, .int .i64 v.n, .string v.t]] W fun e w' => e = .returned (.bool (P v)) ∧ Below W.heap.size W w') (hr : RowV w q l) (hl : l.length ≤ 1048576) :
    Calls Tryz.prog 254 #[.slice q l.length qc, .func (.func 204) #[.agg #[.slice p m cap, .int .i64 c.k, .int .i64 c.n, .string c.t]] #[]] w fun e w' => e = .returned (.bool (l.any P)) ∧ Below w.heap.size w w' := by
  have HI : Hid (Calls _ _ _ _ _) := idx_item p m cap c q qc l P w HC hr hl
  clear HC hr
  go_enter Tryz.func254, Tryz.ntmps254
  go_wp2_with fail
  refine HI.out.mono ?_
  rintro e w1 ⟨⟨i, rfl, hi⟩, hb⟩
  have HJ : Hid _ := hi
  clear hi HI
  go_wp2_with fail
  go_ret
  exact ⟨ret_bool HJ.out, hb⟩
set_option maxRecDepth 4000 in
set_option maxHeartbeats 1000000 in
theorem some_item (p : Option Addr) (m cap : Nat) (c : Val) (q : Option Addr) (qc : Nat) (l : List Val) (P : Val → Bool) (k n : Int) (t : ByteArray) (w : World)
    (HC : ∀ v ∈ l, ∀ W : World, Below w.heap.size w W → Calls Tryz.prog 204 #[.agg #[.slice p m cap, .int .i64 c.k, .int .i64 c.n, .string c.t], .agg #[.int .i64 v.k, .int .i64 v.n, .string v.t]] W fun e w' => e = .returned (.bool (P v)) ∧ Below W.heap.size W w') (hr : RowV w q l) (hl : l.length ≤ 1048576) :
    Calls Tryz.prog 198 #[.agg #[.slice q l.length qc, .int .i64 k, .int .i64 n, .string t], .func (.func 204) #[.agg #[.slice p m cap, .int .i64 c.k, .int .i64 c.n, .string c.t]] #[]] w fun e w' => e = .returned (.bool (l.any P)) ∧ Below w.heap.size w w' := by
  have hb0 : Below w.heap.size w (w.alloc (.cells #[.slice q l.length qc, .int .i64 k, .int .i64 n, .string t] 169)) := (Below.refl _ _).alloc (Nat.le_refl _) _
  have HI : Hid (Calls _ _ _ _ _) := con_item p m cap c q qc l P (w.alloc (.cells #[.slice q l.length qc, .int .i64 k, .int .i64 n, .string t] 169)) (fun v hv W hW => HC v hv W (hb0.trans (hW.mono hb0.size))) (hr.next hb0) hl
  clear HC hr
  go_enter Tryz.func198, Tryz.ntmps198
  go_wp2_with fail
  refine HI.out.mono ?_
  rintro e w1 ⟨rfl, hb⟩
  have hb1 := hb0.trans (hb.mono hb0.size)
  clear HI hb
  go_wp2_with fail
  go_ret
  exact ⟨rfl, hb1⟩

set_option maxRecDepth 4000 in
set_option maxHeartbeats 1000000 in
theorem idx_size (p : Option Addr) (m cap : Nat) (c : Val) (q : Option Addr) (qc : Nat) (l : List Val) (P : Val → Bool) (w : World)
    (HC : ∀ v ∈ l, ∀ W : World, Below w.heap.size w W → Calls Tryz.prog 205 #[.agg #[.slice p m cap, .int .i64 c.k, .int .i64 c.n, .string c.t], .agg #[.int .i64 v.k, .int .i64 v.n, .string v.t]] W fun e w' => e = .returned (.bool (P v)) ∧ Below W.heap.size W w') (hr : RowV w q l) (hl : l.length ≤ 1048576) :
    Calls Tryz.prog 286 #[.slice q l.length qc, .func (.func 205) #[.agg #[.slice p m cap, .int .i64 c.k, .int .i64 c.n, .string c.t]] #[]] w fun e w' => (∃ i : Int, e = .returned (.int .i64 i) ∧ decide (0 ≤ i) = l.any P) ∧ Below w.heap.size w w' := by
  have HR : Hid (RowV _ _ _) := hr
  have HF : Hid _ := HC
  clear hr HC
  go_enter Tryz.func286, Tryz.ntmps286
  go_wp2_with fail
  go_loopw [8] (fun i wr => ∃ k : Nat, k ≤ l.length ∧ i = .int .i64 k ∧ (∀ u ∈ l.take k, P u = false) ∧ Below w.heap.size w wr) (fun i _ => l.length - (intOf i).toNat)
  case atStart => exact ⟨0, Nat.zero_le _, rfl, fun u hu => by simp at hu, Below.refl _ _⟩
  case round =>
    obtain ⟨k, hk, rfl, hall, hbel⟩ := hrel
    have HA : Hid _ := hall
    clear hall
    by_cases hlt : k < l.length
    · rcases HR.out.next hbel with h0 | ⟨g, rfl, R⟩
      · subst h0; simp at hlt
      obtain ⟨x0, x1, x2⟩ := R.cells k hlt
      have hlt2 : (k : Int) < (l.length : Int) := by omega
      have HK0 := HF.out l[k] (List.getElem_mem _)
      cases hP : P l[k]
      · rw [hP] at HK0
        have HK : Hid _ := HK0
        have HPK : Hid _ := hP
        clear R hP HK0
        go_wp2_with fail
        refine (HK.out _ hbel).mono ?_
        rintro e w1 ⟨rfl, hb⟩
        have hb1 := hbel.trans (hb.mono hbel.size)
        clear hb
        go_wp2_with fail
        go_roundw
        case rel =>
          refine ⟨k + 1, by omega, by go_num, ?_, hb1⟩
          intro u hu
          rw [List.take_succ_eq_append_getElem hlt] at hu
          rcases List.mem_append.mp hu with h | h
          · exact HA.out u h
          · simp at h; subst h; exact HPK.out
        case measure => simp [intOf]; omega
      · rw [hP] at HK0
        have HK : Hid _ := HK0
        have hal : l.any P = true := List.any_eq_true.mpr ⟨l[k], List.getElem_mem _, hP⟩
        have HL : Hid _ := hal
        clear R hP HK0 hal
        go_wp2_with fail
        refine (HK.out _ hbel).mono ?_
        rintro e w1 ⟨rfl, hb⟩
        have hb1 := hbel.trans (hb.mono hbel.size)
        clear hb
        go_wp2_with fail
        go_ret
        exact ⟨⟨k, rfl, by rw [HL.out]; exact decide_eq_true (by omega)⟩, hb1⟩
    · have hlt2 : ¬ (k : Int) < (l.length : Int) := by omega
      have hal : l.any P = false := by
        rw [Bool.eq_false_iff]; intro hh
        obtain ⟨u, hu, he⟩ := List.any_eq_true.mp hh
        have := HA.out u (by rw [List.take_of_length_le (by omega)]; exact hu)
        rw [this] at he; cases he
      have HL : Hid _ := hal
      clear hal
      go_wp2_with fail
      go_ret
      exact ⟨⟨-1, rfl, by rw [HL.out]; rfl⟩, hbel⟩
set_option maxRecDepth 4000 in
set_option maxHeartbeats 1000000 in
theorem con_size (p : Option Addr) (m cap : Nat) (c : Val) (q : Option Addr) (qc : Nat) (l : List Val) (P : Val → Bool) (w : World)
    (HC : ∀ v ∈ l, ∀ W : World, Below w.heap.size w W → Calls Tryz.prog 205 #[.agg #[.slice p m cap, .int .i64 c.k, .int .i64 c.n, .string c.t], .agg #[.int .i64 v.k, .int .i64 v.n, .string v.t]] W fun e w' => e = .returned (.bool (P v)) ∧ Below W.heap.size W w') (hr : RowV w q l) (hl : l.length ≤ 1048576) :
    Calls Tryz.prog 254 #[.slice q l.length qc, .func (.func 205) #[.agg #[.slice p m cap, .int .i64 c.k, .int .i64 c.n, .string c.t]] #[]] w fun e w' => e = .returned (.bool (l.any P)) ∧ Below w.heap.size w w' := by
  have HI : Hid (Calls _ _ _ _ _) := idx_size p m cap c q qc l P w HC hr hl
  clear HC hr
  go_enter Tryz.func254, Tryz.ntmps254
  go_wp2_with fail
  refine HI.out.mono ?_
  rintro e w1 ⟨⟨i, rfl, hi⟩, hb⟩
  have HJ : Hid _ := hi
  clear hi HI
  go_wp2_with fail
  go_ret
  exact ⟨ret_bool HJ.out, hb⟩
set_option maxRecDepth 4000 in
set_option maxHeartbeats 1000000 in
theorem some_size (p : Option Addr) (m cap : Nat) (c : Val) (q : Option Addr) (qc : Nat) (l : List Val) (P : Val → Bool) (k n : Int) (t : ByteArray) (w : World)
    (HC : ∀ v ∈ l, ∀ W : World, Below w.heap.size w W → Calls Tryz.prog 205 #[.agg #[.slice p m cap, .int .i64 c.k, .int .i64 c.n, .string c.t], .agg #[.int .i64 v.k, .int .i64 v.n, .string v.t]] W fun e w' => e = .returned (.bool (P v)) ∧ Below W.heap.size W w') (hr : RowV w q l) (hl : l.length ≤ 1048576) :
    Calls Tryz.prog 198 #[.agg #[.slice q l.length qc, .int .i64 k, .int .i64 n, .string t], .func (.func 205) #[.agg #[.slice p m cap, .int .i64 c.k, .int .i64 c.n, .string c.t]] #[]] w fun e w' => e = .returned (.bool (l.any P)) ∧ Below w.heap.size w w' := by
  have hb0 : Below w.heap.size w (w.alloc (.cells #[.slice q l.length qc, .int .i64 k, .int .i64 n, .string t] 169)) := (Below.refl _ _).alloc (Nat.le_refl _) _
  have HI : Hid (Calls _ _ _ _ _) := con_size p m cap c q qc l P (w.alloc (.cells #[.slice q l.length qc, .int .i64 k, .int .i64 n, .string t] 169)) (fun v hv W hW => HC v hv W (hb0.trans (hW.mono hb0.size))) (hr.next hb0) hl
  clear HC hr
  go_enter Tryz.func198, Tryz.ntmps198
  go_wp2_with fail
  refine HI.out.mono ?_
  rintro e w1 ⟨rfl, hb⟩
  have hb1 := hb0.trans (hb.mono hb0.size)
  clear HI hb
  go_wp2_with fail
  go_ret
  exact ⟨rfl, hb1⟩

set_option maxRecDepth 4000 in
set_option maxHeartbeats 1000000 in
theorem idx_ord (b1 b2 : Nat) (q : Option Addr) (qc : Nat) (l : List Val) (P : Val → Bool) (w : World)
    (HC : ∀ v ∈ l, ∀ W : World, Below w.heap.size w W → Calls Tryz.prog 200 #[.agg #[.int .i64 v.k, .int .i64 v.n, .string v.t], .pointer (some ⟨b1, 0, none⟩), .pointer (some ⟨b2, 0, none⟩)] W fun e w' => e = .returned (.bool (P v)) ∧ Below W.heap.size W w') (hr : RowV w q l) (hl : l.length ≤ 1048576) :
    Calls Tryz.prog 286 #[.slice q l.length qc, .func (.func 200) #[] #[.pointer (some ⟨b1, 0, none⟩), .pointer (some ⟨b2, 0, none⟩)]] w fun e w' => (∃ i : Int, e = .returned (.int .i64 i) ∧ decide (0 ≤ i) = l.any P) ∧ Below w.heap.size w w' := by
  have HR : Hid (RowV _ _ _) := hr
  have HF : Hid _ := HC
  clear hr HC
  go_enter Tryz.func286, Tryz.ntmps286
  go_wp2_with fail
  go_loopw [8] (fun i wr => ∃ k : Nat, k ≤ l.length ∧ i = .int .i64 k ∧ (∀ u ∈ l.take k, P u = false) ∧ Below w.heap.size w wr) (fun i _ => l.length - (intOf i).toNat)
  case atStart => exact ⟨0, Nat.zero_le _, rfl, fun u hu => by simp at hu, Below.refl _ _⟩
  case round =>
    obtain ⟨k, hk, rfl, hall, hbel⟩ := hrel
    have HA : Hid _ := hall
    clear hall
    by_cases hlt : k < l.length
    · rcases HR.out.next hbel with h0 | ⟨g, rfl, R⟩
      · subst h0; simp at hlt
      obtain ⟨x0, x1, x2⟩ := R.cells k hlt
      have hlt2 : (k : Int) < (l.length : Int) := by omega
      have HK0 := HF.out l[k] (List.getElem_mem _)
      cases hP : P l[k]
      · rw [hP] at HK0
        have HK : Hid _ := HK0
        have HPK : Hid _ := hP
        clear R hP HK0
        go_wp2_with fail
        refine (HK.out _ hbel).mono ?_
        rintro e w1 ⟨rfl, hb⟩
        have hb1 := hbel.trans (hb.mono hbel.size)
        clear hb
        go_wp2_with fail
        go_roundw
        case rel =>
          refine ⟨k + 1, by omega, by go_num, ?_, hb1⟩
          intro u hu
          rw [List.take_succ_eq_append_getElem hlt] at hu
          rcases List.mem_append.mp hu with h | h
          · exact HA.out u h
          · simp at h; subst h; exact HPK.out
        case measure => simp [intOf]; omega
      · rw [hP] at HK0
        have HK : Hid _ := HK0
        have hal : l.any P = true := List.any_eq_true.mpr ⟨l[k], List.getElem_mem _, hP⟩
        have HL : Hid _ := hal
        clear R hP HK0 hal
        go_wp2_with fail
        refine (HK.out _ hbel).mono ?_
        rintro e w1 ⟨rfl, hb⟩
        have hb1 := hbel.trans (hb.mono hbel.size)
        clear hb
        go_wp2_with fail
        go_ret
        exact ⟨⟨k, rfl, by rw [HL.out]; exact decide_eq_true (by omega)⟩, hb1⟩
    · have hlt2 : ¬ (k : Int) < (l.length : Int) := by omega
      have hal : l.any P = false := by
        rw [Bool.eq_false_iff]; intro hh
        obtain ⟨u, hu, he⟩ := List.any_eq_true.mp hh
        have := HA.out u (by rw [List.take_of_length_le (by omega)]; exact hu)
        rw [this] at he; cases he
      have HL : Hid _ := hal
      clear hal
      go_wp2_with fail
      go_ret
      exact ⟨⟨-1, rfl, by rw [HL.out]; rfl⟩, hbel⟩
set_option maxRecDepth 4000 in
set_option maxHeartbeats 1000000 in
theorem con_ord (b1 b2 : Nat) (q : Option Addr) (qc : Nat) (l : List Val) (P : Val → Bool) (w : World)
    (HC : ∀ v ∈ l, ∀ W : World, Below w.heap.size w W → Calls Tryz.prog 200 #[.agg #[.int .i64 v.k, .int .i64 v.n, .string v.t], .pointer (some ⟨b1, 0, none⟩), .pointer (some ⟨b2, 0, none⟩)] W fun e w' => e = .returned (.bool (P v)) ∧ Below W.heap.size W w') (hr : RowV w q l) (hl : l.length ≤ 1048576) :
    Calls Tryz.prog 254 #[.slice q l.length qc, .func (.func 200) #[] #[.pointer (some ⟨b1, 0, none⟩), .pointer (some ⟨b2, 0, none⟩)]] w fun e w' => e = .returned (.bool (l.any P)) ∧ Below w.heap.size w w' := by
  have HI : Hid (Calls _ _ _ _ _) := idx_ord b1 b2 q qc l P w HC hr hl
  clear HC hr
  go_enter Tryz.func254, Tryz.ntmps254
  go_wp2_with fail
  refine HI.out.mono ?_
  rintro e w1 ⟨⟨i, rfl, hi⟩, hb⟩
  have HJ : Hid _ := hi
  clear hi HI
  go_wp2_with fail
  go_ret
  exact ⟨ret_bool HJ.out, hb⟩
set_option maxRecDepth 4000 in
set_option maxHeartbeats 1000000 in
theorem some_ord (b1 b2 : Nat) (q : Option Addr) (qc : Nat) (l : List Val) (P : Val → Bool) (k n : Int) (t : ByteArray) (w : World)
    (HC : ∀ v ∈ l, ∀ W : World, Below w.heap.size w W → Calls Tryz.prog 200 #[.agg #[.int .i64 v.k, .int .i64 v.n, .string v.t], .pointer (some ⟨b1, 0, none⟩), .pointer (some ⟨b2, 0, none⟩)] W fun e w' => e = .returned (.bool (P v)) ∧ Below W.heap.size W w') (hr : RowV w q l) (hl : l.length ≤ 1048576) :
    Calls Tryz.prog 198 #[.agg #[.slice q l.length qc, .int .i64 k, .int .i64 n, .string t], .func (.func 200) #[] #[.pointer (some ⟨b1, 0, none⟩), .pointer (some ⟨b2, 0, none⟩)]] w fun e w' => e = .returned (.bool (l.any P)) ∧ Below w.heap.size w w' := by
  have hb0 : Below w.heap.size w (w.alloc (.cells #[.slice q l.length qc, .int .i64 k, .int .i64 n, .string t] 169)) := (Below.refl _ _).alloc (Nat.le_refl _) _
  have HI : Hid (Calls _ _ _ _ _) := con_ord b1 b2 q qc l P (w.alloc (.cells #[.slice q l.length qc, .int .i64 k, .int .i64 n, .string t] 169)) (fun v hv W hW => HC v hv W (hb0.trans (hW.mono hb0.size))) (hr.next hb0) hl
  clear HC hr
  go_enter Tryz.func198, Tryz.ntmps198
  go_wp2_with fail
  refine HI.out.mono ?_
  rintro e w1 ⟨rfl, hb⟩
  have hb1 := hb0.trans (hb.mono hb0.size)
  clear HI hb
  go_wp2_with fail
  go_ret
  exact ⟨rfl, hb1⟩

end Go.Proofs.YtkeghknceccdmaaGreatDoor
