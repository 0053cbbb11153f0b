/- Filters held against each other by the laws' own helpers: alike ones are told to be so. -/
import Derived.Test.YtbplmgmajmomcaaGreatDoorRowTQ
namespace Go.Proofs.YtbplmgmajmomcaaGreatDoor
open Go.RowKit
set_option linter.unusedVariables false

set_option maxRecDepth 4000 in
set_option maxHeartbeats 1000000 in
theorem eqClause_same (p1 p2 : Option Addr) (c1 c2 : Nat) (l : List Trm) (w : World) (h1 : RowT w p1 l) (h2 : RowT w p2 l) (hl : l.length ≤ 1048576) :
    Calls Tryz.prog 228 #[.agg #[.slice p1 l.length c1], .agg #[.slice p2 l.length c2]] w fun e w' => e = .returned (.bool true) ∧ Below w.heap.size w w' := by
  have hb0 : Below w.heap.size w ((w.alloc (.cells #[.slice p1 l.length c1] 184)).alloc (.cells #[.slice p2 l.length c2] 184)) := ((Below.refl _ _).alloc (Nat.le_refl _) _).alloc (by simp) _
  have HC : Hid (Calls _ _ _ _ _) := eqTermS_same p1 p2 c1 c2 l _ (h1.next hb0) (h2.next hb0) hl
  clear h1 h2
  go_enter Tryz.func228, Tryz.ntmps228
  go_wp2_with fail
  refine HC.out.mono ?_
  rintro e w1 ⟨rfl, hb⟩
  have hbw := hb0.trans (hb.mono hb0.size)
  clear hb HC
  go_wp2_with fail
  go_ret
  exact ⟨rfl, hbw⟩

set_option maxRecDepth 4000 in
set_option maxHeartbeats 1000000 in
theorem eqClauseS_same (p1 p2 : Option Addr) (c1 c2 : Nat) (f : List (List Trm)) (w : World) (h1 : RowC w p1 f) (h2 : RowC w p2 f) (hlen : f.length ≤ 1048576) (hs : ∀ l ∈ f, l.length ≤ 1048576) :
    Calls Tryz.prog 180 #[.slice p1 f.length c1, .slice p2 f.length c2] w fun e w' => e = .returned (.bool true) ∧ Below w.heap.size w w' := by
  have H1 : Hid (RowC _ _ _) := h1
  have H2 : Hid (RowC _ _ _) := h2
  have HS : Hid _ := hs
  clear h1 h2 hs
  go_enter Tryz.func180, Tryz.ntmps180
  go_wp2_with fail
  go_loopw [5] (fun i wr => ∃ k : Nat, k ≤ f.length ∧ i = .int .i64 k ∧ Below w.heap.size w wr) (fun i _ => f.length - (intOf i).toNat)
  case atStart => exact ⟨0, Nat.zero_le _, rfl, Below.refl _ _⟩
  case round =>
    obtain ⟨k, hk, rfl, hbel⟩ := hrel
    by_cases hlt : k < f.length
    · rcases H1.out.next hbel with h0 | ⟨g1, rfl, R1⟩
      · subst h0; simp at hlt
      rcases H2.out.next hbel with h0 | ⟨g2, rfl, R2⟩
      · subst h0; simp at hlt
      obtain ⟨pa, ca, x1, t1⟩ := R1.cells k hlt
      obtain ⟨pb, cb, x2, t2⟩ := R2.cells k hlt
      have l1 := R1.lt
      have l2 := R2.lt
      have hk1 : (k : Int) < (f.length : Int) := by omega
      have q0 : ∀ u : Under wr, u.x.cell? ⟨g1, k, none⟩ = some (.slice pa f[k].length ca) := fun u => (u.h.cell l1).trans x1
      have r0 : ∀ u : Under wr, u.x.cell? ⟨g2, k, none⟩ = some (.slice pb f[k].length cb) := fun u => (u.h.cell l2).trans x2
      have HC : Hid (∀ u : Under wr, Calls _ _ _ u.x _) := fun u => eqClause_same pa pb ca cb f[k] u.x (t1.next u.h) (t2.next u.h) (HS.out f[k] (List.getElem_mem _))
      have hnu : Nonempty (Under wr) := ⟨⟨wr, Below.refl _ _⟩⟩
      clear x1 x2 R1 R2 t1 t2
      go_wp2_with fail
      refine wp_region_under (by kernel_rfl) (by kernel_rfl) ?_
      repeat (go_big_quiet_step ((go_at_call 228; exact calls_under _ (HC.out _))))
      refine wpQuiet_nil ?_
      rintro _ ⟨u, rfl⟩
      go_wp2_with fail
      go_roundw
      case rel => exact ⟨k + 1, by omega, by go_num, hbel.trans (u.h.mono hbel.size)⟩
      case measure => simp [intOf]; omega
    · have hlt2 : ¬ (k : Int) < (f.length : Int) := by omega
      go_wp2_with fail
      go_ret
      exact ⟨rfl, hbel⟩

set_option maxRecDepth 4000 in
set_option maxHeartbeats 1000000 in
theorem eqFilter_same (p1 p2 : Option Addr) (c1 c2 : Nat) (f : List (List Trm)) (w : World) (h1 : RowC w p1 f) (h2 : RowC w p2 f) (hlen : f.length ≤ 1048576) (hs : ∀ l ∈ f, l.length ≤ 1048576) :
    Calls Tryz.prog 119 #[.agg #[.slice p1 f.length c1], .agg #[.slice p2 f.length c2]] w fun e w' => e = .returned (.bool true) ∧ Below w.heap.size w w' := by
  have hb0 : Below w.heap.size w ((w.alloc (.cells #[.slice p1 f.length c1] 56)).alloc (.cells #[.slice p2 f.length c2] 56)) := ((Below.refl _ _).alloc (Nat.le_refl _) _).alloc (by simp) _
  have HC : Hid (Calls _ _ _ _ _) := eqClauseS_same p1 p2 c1 c2 f _ (h1.next hb0) (h2.next hb0) hlen hs
  clear h1 h2
  go_enter Tryz.func119, Tryz.ntmps119
  go_wp2_with fail
  refine HC.out.mono ?_
  rintro e w1 ⟨rfl, hb⟩
  have hbw := hb0.trans (hb.mono hb0.size)
  clear hb HC
  go_wp2_with fail
  go_ret
  exact ⟨rfl, hbw⟩

end Go.Proofs.YtbplmgmajmomcaaGreatDoor
