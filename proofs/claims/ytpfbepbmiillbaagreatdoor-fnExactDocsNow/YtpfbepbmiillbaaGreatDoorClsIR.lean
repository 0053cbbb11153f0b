/- Whether rows of collections are right: what both answer. -/
import Derived.Test.YtpfbepbmiillbaaGreatDoorClsRR
import Derived.Test.YtpfbepbmiillbaaGreatDoorColSR
import Derived.BigQuiet
namespace Go.Proofs.YtpfbepbmiillbaaGreatDoor.Tx
open Go.RowKit Tr Co
set_option linter.unusedVariables false

def ltN (a b : Col) : Bool := Op.bytesLess a.name.toList b.name.toList
def riseN : Option Col → List Col → Bool
  | _, [] => true
  | none, x :: t => collB x && riseN (some x) t
  | some y, x :: t => collB x && (ltN y x && riseN (some x) t)
def lastN (l : List Col) (k : Nat) : Option Col := if k = 0 then none else l[k - 1]?
/-- Are collections right, but for how many they are. -/
def colsB (l : List Col) : Bool := riseN none l
theorem riseN_nil (o : Option Col) : riseN o [] = true := by cases o <;> rfl
theorem lastN_succ (l : List Col) (k : Nat) (h : k < l.length) : lastN l (k + 1) = some l[k] := by unfold lastN; rw [if_neg (by omega)]; simp [List.getElem?_eq_getElem h]
theorem riseN_first (l : List Col) (h : 0 < l.length) : riseN (lastN l 0) (l.drop 0) = (collB l[0] && riseN (lastN l 1) (l.drop 1)) := by
  rw [List.drop_eq_getElem_cons h, lastN_succ l 0 h]; rfl
theorem riseN_step (l : List Col) (k : Nat) (h0 : 0 < k) (h : k < l.length) : riseN (lastN l k) (l.drop k) = (collB l[k] && (ltN l[k - 1] l[k] && riseN (lastN l (k + 1)) (l.drop (k + 1)))) := by
  rw [List.drop_eq_getElem_cons h, lastN_succ l k h]
  have : lastN l k = some (l[k - 1]'(by omega)) := by have := lastN_succ l (k - 1) (by omega); rw [show k - 1 + 1 = k by omega] at this; exact this
  rw [this]; rfl
/-- Three cells in a new block. -/
theorem newThree (w : World) (a b c : Value) (T : TypeId) : ∀ u : Under (w.alloc (.cells #[a, b, c] T)), u.x.cell? ⟨w.heap.size, 0, none⟩ = some a ∧ u.x.cell? ⟨w.heap.size, 1, none⟩ = some b ∧ u.x.cell? ⟨w.heap.size, 2, none⟩ = some c := by
  intro u
  have h := fun o (v : Value) (e : (w.alloc (.cells #[a, b, c] T)).cell? ⟨w.heap.size, o, none⟩ = some v) => (u.h.cell (p := ⟨w.heap.size, o, none⟩) (by simp)).trans e
  exact ⟨h 0 _ (by simp [go_sem]), h 1 _ (by simp [go_sem]), h 2 _ (by simp [go_sem])⟩

set_option maxRecDepth 4000 in
set_option maxHeartbeats 4000000 in
theorem implColls_any (g c bs : Nat) (l : List Col) (w : World) (hr : MadeCs w bs g l) (hl : l.length ≤ 1048576) (hs : ∀ v ∈ l, SzCol v) :
    Calls Tryz.prog 39 #[.slice (some ⟨g, 0, none⟩) l.length c] w fun e w' => e = .returned (.bool (decide (l.length ≤ 3) && colsB l)) ∧ Below w.heap.size w w' := by
  have HR : Hid (MadeCs _ _ _ _) := hr
  have HS : Hid (∀ v ∈ l, SzCol v) := hs
  clear hr hs
  by_cases h3 : l.length ≤ 3
  case neg =>
    rw [decide_eq_false h3, Bool.false_and]
    have a3 : (3 : Int) < (l.length : Int) := by omega
    go_enter Tryz.func39, Tryz.ntmps39
    go_wp2_with fail
    go_ret
    exact ⟨rfl, Below.refl _ _⟩
  rw [decide_eq_true h3, Bool.true_and]
  have a3 : ¬ (3 : Int) < (l.length : Int) := by omega
  obtain ⟨R, hR⟩ : ∃ R, R = colsB l := ⟨_, rfl⟩
  rw [← hR]
  have HRR : Hid (R = riseN (lastN l 0) (l.drop 0)) := by show R = _; rw [hR]; rfl
  clear hR h3
  go_enter Tryz.func39, Tryz.ntmps39
  go_wp2_with fail
  go_loopw [10] (fun i wr => ∃ k : Nat, k ≤ l.length ∧ i = .int .i64 k ∧ R = riseN (lastN l k) (l.drop k) ∧ Below w.heap.size w wr) (fun i _ => l.length - (intOf i).toNat)
  case atStart => exact ⟨0, Nat.zero_le _, rfl, HRR.out, Below.refl _ _⟩
  case round =>
    obtain ⟨k, hk, rfl, hrk, hbel⟩ := hrel
    clear HRR
    by_cases hlt : k < l.length
    · have hlt2 : (k : Int) < (l.length : Int) := by omega
      have R1 := HR.out.next hbel
      obtain ⟨gr, gc, ⟨x0, x1, x2⟩, hch, hdf, _⟩ := R1.cells k hlt
      have hg := R1.lt
      have hsz := HS.out l[k] (List.getElem_mem _)
      obtain ⟨x, hx⟩ : ∃ x, x = l[k] := ⟨_, rfl⟩
      have HX : Hid (x = l[k]) := hx
      rw [← hx] at x0 x1 x2 hch hdf hsz
      have q := newThree wr (.string x.name) (.slice (some ⟨gr, 0, none⟩) x.chs.length x.chs.length) (.slice (some ⟨gc, 0, none⟩) x.dfs.length x.dfs.length) 63
      have ql : wr.heap.size < (wr.alloc (.cells #[.string x.name, .slice (some ⟨gr, 0, none⟩) x.chs.length x.chs.length, .slice (some ⟨gc, 0, none⟩) x.dfs.length x.dfs.length] 63)).heap.size := by simp
      have hbA : Below wr.heap.size wr (wr.alloc (.cells #[.string x.name, .slice (some ⟨gr, 0, none⟩) x.chs.length x.chs.length, .slice (some ⟨gc, 0, none⟩) x.dfs.length x.dfs.length] 63)) := (Below.refl _ _).alloc (Nat.le_refl _) _
      have HW0 := fun u : Under (wr.alloc (.cells #[.string x.name, .slice (some ⟨gr, 0, none⟩) x.chs.length x.chs.length, .slice (some ⟨gc, 0, none⟩) x.dfs.length x.dfs.length] 63)) => collOK_any x (some ⟨gr, 0, none⟩) (some ⟨gc, 0, none⟩) x.chs.length x.dfs.length u.x ((hch.next hbA).inCh.step u.h) ((hdf.next hbA).row.next u.h) hsz
      have hbel2 := hbel.trans (hbA.mono hbel.size)
      have hgA : g < (wr.alloc (.cells #[.string x.name, .slice (some ⟨gr, 0, none⟩) x.chs.length x.chs.length, .slice (some ⟨gc, 0, none⟩) x.dfs.length x.dfs.length] 63)).heap.size := Nat.lt_of_lt_of_le hg hbA.size
      have R2 := R1.next hbA
      clear hx R1 hch hdf hsz hg hbA
      cases hW : collB x
      · rw [hW] at HW0
        have HW : Hid (∀ u : Under (wr.alloc (.cells #[.string x.name, .slice (some ⟨gr, 0, none⟩) x.chs.length x.chs.length, .slice (some ⟨gc, 0, none⟩) x.dfs.length x.dfs.length] 63)), Calls _ _ _ u.x _) := HW0
        have hF : R = false := by
          rw [hrk]
          rcases Nat.eq_zero_or_pos k with rfl | h0
          · rw [riseN_first l hlt, ← HX.out, hW, Bool.false_and]
          · rw [riseN_step l k h0 hlt, ← HX.out, hW, Bool.false_and]
        have HF : Hid (R = false) := hF
        clear HW0 hW hrk hF R2
        go_wp2_with fail
        generalize wr.alloc (.cells #[.string x.name, .slice (some ⟨gr, 0, none⟩) x.chs.length x.chs.length, .slice (some ⟨gc, 0, none⟩) x.dfs.length x.dfs.length] 63) = WA at q ql HW hbel2 hgA ⊢
        have hnu : Nonempty (Under WA) := ⟨⟨WA, Below.refl _ _⟩⟩
        have q0 := fun u => (q u).1
        have q1 := fun u => (q u).2.1
        have q2 := fun u => (q u).2.2
        clear q
        refine wp_region_under (by kernel_rfl) (by kernel_rfl) ?_
        repeat (go_big_quiet_step ((go_at_call 71; exact calls_under _ (HW.out _))))
        refine wpQuiet_nil ?_
        rintro _ ⟨u, rfl⟩
        go_wp2_with fail
        go_ret
        exact ⟨by rw [HF.out]; rfl, hbel2.trans (u.h.mono hbel2.size)⟩
      · rw [hW] at HW0
        have HW : Hid (∀ u : Under (wr.alloc (.cells #[.string x.name, .slice (some ⟨gr, 0, none⟩) x.chs.length x.chs.length, .slice (some ⟨gc, 0, none⟩) x.dfs.length x.dfs.length] 63)), Calls _ _ _ u.x _) := HW0
        clear HW0
        rcases Nat.eq_zero_or_pos k with rfl | h0
        · rw [riseN_first l hlt, ← HX.out, hW, Bool.true_and] at hrk
          have HC : Hid (R = _) := hrk
          have hd0 : decide ((0 : Int) < ((0 : Nat) : Int)) = false := by decide
          clear hW hrk R2
          go_wp2_with fail
          generalize wr.alloc (.cells #[.string x.name, .slice (some ⟨gr, 0, none⟩) x.chs.length x.chs.length, .slice (some ⟨gc, 0, none⟩) x.dfs.length x.dfs.length] 63) = WA at q ql HW hbel2 hgA ⊢
          have hnu : Nonempty (Under WA) := ⟨⟨WA, Below.refl _ _⟩⟩
          have q0 := fun u => (q u).1
          have q1 := fun u => (q u).2.1
          have q2 := fun u => (q u).2.2
          clear q
          refine wp_region_under (by kernel_rfl) (by kernel_rfl) ?_
          repeat (go_big_quiet_step ((go_at_call 71; exact calls_under _ (HW.out _))))
          refine wpQuiet_nil ?_
          rintro _ ⟨u, rfl⟩
          go_wp2_with fail
          go_roundw
          case rel => exact ⟨0 + 1, by omega, by go_num, HC.out, hbel2.trans (u.h.mono hbel2.size)⟩
          case measure => simp [intOf]; omega
        · have h0' : (0 : Int) < (k : Int) := by omega
          have hd0 : decide ((0 : Int) < (k : Int)) = true := decide_eq_true h0'
          have hk1 : k - 1 < l.length := by omega
          rw [riseN_step l k h0 hlt, ← HX.out, hW, Bool.true_and] at hrk
          obtain ⟨_, _, ⟨y0, _, _⟩, _, _, _⟩ := R2.cells (k - 1) hk1
          obtain ⟨y, hy⟩ : ∃ y, y = l[k - 1] := ⟨_, rfl⟩
          rw [← hy] at y0 hrk
          have HRK : Hid (R = (ltN y x && riseN (lastN l (k + 1)) (l.drop (k + 1)))) := hrk
          have hcmp : (Op.bytesLess x.name.toList y.name.toList || x.name.toList == y.name.toList) = !(ltN y x) := Tr.less_total _ _
          clear hW hy R2 hrk
          cases hL : ltN y x
          · have hF : R = false := by rw [HRK.out, hL, Bool.false_and]
            have HF : Hid (R = false) := hF
            rw [hL] at hcmp
            simp only [Bool.not_false] at hcmp
            clear hL HRK hF
            go_wp2_with fail
            generalize wr.alloc (.cells #[.string x.name, .slice (some ⟨gr, 0, none⟩) x.chs.length x.chs.length, .slice (some ⟨gc, 0, none⟩) x.dfs.length x.dfs.length] 63) = WA at q ql y0 HW hbel2 hgA ⊢
            have hnu : Nonempty (Under WA) := ⟨⟨WA, Below.refl _ _⟩⟩
            have q0 := fun u => (q u).1
            have q1 := fun u => (q u).2.1
            have q2 := fun u => (q u).2.2
            clear q
            have p0 : ∀ u : Under WA, u.x.cell? ⟨g, (k - 1) * 3, none⟩ = some (.string y.name) := fun u => (u.h.cell hgA).trans y0
            clear y0
            refine wp_region_under (by kernel_rfl) (by kernel_rfl) ?_
            repeat (go_big_quiet_step ((go_at_call 71; exact calls_under _ (HW.out _))))
            refine wpQuiet_nil ?_
            rintro _ ⟨u, rfl⟩
            go_wp2_with fail
            go_ret
            exact ⟨by rw [HF.out]; rfl, hbel2.trans (u.h.mono hbel2.size)⟩
          · have hN : R = riseN (lastN l (k + 1)) (l.drop (k + 1)) := by rw [HRK.out, hL, Bool.true_and]
            have HC : Hid (R = _) := hN
            rw [hL] at hcmp
            simp only [Bool.not_true] at hcmp
            clear hL HRK hN
            go_wp2_with fail
            generalize wr.alloc (.cells #[.string x.name, .slice (some ⟨gr, 0, none⟩) x.chs.length x.chs.length, .slice (some ⟨gc, 0, none⟩) x.dfs.length x.dfs.length] 63) = WA at q ql y0 HW hbel2 hgA ⊢
            have hnu : Nonempty (Under WA) := ⟨⟨WA, Below.refl _ _⟩⟩
            have q0 := fun u => (q u).1
            have q1 := fun u => (q u).2.1
            have q2 := fun u => (q u).2.2
            clear q
            have p0 : ∀ u : Under WA, u.x.cell? ⟨g, (k - 1) * 3, none⟩ = some (.string y.name) := fun u => (u.h.cell hgA).trans y0
            clear y0
            refine wp_region_under (by kernel_rfl) (by kernel_rfl) ?_
            repeat (go_big_quiet_step ((go_at_call 71; exact calls_under _ (HW.out _))))
            refine wpQuiet_nil ?_
            rintro _ ⟨u, rfl⟩
            go_wp2_with fail
            go_roundw
            case rel => exact ⟨k + 1, by omega, by go_num, HC.out, hbel2.trans (u.h.mono hbel2.size)⟩
            case measure => simp [intOf]; omega
    · have hlt2 : ¬ (k : Int) < (l.length : Int) := by omega
      have hT : R = true := by rw [hrk, List.drop_of_length_le (by omega), riseN_nil]
      have HT : Hid (R = true) := hT
      clear hrk hT
      go_wp2_with fail
      go_ret
      exact ⟨by rw [HT.out]; rfl, hbel⟩

set_option maxRecDepth 4000 in
set_option maxHeartbeats 4000000 in
theorem specColls_any (g c bs : Nat) (l : List Col) (w : World) (hr : MadeCs w bs g l) (hl : l.length ≤ 1048576) (hs : ∀ v ∈ l, SzCol v) :
    Calls Tryz.prog 32 #[.slice (some ⟨g, 0, none⟩) l.length c] w fun e w' => e = .returned (.bool (decide (l.length ≤ 3) && colsB l)) ∧ Below w.heap.size w w' := by
  have HR : Hid (MadeCs _ _ _ _) := hr
  have HS : Hid (∀ v ∈ l, SzCol v) := hs
  clear hr hs
  obtain ⟨R0, hR0⟩ : ∃ R0, R0 = (decide (l.length ≤ 3) && colsB l) := ⟨_, rfl⟩
  rw [← hR0]
  obtain ⟨R, hR⟩ : ∃ R, R = colsB l := ⟨_, rfl⟩
  rw [← hR] at hR0
  have HR0 : Hid (R0 = (decide (l.length ≤ 3) && R)) := hR0
  have HRR : Hid (R = riseN (lastN l 0) (l.drop 0)) := by show R = _; rw [hR]; rfl
  clear hR hR0
  go_enter Tryz.func32, Tryz.ntmps32
  go_wp2_with fail
  go_loopw [3] (fun i wr => ∃ k : Nat, k ≤ l.length ∧ i = .int .i64 k ∧ R = riseN (lastN l k) (l.drop k) ∧ Below w.heap.size w wr) (fun i _ => l.length - (intOf i).toNat)
  case atStart => exact ⟨0, Nat.zero_le _, rfl, HRR.out, Below.refl _ _⟩
  case round =>
    obtain ⟨k, hk, rfl, hrk, hbel⟩ := hrel
    clear HRR
    by_cases hlt : k < l.length
    · have hlt2 : (k : Int) < (l.length : Int) := by omega
      have R1 := HR.out.next hbel
      obtain ⟨gr, gc, ⟨x0, x1, x2⟩, hch, hdf, _⟩ := R1.cells k hlt
      have hg := R1.lt
      have hsz := HS.out l[k] (List.getElem_mem _)
      obtain ⟨x, hx⟩ : ∃ x, x = l[k] := ⟨_, rfl⟩
      have HX : Hid (x = l[k]) := hx
      rw [← hx] at x0 x1 x2 hch hdf hsz
      have hbA : Below wr.heap.size wr wr := Below.refl _ _
      have HW0 := fun u : Under wr => specColl_any x (some ⟨gr, 0, none⟩) (some ⟨gc, 0, none⟩) x.chs.length x.dfs.length u.x ((hch.next hbA).inCh.step u.h) ((hdf.next hbA).row.next u.h) hsz
      have hbel2 := hbel.trans (hbA.mono hbel.size)
      have hgA : g < wr.heap.size := Nat.lt_of_lt_of_le hg hbA.size
      have R2 := R1.next hbA
      clear hx R1 hch hdf hsz hg hbA
      cases hW : collB x
      · rw [hW] at HW0
        have HW : Hid (∀ u : Under wr, Calls _ _ _ u.x _) := HW0
        have hF : R = false := by
          rw [hrk]
          rcases Nat.eq_zero_or_pos k with rfl | h0
          · rw [riseN_first l hlt, ← HX.out, hW, Bool.false_and]
          · rw [riseN_step l k h0 hlt, ← HX.out, hW, Bool.false_and]
        have HF : Hid (R0 = false) := by show R0 = false; rw [HR0.out, show R = false from hF, Bool.and_false]
        clear HW0 hW hrk hF R2
        go_wp2_with fail
        obtain ⟨WA, hWA⟩ : ∃ WA, WA = wr := ⟨_, rfl⟩
        rw [← hWA] at x0 x1 x2 HW hbel2 hgA ⊢
        clear hWA
        have hnu : Nonempty (Under WA) := ⟨⟨WA, Below.refl _ _⟩⟩
        have q0 : ∀ u : Under WA, u.x.cell? ⟨g, k * 3, none⟩ = some (.string x.name) := fun u => (u.h.cell hgA).trans x0
        have q1 : ∀ u : Under WA, u.x.cell? ⟨g, k * 3 + 1, none⟩ = some (.slice (some ⟨gr, 0, none⟩) x.chs.length x.chs.length) := fun u => (u.h.cell hgA).trans x1
        have q2 : ∀ u : Under WA, u.x.cell? ⟨g, k * 3 + 2, none⟩ = some (.slice (some ⟨gc, 0, none⟩) x.dfs.length x.dfs.length) := fun u => (u.h.cell hgA).trans x2
        clear x0 x1 x2
        refine wp_region_under (by kernel_rfl) (by kernel_rfl) ?_
        repeat (go_big_quiet_step ((go_at_call 63; exact calls_under _ (HW.out _))))
        refine wpQuiet_nil ?_
        rintro _ ⟨u, rfl⟩
        go_wp2_with fail
        go_ret
        exact ⟨by rw [HF.out]; rfl, hbel2.trans (u.h.mono hbel2.size)⟩
      · rw [hW] at HW0
        have HW : Hid (∀ u : Under wr, Calls _ _ _ u.x _) := HW0
        clear HW0
        rcases Nat.eq_zero_or_pos k with rfl | h0
        · rw [riseN_first l hlt, ← HX.out, hW, Bool.true_and] at hrk
          have HC : Hid (R = _) := hrk
          have hd0 : decide ((0 : Int) < ((0 : Nat) : Int)) = false := by decide
          clear hW hrk R2
          go_wp2_with fail
          obtain ⟨WA, hWA⟩ : ∃ WA, WA = wr := ⟨_, rfl⟩
          rw [← hWA] at x0 x1 x2 HW hbel2 hgA ⊢
          clear hWA
          have hnu : Nonempty (Under WA) := ⟨⟨WA, Below.refl _ _⟩⟩
          have q0 : ∀ u : Under WA, u.x.cell? ⟨g, 0 * 3, none⟩ = some (.string x.name) := fun u => (u.h.cell hgA).trans x0
          have q1 : ∀ u : Under WA, u.x.cell? ⟨g, 0 * 3 + 1, none⟩ = some (.slice (some ⟨gr, 0, none⟩) x.chs.length x.chs.length) := fun u => (u.h.cell hgA).trans x1
          have q2 : ∀ u : Under WA, u.x.cell? ⟨g, 0 * 3 + 2, none⟩ = some (.slice (some ⟨gc, 0, none⟩) x.dfs.length x.dfs.length) := fun u => (u.h.cell hgA).trans x2
          clear x0 x1 x2
          refine wp_region_under (by kernel_rfl) (by kernel_rfl) ?_
          repeat (go_big_quiet_step ((go_at_call 63; exact calls_under _ (HW.out _))))
          refine wpQuiet_nil ?_
          rintro _ ⟨u, rfl⟩
          go_wp2_with fail
          go_roundw
          case rel => exact ⟨0 + 1, by omega, by go_num, HC.out, hbel2.trans (u.h.mono hbel2.size)⟩
          case measure => simp [intOf]; omega
        · have h0' : (0 : Int) < (k : Int) := by omega
          have hd0 : decide ((0 : Int) < (k : Int)) = true := decide_eq_true h0'
          have hk1 : k - 1 < l.length := by omega
          rw [riseN_step l k h0 hlt, ← HX.out, hW, Bool.true_and] at hrk
          obtain ⟨_, _, ⟨y0, _, _⟩, _, _, _⟩ := R2.cells (k - 1) hk1
          obtain ⟨y, hy⟩ : ∃ y, y = l[k - 1] := ⟨_, rfl⟩
          rw [← hy] at y0 hrk
          have HRK : Hid (R = (ltN y x && riseN (lastN l (k + 1)) (l.drop (k + 1)))) := hrk
          have hcmp : (!(Op.bytesLess y.name.toList x.name.toList)) = !(ltN y x) := rfl
          clear hW hy R2 hrk
          cases hL : ltN y x
          · have hF : R = false := by rw [HRK.out, hL, Bool.false_and]
            have HF : Hid (R0 = false) := by show R0 = false; rw [HR0.out, show R = false from hF, Bool.and_false]
            rw [hL] at hcmp
            simp only [Bool.not_false] at hcmp
            clear hL HRK hF
            go_wp2_with fail
            obtain ⟨WA, hWA⟩ : ∃ WA, WA = wr := ⟨_, rfl⟩
            rw [← hWA] at x0 x1 x2 y0 HW hbel2 hgA ⊢
            clear hWA
            have hnu : Nonempty (Under WA) := ⟨⟨WA, Below.refl _ _⟩⟩
            have q0 : ∀ u : Under WA, u.x.cell? ⟨g, k * 3, none⟩ = some (.string x.name) := fun u => (u.h.cell hgA).trans x0
            have q1 : ∀ u : Under WA, u.x.cell? ⟨g, k * 3 + 1, none⟩ = some (.slice (some ⟨gr, 0, none⟩) x.chs.length x.chs.length) := fun u => (u.h.cell hgA).trans x1
            have q2 : ∀ u : Under WA, u.x.cell? ⟨g, k * 3 + 2, none⟩ = some (.slice (some ⟨gc, 0, none⟩) x.dfs.length x.dfs.length) := fun u => (u.h.cell hgA).trans x2
            clear x0 x1 x2
            have p0 : ∀ u : Under WA, u.x.cell? ⟨g, (k - 1) * 3, none⟩ = some (.string y.name) := fun u => (u.h.cell hgA).trans y0
            clear y0
            refine wp_region_under (by kernel_rfl) (by kernel_rfl) ?_
            repeat (go_big_quiet_step ((go_at_call 63; exact calls_under _ (HW.out _))))
            refine wpQuiet_nil ?_
            rintro _ ⟨u, rfl⟩
            go_wp2_with fail
            go_ret
            exact ⟨by rw [HF.out]; rfl, hbel2.trans (u.h.mono hbel2.size)⟩
          · have hN : R = riseN (lastN l (k + 1)) (l.drop (k + 1)) := by rw [HRK.out, hL, Bool.true_and]
            have HC : Hid (R = _) := hN
            rw [hL] at hcmp
            simp only [Bool.not_true] at hcmp
            clear hL HRK hN
            go_wp2_with fail
            obtain ⟨WA, hWA⟩ : ∃ WA, WA = wr := ⟨_, rfl⟩
            rw [← hWA] at x0 x1 x2 y0 HW hbel2 hgA ⊢
            clear hWA
            have hnu : Nonempty (Under WA) := ⟨⟨WA, Below.refl _ _⟩⟩
            have q0 : ∀ u : Under WA, u.x.cell? ⟨g, k * 3, none⟩ = some (.string x.name) := fun u => (u.h.cell hgA).trans x0
            have q1 : ∀ u : Under WA, u.x.cell? ⟨g, k * 3 + 1, none⟩ = some (.slice (some ⟨gr, 0, none⟩) x.chs.length x.chs.length) := fun u => (u.h.cell hgA).trans x1
            have q2 : ∀ u : Under WA, u.x.cell? ⟨g, k * 3 + 2, none⟩ = some (.slice (some ⟨gc, 0, none⟩) x.dfs.length x.dfs.length) := fun u => (u.h.cell hgA).trans x2
            clear x0 x1 x2
            have p0 : ∀ u : Under WA, u.x.cell? ⟨g, (k - 1) * 3, none⟩ = some (.string y.name) := fun u => (u.h.cell hgA).trans y0
            clear y0
            refine wp_region_under (by kernel_rfl) (by kernel_rfl) ?_
            repeat (go_big_quiet_step ((go_at_call 63; exact calls_under _ (HW.out _))))
            refine wpQuiet_nil ?_
            rintro _ ⟨u, rfl⟩
            go_wp2_with fail
            go_roundw
            case rel => exact ⟨k + 1, by omega, by go_num, HC.out, hbel2.trans (u.h.mono hbel2.size)⟩
            case measure => simp [intOf]; omega
    · have hlt2 : ¬ (k : Int) < (l.length : Int) := by omega
      have hT : R = true := by rw [hrk, List.drop_of_length_le (by omega), riseN_nil]
      have HT : Hid (R0 = decide (l.length ≤ 3)) := by show R0 = _; rw [HR0.out, hT, Bool.and_true]
      clear hrk hT
      by_cases h3 : l.length ≤ 3
      · have a3 : (l.length : Int) ≤ 3 := by omega
        have HT2 : Hid (R0 = true) := by show R0 = true; rw [HT.out, decide_eq_true h3]
        go_wp2_with fail
        go_ret
        exact ⟨by rw [HT2.out]; simp, hbel⟩
      · have a3 : ¬ (l.length : Int) ≤ 3 := by omega
        have HT2 : Hid (R0 = false) := by show R0 = false; rw [HT.out, decide_eq_false h3]
        go_wp2_with fail
        go_ret
        exact ⟨by rw [HT2.out]; simp, hbel⟩

end Go.Proofs.YtpfbepbmiillbaaGreatDoor.Tx
