/- What the laws' own helpers on rows of fields answer. -/
import Derived.Test.YtkdigdoomnafbaaMarks
namespace Go.Proofs.Ytkdigdoomnafbaa
open Go.RowKit
set_option linter.unusedVariables false

/-- A row of fields that stands at a block's head. -/
structure ReadF (w : World) (g : Nat) (l : List Fld) : Prop where
  lt : g < w.heap.size
  cells : ∀ i (h : i < l.length), w.cell? ⟨g, i * 4, none⟩ = some (.string l[i].name) ∧ w.cell? ⟨g, i * 4 + 1, none⟩ = some (.int .i64 l[i].v.k) ∧ w.cell? ⟨g, i * 4 + 2, none⟩ = some (.int .i64 l[i].v.n) ∧ w.cell? ⟨g, i * 4 + 3, none⟩ = some (.string l[i].v.t)
theorem ReadF.step {w w' : World} {g base : Nat} {l : List Fld} (h : ReadF w g l) (hb : Below base w w') (hg : g < base) : ReadF w' g l :=
  ⟨Nat.lt_of_lt_of_le h.lt hb.size, fun i hi => ⟨(hb.cell hg).trans (h.cells i hi).1, (hb.cell hg).trans (h.cells i hi).2.1, (hb.cell hg).trans (h.cells i hi).2.2.1, (hb.cell hg).trans (h.cells i hi).2.2.2⟩⟩
theorem ReadF.next {w w' : World} {g : Nat} {l : List Fld} (h : ReadF w g l) (hb : Below w.heap.size w w') : ReadF w' g l := h.step hb h.lt
theorem ReadF.of_own {w : World} {base g cap : Nat} {l : List Fld} (h : w.ownsRow base 82 4 (.slice (some ⟨g, 0, none⟩) l.length cap) l.length (flatF l)) : ReadF w g l :=
  ⟨(h.lt g rfl).2, fun i hi => ⟨owns_cell h _ _ (flatF_get l i hi).1, owns_cell h _ _ (flatF_get l i hi).2.1, owns_cell h _ _ (flatF_get l i hi).2.2.1, owns_cell h _ _ (flatF_get l i hi).2.2.2⟩⟩
theorem flatF_cons (f : Fld) (l : List Fld) : flatF (f :: l) = .string f.name :: .int .i64 f.v.k :: .int .i64 f.v.n :: .string f.v.t :: flatF l := rfl
theorem flatF_set : ∀ (l : List Fld) (k : Nat) (f : Fld), k < l.length → ((((flatF l).set (k * 4) (.string f.name)).set (k * 4 + 1) (.int .i64 f.v.k)).set (k * 4 + 2) (.int .i64 f.v.n)).set (k * 4 + 3) (.string f.v.t) = flatF (l.set k f)
  | [], k, f, h => by simp at h
  | u :: l, 0, f, _ => rfl
  | u :: l, k + 1, f, h => by
    rw [List.set_cons_succ, flatF_cons, flatF_cons, ← flatF_set l k f (by simpa using h)]
    rw [show (k + 1) * 4 = k * 4 + 1 + 1 + 1 + 1 by omega]
    rfl

set_option maxRecDepth 4000 in
set_option maxHeartbeats 1000000 in
theorem eqField_same (m : ByteArray) (k n : Int) (t : ByteArray) (w : World) :
    Calls Try.prog 75 #[.agg #[.string m, .int .i64 k, .int .i64 n, .string t], .agg #[.string m, .int .i64 k, .int .i64 n, .string t]] w fun e w' => e = .returned (.bool true) ∧ Below w.heap.size w w' := by
  go_enter Try.func75, Try.ntmps75
  go_wp2_with (go_at_call 27; refine (eqValue_same k n t _).mono ?_; rintro e w1 ⟨rfl, hb⟩)
  go_ret
  exact ⟨rfl, (((Below.refl _ _).alloc (Nat.le_refl _) _).alloc (by simp) _).trans (hb.mono (by simp; omega))⟩
set_option maxRecDepth 4000 in
set_option maxHeartbeats 1000000 in
theorem eqFieldS_nil (a b : Option Addr) (c d : Nat) (w : World) : Calls Try.prog 41 #[.slice a 0 c, .slice b 0 d] w fun e w' => e = .returned (.bool true) ∧ Below w.heap.size w w' := by
  go_enter Try.func41, Try.ntmps41
  go_wp2_with fail
  refine wp_loop_rounds 1 ?_
  rw [rounds_succ]
  go_wp2_with fail
  go_ret
  exact ⟨rfl, Below.refl _ _⟩
set_option maxRecDepth 4000 in
set_option maxHeartbeats 1000000 in
theorem eqFieldS_same (g1 c1 g2 c2 : Nat) (l : List Fld) (w : World) (h1 : ReadF w g1 l) (h2 : ReadF w g2 l) (hlen : l.length ≤ 1048576) :
    Calls Try.prog 41 #[.slice (some ⟨g1, 0, none⟩) l.length c1, .slice (some ⟨g2, 0, none⟩) l.length c2] w fun e w' => e = .returned (.bool true) ∧ Below w.heap.size w w' := by
  have H1 : Hid _ := h1
  have H2 : Hid _ := h2
  clear h1 h2
  go_enter Try.func41, Try.ntmps41
  go_wp2_with fail
  go_loopw [5] (fun i wr => ∃ k : Nat, k ≤ l.length ∧ i = .int .i64 k ∧ Below w.heap.size w wr) (fun i _ => l.length - (intOf i).toNat)
  case atStart => exact ⟨0, Nat.zero_le _, rfl, Below.refl _ _⟩
  case round =>
    obtain ⟨k, hk, rfl, hbel⟩ := hrel
    by_cases hlt : k < l.length
    · have x1 := (H1.out.next hbel).cells k hlt
      have x2 := (H2.out.next hbel).cells k hlt
      have l1 := (H1.out.next hbel).lt
      have l2 := (H2.out.next hbel).lt
      have hk1 : (k : Int) < (l.length : Int) := by omega
      have q0 : ∀ u : Under wr, u.x.cell? ⟨g1, k * 4, none⟩ = some (.string l[k].name) := fun u => (u.h.cell l1).trans x1.1
      have q1 : ∀ u : Under wr, u.x.cell? ⟨g1, k * 4 + 1, none⟩ = some (.int .i64 l[k].v.k) := fun u => (u.h.cell l1).trans x1.2.1
      have q2 : ∀ u : Under wr, u.x.cell? ⟨g1, k * 4 + 2, none⟩ = some (.int .i64 l[k].v.n) := fun u => (u.h.cell l1).trans x1.2.2.1
      have q3 : ∀ u : Under wr, u.x.cell? ⟨g1, k * 4 + 3, none⟩ = some (.string l[k].v.t) := fun u => (u.h.cell l1).trans x1.2.2.2
      have r0 : ∀ u : Under wr, u.x.cell? ⟨g2, k * 4, none⟩ = some (.string l[k].name) := fun u => (u.h.cell l2).trans x2.1
      have r1 : ∀ u : Under wr, u.x.cell? ⟨g2, k * 4 + 1, none⟩ = some (.int .i64 l[k].v.k) := fun u => (u.h.cell l2).trans x2.2.1
      have r2 : ∀ u : Under wr, u.x.cell? ⟨g2, k * 4 + 2, none⟩ = some (.int .i64 l[k].v.n) := fun u => (u.h.cell l2).trans x2.2.2.1
      have r3 : ∀ u : Under wr, u.x.cell? ⟨g2, k * 4 + 3, none⟩ = some (.string l[k].v.t) := fun u => (u.h.cell l2).trans x2.2.2.2
      have hnu : Nonempty (Under wr) := ⟨⟨wr, Below.refl _ _⟩⟩
      clear x1 x2
      go_wp2_with fail
      refine wp_region_under (by kernel_rfl) (by kernel_rfl) ?_
      repeat (go_big_quiet_step ((go_at_call 75; exact calls_under _ (eqField_same l[k].name l[k].v.k l[k].v.n l[k].v.t _))))
      refine wpQuiet_nil ?_
      rintro _ ⟨u, rfl⟩
      go_wp2_with fail
      go_roundw
      case rel => exact ⟨k + 1, by omega, by go_num, hbel.trans (u.h.mono hbel.size)⟩
      case measure => simp [intOf]; omega
    · go_wp2_with fail
      go_ret
      exact ⟨rfl, hbel⟩

/-- The field that marks place number i. -/
def markF (i : Nat) : Fld := ⟨mt (1 + 4 * (i : Int)).toNat, ⟨1 + 4 * (i : Int) + 1, 1 + 4 * (i : Int) + 1 + 1, mt (1 + 4 * (i : Int) + 1 + 1 + 1).toNat⟩⟩
def marksF (n : Nat) : List Fld := (List.range n).map markF
theorem marksF_len (n : Nat) : (marksF n).length = n := by unfold marksF; simp
theorem marksF_get (n i : Nat) (h : i < (marksF n).length) : (marksF n)[i] = markF i := by simp [marksF]
def markMixF (l : List Fld) (k : Nat) : List Fld := marksF k ++ l.drop k
theorem markMixF_len (l : List Fld) (k : Nat) (h : k ≤ l.length) : (markMixF l k).length = l.length := by unfold markMixF; rw [List.length_append, marksF_len, List.length_drop]; omega
theorem markMixF_zero (l : List Fld) : markMixF l 0 = l := by unfold markMixF marksF; simp
theorem markMixF_full (l : List Fld) : markMixF l l.length = marksF l.length := by unfold markMixF; simp
theorem markMixF_set (l : List Fld) (k : Nat) (h : k < l.length) : (markMixF l k).set k (markF k) = markMixF l (k + 1) := by
  unfold markMixF
  rw [List.set_append_right _ _ (by rw [marksF_len]; omega), marksF_len, Nat.sub_self]
  have e : marksF (k + 1) = marksF k ++ [markF k] := by unfold marksF; rw [List.range_succ, List.map_append]; rfl
  rw [e, List.append_assoc]
  congr 1
  rw [List.drop_eq_getElem_cons h]; rfl
theorem readMarksF {w : World} {base g c : Nat} (n : Nat) (h : w.ownsRow base 82 4 (.slice (some ⟨g, 0, none⟩) n c) n (flatF (marksF n))) : ReadF w g (marksF n) :=
  ReadF.of_own (l := marksF n) (cap := c) (base := base) (by rw [marksF_len]; exact h)

set_option maxRecDepth 4000 in
set_option maxHeartbeats 1000000 in
theorem markFieldS_nil (a : Option Addr) (c : Nat) (w : World) : Calls Try.prog 44 #[.slice a 0 c, .int .i64 1] w fun e w' => e = .returned (.int .i64 1) ∧ Below w.heap.size w w' := by
  go_enter Try.func44, Try.ntmps44
  go_wp2_with fail
  refine wp_loop_rounds 1 ?_
  rw [rounds_succ]
  go_wp2_with fail
  go_ret
  exact ⟨rfl, Below.refl _ _⟩
set_option maxRecDepth 4000 in
set_option maxHeartbeats 1000000 in
theorem heldFieldS_nil (a : Option Addr) (c : Nat) (w : World) : Calls Try.prog 45 #[.slice a 0 c, .int .i64 1] w fun e w' => e = .returned (.int .i64 1) ∧ Below w.heap.size w w' := by
  go_enter Try.func45, Try.ntmps45
  go_wp2_with fail
  refine wp_loop_rounds 1 ?_
  rw [rounds_succ]
  go_wp2_with fail
  go_ret
  exact ⟨rfl, Below.refl _ _⟩
theorem own_there {w : World} {base g c n : Nat} {e : TypeId} {size : Nat} {xs : List Value} (h : w.ownsRow base e size (.slice (some ⟨g, 0, none⟩) n c) n xs) (j : Nat) (hj : j < n * size) : ∃ u, w.cell? ⟨g, j, none⟩ = some u := by
  have := World.ownsRow.cellAt h j hj
  rw [this]
  exact ⟨_, List.getElem?_eq_getElem (by have := h.1; omega)⟩

set_option maxRecDepth 4000 in
set_option maxHeartbeats 2000000 in
theorem markFieldS_any (base g c : Nat) (l : List Fld) (w : World) (hown : w.ownsRow base 82 4 (.slice (some ⟨g, 0, none⟩) l.length c) l.length (flatF l)) (hl : l.length ≤ 1000) (hbase : base ≤ w.heap.size) :
    Calls Try.prog 44 #[.slice (some ⟨g, 0, none⟩) l.length c, .int .i64 1] w fun e w' => e = .returned (.int .i64 (1 + 4 * l.length)) ∧ w'.ownsRow base 82 4 (.slice (some ⟨g, 0, none⟩) l.length c) l.length (flatF (marksF l.length)) ∧ Below base w w' := by
  have hgb : base ≤ g := (hown.lt g rfl).1
  have HO0 : Hid _ := hown
  clear hown
  go_enter Try.func44, Try.ntmps44
  go_wp2_with fail
  go_loopw [1, 5] (fun q i wr => ∃ k : Nat, k ≤ l.length ∧ i = .int .i64 k ∧ q = .int .i64 (1 + 4 * (k : Int)) ∧ wr.ownsRow base 82 4 (.slice (some ⟨g, 0, none⟩) l.length c) l.length (flatF (markMixF l k)) ∧ Below base w wr) (fun _ i _ => l.length - (intOf i).toNat)
  case atStart => exact ⟨0, Nat.zero_le _, rfl, rfl, by rw [markMixF_zero]; exact HO0.out, Below.refl _ _⟩
  case round =>
    obtain ⟨k, hk, rfl, rfl, hown, hbel⟩ := hrel
    have HB : Hid _ := hbel
    have hz := hbel.size
    by_cases hlt : k < l.length
    · have hm := markMixF_len l k hk
      have hgl : g < wr.heap.size := (hown.lt g rfl).2
      have he : ((((flatF (markMixF l k)).set (k * 4) (.string (mt (1 + 4 * (k : Int)).toNat))).set (k * 4 + 1) (.int .i64 (1 + 4 * (k : Int) + 1))).set (k * 4 + 2) (.int .i64 (1 + 4 * (k : Int) + 1 + 1))).set (k * 4 + 3) (.string (mt (1 + 4 * (k : Int) + 1 + 1 + 1).toNat)) = flatF (markMixF l (k + 1)) := by
        rw [← markMixF_set l k hlt]; exact flatF_set (markMixF l k) k (markF k) (by omega)
      have HO : Hid _ := hown
      have HE : Hid _ := he
      clear hown hbel hm HO0 he
      go_wp2_with fail
      refine (markText_int _ (by omega) (by omega) _).mono ?_
      rintro e w2 ⟨rfl, hb2⟩
      have hown2 := owns_below HO.out hb2
      obtain ⟨z0, y0⟩ := own_there hown2 (k * 4) (by omega)
      obtain ⟨z1, y1⟩ := own_there hown2 (k * 4 + 1) (by omega)
      obtain ⟨z2, y2⟩ := own_there hown2 (k * 4 + 2) (by omega)
      have f0 := World.ownsRow.frozenAt hown2 (k * 4)
      have f1 := World.ownsRow.frozenAt hown2 (k * 4 + 1)
      have f2 := World.ownsRow.frozenAt hown2 (k * 4 + 2)
      have hst := (World.ownsRow.stored ((World.ownsRow.stored ((World.ownsRow.stored hown2 (k * 4) (.string (mt (1 + 4 * (k : Int)).toNat))).1) (k * 4 + 1) (.int .i64 (1 + 4 * (k : Int) + 1))).1) (k * 4 + 2) (.int .i64 (1 + 4 * (k : Int) + 1 + 1))).1
      have HS : Hid _ := hst
      have hb0 : Below base w w2 := HB.out.trans (hb2.mono (by omega))
      have HB0 : Hid _ := hb0
      have hz0 := hb0.size
      have hgl2 : g < w2.heap.size := Nat.lt_of_lt_of_le hgl hb2.size
      clear hst hown2 hb2 hb0
      go_wp2_with fail
      refine (markText_int _ (by omega) (by omega) _).mono ?_
      rintro e w3 ⟨rfl, hb3⟩
      have hown3 := owns_below HS.out hb3
      obtain ⟨z3, v3⟩ := own_there hown3 (k * 4 + 3) (by omega)
      have f3 := World.ownsRow.frozenAt hown3 (k * 4 + 3)
      have hst2 := (World.ownsRow.stored hown3 (k * 4 + 3) (.string (mt (1 + 4 * (k : Int) + 1 + 1 + 1).toNat))).1
      rw [HE.out] at hst2
      have HS2 : Hid _ := hst2
      have hb4 : Below base w w3 := (((HB0.out.setCell hgb _).setCell hgb _).setCell hgb _).trans (hb3.mono (by simp; omega))
      have HB3 : Hid _ := hb4
      have hz3 := hb4.size
      clear hown3 hst2 hb4 hb3 HS HE y0 y1 y2 f0 f1 f2
      go_wp2_with fail
      go_roundw
      case rel => exact ⟨k + 1, by omega, by go_num, by go_num, HS2.out, HB3.out.setCell hgb _⟩
      case measure => simp [intOf]; omega
    · have hke : k = l.length := by omega
      subst hke
      rw [markMixF_full] at hown
      clear HO0
      go_wp2_with fail
      go_ret
      exact ⟨rfl, hown, HB.out⟩

set_option maxRecDepth 4000 in
set_option maxHeartbeats 2000000 in
theorem heldFieldS_any (g c n : Nat) (w : World) (hr : ReadF w g (marksF n)) (hl : n ≤ 1000) :
    Calls Try.prog 45 #[.slice (some ⟨g, 0, none⟩) n c, .int .i64 1] w fun e w' => e = .returned (.int .i64 (1 + 4 * n)) ∧ Below w.heap.size w w' := by
  have HR : Hid _ := hr
  clear hr
  go_enter Try.func45, Try.ntmps45
  go_wp2_with fail
  go_loopw [1, 5] (fun q i wr => ∃ k : Nat, k ≤ n ∧ i = .int .i64 k ∧ q = .int .i64 (1 + 4 * (k : Int)) ∧ Below w.heap.size w wr) (fun _ i _ => n - (intOf i).toNat)
  case atStart => exact ⟨0, Nat.zero_le _, rfl, rfl, Below.refl _ _⟩
  case round =>
    obtain ⟨k, hk, rfl, rfl, hbel⟩ := hrel
    have hz := hbel.size
    by_cases hlt : k < n
    · have R := HR.out.next hbel
      have x := R.cells k (by rw [marksF_len]; exact hlt)
      simp only [marksF_get] at x
      simp only [markF] at x
      obtain ⟨x0, x1, x2, x3⟩ := x
      have l1 := R.lt
      have hk1 : (k : Int) < (n : Int) := by omega
      have HM0 := markText_int (1 + 4 * (k : Int)) (by omega) (by omega)
      have HN0 := markText_int (1 + 4 * (k : Int) + 1 + 1 + 1) (by omega) (by omega)
      obtain ⟨S, hS⟩ : ∃ S, S = mt (1 + 4 * (k : Int)).toNat := ⟨_, rfl⟩
      obtain ⟨T, hT⟩ : ∃ T, T = mt (1 + 4 * (k : Int) + 1 + 1 + 1).toNat := ⟨_, rfl⟩
      rw [← hS] at x0 HM0
      rw [← hT] at x3 HN0
      have HM : Hid _ := HM0
      have HN : Hid _ := HN0
      have q0 : ∀ u : Under wr, u.x.cell? ⟨g, k * 4, none⟩ = some (.string S) := fun u => (u.h.cell l1).trans x0
      have q1 : ∀ u : Under wr, u.x.cell? ⟨g, k * 4 + 1, none⟩ = some (.int .i64 (1 + 4 * (k : Int) + 1)) := fun u => (u.h.cell l1).trans x1
      have q2 : ∀ u : Under wr, u.x.cell? ⟨g, k * 4 + 2, none⟩ = some (.int .i64 (1 + 4 * (k : Int) + 1 + 1)) := fun u => (u.h.cell l1).trans x2
      have q3 : ∀ u : Under wr, u.x.cell? ⟨g, k * 4 + 3, none⟩ = some (.string T) := fun u => (u.h.cell l1).trans x3
      have hnu : Nonempty (Under wr) := ⟨⟨wr, Below.refl _ _⟩⟩
      clear R HM0 HN0 hS hT
      go_wp2_with fail
      refine wp_region_under (by kernel_rfl) (by kernel_rfl) ?_
      repeat (go_big_quiet_step ((go_at_call 68; exact calls_under _ (HM.out _))))
      refine wpQuiet_nil ?_
      rintro _ ⟨u, rfl⟩
      have l2 : g < u.x.heap.size := Nat.lt_of_lt_of_le l1 u.h.size
      have q4 : ∀ u2 : Under u.x, u2.x.cell? ⟨g, k * 4 + 3, none⟩ = some (.string T) := fun u2 => (u2.h.cell l2).trans (q3 u)
      have hnu2 : Nonempty (Under u.x) := ⟨⟨u.x, Below.refl _ _⟩⟩
      go_wp2_with fail
      refine wp_region_under (by kernel_rfl) (by kernel_rfl) ?_
      repeat (go_big_quiet_step ((go_at_call 68; exact calls_under _ (HN.out _))))
      refine wpQuiet_nil ?_
      rintro _ ⟨u2, rfl⟩
      go_wp2_with fail
      go_roundw
      case rel => exact ⟨k + 1, by omega, by go_num, by go_num, (hbel.trans (u.h.mono hbel.size)).trans (u2.h.mono (Nat.le_trans hbel.size u.h.size))⟩
      case measure => simp [intOf]; omega
    · have hke : k = n := by omega
      subst hke
      go_wp2_with fail
      go_ret
      exact ⟨rfl, hbel⟩

end Go.Proofs.Ytkdigdoomnafbaa
