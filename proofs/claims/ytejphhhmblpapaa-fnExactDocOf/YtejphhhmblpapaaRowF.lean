/- What the laws' own helpers on rows of fields answer. -/
import Derived.Test.YtejphhhmblpapaaMarks
namespace Go.Proofs.Ytejphhhmblpapaa
open Go.RowKit
set_option linter.unusedVariables false

/-- A row of fields that stands at a block's head. -/
structure ReadF (w : World) (g : Nat) (l : List Fld) : Prop where
  lt : g < w.heap.size
  cells : ∀ i (h : i < l.length), w.cell? ⟨g, i * 4, none⟩ = some (.string l[i].name) ∧ w.cell? ⟨g, i * 4 + 1, none⟩ = some (.int .i64 l[i].v.k) ∧ w.cell? ⟨g, i * 4 + 2, none⟩ = some (.int .i64 l[i].v.n) ∧ w.cell? ⟨g, i * 4 + 3, none⟩ = some (.string l[i].v.t)
theorem ReadF.step {w w' : World} {g base : Nat} {l : List Fld} (h : ReadF w g l) (hb : Below base w w') (hg : g < base) : ReadF w' g l :=
  ⟨Nat.lt_of_lt_of_le h.lt hb.size, fun i hi => ⟨(hb.cell hg).trans (h.cells i hi).1, (hb.cell hg).trans (h.cells i hi).2.1, (hb.cell hg).trans (h.cells i hi).2.2.1, (hb.cell hg).trans (h.cells i hi).2.2.2⟩⟩
theorem ReadF.next {w w' : World} {g : Nat} {l : List Fld} (h : ReadF w g l) (hb : Below w.heap.size w w') : ReadF w' g l := h.step hb h.lt
theorem ReadF.of_own {w : World} {base g cap : Nat} {l : List Fld} (h : w.ownsRow base 36 4 (.slice (some ⟨g, 0, none⟩) l.length cap) l.length (flatF l)) : ReadF w g l :=
  ⟨(h.lt g rfl).2, fun i hi => ⟨owns_cell h _ _ (flatF_get l i hi).1, owns_cell h _ _ (flatF_get l i hi).2.1, owns_cell h _ _ (flatF_get l i hi).2.2.1, owns_cell h _ _ (flatF_get l i hi).2.2.2⟩⟩
theorem flatF_cons (f : Fld) (l : List Fld) : flatF (f :: l) = .string f.name :: .int .i64 f.v.k :: .int .i64 f.v.n :: .string f.v.t :: flatF l := rfl
theorem flatF_set : ∀ (l : List Fld) (k : Nat) (f : Fld), k < l.length → ((((flatF l).set (k * 4) (.string f.name)).set (k * 4 + 1) (.int .i64 f.v.k)).set (k * 4 + 2) (.int .i64 f.v.n)).set (k * 4 + 3) (.string f.v.t) = flatF (l.set k f)
  | [], k, f, h => by simp at h
  | u :: l, 0, f, _ => rfl
  | u :: l, k + 1, f, h => by
    rw [List.set_cons_succ, flatF_cons, flatF_cons, ← flatF_set l k f (by simpa using h)]
    rw [show (k + 1) * 4 = k * 4 + 1 + 1 + 1 + 1 by omega]
    rfl

set_option maxRecDepth 4000 in
set_option maxHeartbeats 1000000 in
theorem eqField_same (m : ByteArray) (k n : Int) (t : ByteArray) (w : World) :
    Calls Try.prog 73 #[.agg #[.string m, .int .i64 k, .int .i64 n, .string t], .agg #[.string m, .int .i64 k, .int .i64 n, .string t]] w fun e w' => e = .returned (.bool true) ∧ Below w.heap.size w w' := by
  go_enter Try.func73, Try.ntmps73
  go_wp2_with (go_at_call 28; refine (eqValue_same k n t _).mono ?_; rintro e w1 ⟨rfl, hb⟩)
  go_ret
  exact ⟨rfl, (((Below.refl _ _).alloc (Nat.le_refl _) _).alloc (by simp) _).trans (hb.mono (by simp; omega))⟩
set_option maxRecDepth 4000 in
set_option maxHeartbeats 1000000 in
theorem eqFieldS_nil (a b : Option Addr) (c d : Nat) (w : World) : Calls Try.prog 29 #[.slice a 0 c, .slice b 0 d] w fun e w' => e = .returned (.bool true) ∧ Below w.heap.size w w' := by
  go_enter Try.func29, Try.ntmps29
  go_wp2_with fail
  refine wp_loop_rounds 1 ?_
  rw [rounds_succ]
  go_wp2_with fail
  go_ret
  exact ⟨rfl, Below.refl _ _⟩
set_option maxRecDepth 4000 in
set_option maxHeartbeats 1000000 in
theorem eqFieldS_same (g1 c1 g2 c2 : Nat) (l : List Fld) (w : World) (h1 : ReadF w g1 l) (h2 : ReadF w g2 l) (hlen : l.length ≤ 1048576) :
    Calls Try.prog 29 #[.slice (some ⟨g1, 0, none⟩) l.length c1, .slice (some ⟨g2, 0, none⟩) l.length c2] w fun e w' => e = .returned (.bool true) ∧ Below w.heap.size w w' := by
  have H1 : Hid _ := h1
  have H2 : Hid _ := h2
  clear h1 h2
  go_enter Try.func29, Try.ntmps29
  go_wp2_with fail
  go_loopw [5] (fun i wr => ∃ k : Nat, k ≤ l.length ∧ i = .int .i64 k ∧ Below w.heap.size w wr) (fun i _ => l.length - (intOf i).toNat)
  case atStart => exact ⟨0, Nat.zero_le _, rfl, Below.refl _ _⟩
  case round =>
    obtain ⟨k, hk, rfl, hbel⟩ := hrel
    by_cases hlt : k < l.length
    · have x1 := (H1.out.next hbel).cells k hlt
      have x2 := (H2.out.next hbel).cells k hlt
      have l1 := (H1.out.next hbel).lt
      have l2 := (H2.out.next hbel).lt
      have hk1 : (k : Int) < (l.length : Int) := by omega
      have q0 : ∀ u : Under wr, u.x.cell? ⟨g1, k * 4, none⟩ = some (.string l[k].name) := fun u => (u.h.cell l1).trans x1.1
      have q1 : ∀ u : Under wr, u.x.cell? ⟨g1, k * 4 + 1, none⟩ = some (.int .i64 l[k].v.k) := fun u => (u.h.cell l1).trans x1.2.1
      have q2 : ∀ u : Under wr, u.x.cell? ⟨g1, k * 4 + 2, none⟩ = some (.int .i64 l[k].v.n) := fun u => (u.h.cell l1).trans x1.2.2.1
      have q3 : ∀ u : Under wr, u.x.cell? ⟨g1, k * 4 + 3, none⟩ = some (.string l[k].v.t) := fun u => (u.h.cell l1).trans x1.2.2.2
      have r0 : ∀ u : Under wr, u.x.cell? ⟨g2, k * 4, none⟩ = some (.string l[k].name) := fun u => (u.h.cell l2).trans x2.1
      have r1 : ∀ u : Under wr, u.x.cell? ⟨g2, k * 4 + 1, none⟩ = some (.int .i64 l[k].v.k) := fun u => (u.h.cell l2).trans x2.2.1
      have r2 : ∀ u : Under wr, u.x.cell? ⟨g2, k * 4 + 2, none⟩ = some (.int .i64 l[k].v.n) := fun u => (u.h.cell l2).trans x2.2.2.1
      have r3 : ∀ u : Under wr, u.x.cell? ⟨g2, k * 4 + 3, none⟩ = some (.string l[k].v.t) := fun u => (u.h.cell l2).trans x2.2.2.2
      have hnu : Nonempty (Under wr) := ⟨⟨wr, Below.refl _ _⟩⟩
      clear x1 x2
      go_wp2_with fail
      refine wp_region_under (by kernel_rfl) (by kernel_rfl) ?_
      repeat (go_big_quiet_step ((go_at_call 73; exact calls_under _ (eqField_same l[k].name l[k].v.k l[k].v.n l[k].v.t _))))
      refine wpQuiet_nil ?_
      rintro _ ⟨u, rfl⟩
      go_wp2_with fail
      go_roundw
      case rel => exact ⟨k + 1, by omega, by go_num, hbel.trans (u.h.mono hbel.size)⟩
      case measure => simp [intOf]; omega
    · go_wp2_with fail
      go_ret
      exact ⟨rfl, hbel⟩

/-- The field that marks place number i. -/
def markF (i : Nat) : Fld := ⟨mt (1 + 4 * (i : Int)).toNat, ⟨1 + 4 * (i : Int) + 1, 1 + 4 * (i : Int) + 1 + 1, mt (1 + 4 * (i : Int) + 1 + 1 + 1).toNat⟩⟩
def marksF (n : Nat) : List Fld := (List.range n).map markF
theorem marksF_len (n : Nat) : (marksF n).length = n := by unfold marksF; simp
theorem marksF_get (n i : Nat) (h : i < (marksF n).length) : (marksF n)[i] = markF i := by simp [marksF]
def markMixF (l : List Fld) (k : Nat) : List Fld := marksF k ++ l.drop k
theorem markMixF_len (l : List Fld) (k : Nat) (h : k ≤ l.length) : (markMixF l k).length = l.length := by unfold markMixF; rw [List.length_append, marksF_len, List.length_drop]; omega
theorem markMixF_zero (l : List Fld) : markMixF l 0 = l := by unfold markMixF marksF; simp
theorem markMixF_full (l : List Fld) : markMixF l l.length = marksF l.length := by unfold markMixF; simp
theorem markMixF_set (l : List Fld) (k : Nat) (h : k < l.length) : (markMixF l k).set k (markF k) = markMixF l (k + 1) := by
  unfold markMixF
  rw [List.set_append_right _ _ (by rw [marksF_len]; omega), marksF_len, Nat.sub_self]
  have e : marksF (k + 1) = marksF k ++ [markF k] := by unfold marksF; rw [List.range_succ, List.map_append]; rfl
  rw [e, List.append_assoc]
  congr 1
  rw [List.drop_eq_getElem_cons h]; rfl
theorem readMarksF {w : World} {base g c : Nat} (n : Nat) (h : w.ownsRow base 36 4 (.slice (some ⟨g, 0, none⟩) n c) n (flatF (marksF n))) : ReadF w g (marksF n) :=
  ReadF.of_own (l := marksF n) (cap := c) (base := base) (by rw [marksF_len]; exact h)

theorem own_there {w : World} {base g c n : Nat} {e : TypeId} {size : Nat} {xs : List Value} (h : w.ownsRow base e size (.slice (some ⟨g, 0, none⟩) n c) n xs) (j : Nat) (hj : j < n * size) : ∃ u, w.cell? ⟨g, j, none⟩ = some u := by
  have := World.ownsRow.cellAt h j hj
  rw [this]
  exact ⟨_, List.getElem?_eq_getElem (by have := h.1; omega)⟩

end Go.Proofs.Ytejphhhmblpapaa
