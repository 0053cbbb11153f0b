/- What the program's depth of a value answers, for every right value. -/
import Derived.Test.YtkeghknceccdmaaGreatDoorDepthM
namespace Go.Proofs.YtkeghknceccdmaaGreatDoor
open Go.RowKit
set_option linter.unusedVariables false

def depthOfAt (d : Nat) : Prop := ∀ (v : Val) (w : World), v.t.size ≤ 1048576 → fits d v = true →
    Calls Tryz.prog 120 #[.agg #[.int .i64 v.k, .int .i64 v.n, .string v.t]] w fun e w' => e = .returned (.int .i64 (depthV d v)) ∧ Below w.heap.size w w'

set_option maxHeartbeats 1000000 in
theorem depthOf_plain (k n : Int) (t : ByteArray) (w : World) (h4 : k ≠ 4) (h5 : k ≠ 5) :
    Calls Tryz.prog 120 #[.agg #[.int .i64 k, .int .i64 n, .string t]] w fun e w' => e = .returned (.int .i64 0) ∧ Below w.heap.size w w' := by
  have e4 : (k == 4) = false := beq_eq_false_iff_ne.mpr h4
  have e5 : (k == 5) = false := beq_eq_false_iff_ne.mpr h5
  clear h4 h5
  go_enter Tryz.func120, Tryz.ntmps120
  go_wp2_with fail
  go_ret
  exact ⟨rfl, by (repeat (first | (with_reducible exact Below.refl _ _) | (with_reducible assumption) | (with_reducible apply below_drewN) | (with_reducible apply Below.drew) | ((with_reducible refine Below.setCell ?_ ?_ _); rotate_left; focus (first | (simp; done) | (simp; omega) | omega)) | ((with_reducible refine Below.alloc ?_ ?_ _); rotate_left; focus (first | (simp; done) | (simp; omega) | omega))))⟩

set_option maxRecDepth 4000 in
set_option maxHeartbeats 1000000 in
theorem depthOf_list0 (n : Int) (t : ByteArray) (w : World) (hs : t.size ≤ 1048576) (hi : items t = some []) :
    Calls Tryz.prog 120 #[.agg #[.int .i64 4, .int .i64 n, .string t]] w fun e w' => e = .returned (.int .i64 1) ∧ Below w.heap.size w w' := by
  have HI : Hid _ := hi
  clear hi
  go_enter Tryz.func120, Tryz.ntmps120
  go_wp2_with (go_at_call 189; refine (itemsIn_nil t _ hs HI.out).mono ?_; rintro e w1 ⟨rfl, hb1⟩)
  refine wp_loop_rounds 1 ?_
  rw [rounds_succ]
  go_wp2_with fail
  go_ret
  exact ⟨rfl, ((Below.refl _ _).alloc (Nat.le_refl _) _).trans (hb1.mono (by simp))⟩

set_option maxRecDepth 4000 in
set_option maxHeartbeats 1000000 in
theorem depthOf_doc0 (n : Int) (t : ByteArray) (w : World) (hs : t.size ≤ 1048576) (hi : fields t = some []) :
    Calls Tryz.prog 120 #[.agg #[.int .i64 5, .int .i64 n, .string t]] w fun e w' => e = .returned (.int .i64 1) ∧ Below w.heap.size w w' := by
  have HI : Hid _ := hi
  clear hi
  go_enter Tryz.func120, Tryz.ntmps120
  go_wp2_with (go_at_call 190; refine (fieldsIn_nil t _ hs HI.out).mono ?_; rintro e w1 ⟨rfl, hb1⟩)
  refine wp_loop_rounds 1 ?_
  rw [rounds_succ]
  go_wp2_with fail
  go_ret
  exact ⟨rfl, ((Below.refl _ _).alloc (Nat.le_refl _) _).trans (hb1.mono (by simp))⟩

set_option maxRecDepth 4000 in
set_option maxHeartbeats 2000000 in
theorem depthOf_list (d : Nat) (ih : depthOfAt d) (hd : d ≤ 9) (n : Int) (t : ByteArray) (l : List Val) (w : World) (hs : t.size ≤ 1048576) (hi : items t = some l) (hl : l ≠ []) (hall : ∀ u ∈ l, fits d u = true ∧ u.t.size ≤ t.size) :
    Calls Tryz.prog 120 #[.agg #[.int .i64 4, .int .i64 n, .string t]] w fun e w' => e = .returned (.int .i64 (dmax (depthV d) l + 1)) ∧ Below w.heap.size w w' := by
  have hlen := (items_len t.size t l (Nat.le_refl _) hi).1
  have HB : Hid _ := dmax_bd (depthV d) d (by omega) (depthV_bd d)
  have HI : Hid _ := hi
  have HA : Hid _ := hall
  have HN : Hid _ := hl
  clear hi hall hl
  go_enter Tryz.func120, Tryz.ntmps120
  go_wp2_with (go_at_call 189; refine (itemsIn_cons t l _ hs HI.out HN.out).mono ?_; rintro e w1 ⟨⟨g, cap, rfl, hown⟩, hb1⟩)
  go_loopw [3, 16] (fun m i wr => ∃ k : Nat, k ≤ l.length ∧ i = .int .i64 k ∧ m = .int .i64 (dmax (depthV d) (l.take k)) ∧ wr.ownsRow (w.alloc (.cells #[.int .i64 4, .int .i64 n, .string t] 28)).heap.size 28 3 (.slice (some ⟨g, 0, none⟩) l.length cap) l.length (flat l) ∧ Below w.heap.size w wr) (fun _ i _ => l.length - (intOf i).toNat)
  case atStart => exact ⟨0, Nat.zero_le _, rfl, rfl, hown, ((Below.refl _ _).alloc (Nat.le_refl _) _).trans (hb1.mono (by simp))⟩
  case round =>
    obtain ⟨k, hk, rfl, rfl, hown2, hbel⟩ := hrel
    clear hown hb1
    have hz := hbel.size
    by_cases hlt : k < l.length
    · have hg := flat_get l k hlt
      have c0 := owns_cell hown2 _ _ hg.1
      have c1 := owns_cell hown2 _ _ hg.2.1
      have c2 := owns_cell hown2 _ _ hg.2.2
      have HO : Hid _ := hown2
      have hgl : g < wr.heap.size := (hown2.lt g rfl).2
      have hq := HA.out l[k] (List.getElem_mem _)
      have hts : l[k].t.size ≤ 1048576 := by omega
      have HF : Hid _ := hq.1
      have HD : Hid _ := dmax_take (depthV d) l k hlt
      have b1 := HB.out (l.take k)
      have b2 := depthV_bd d l[k]
      clear hg hown2 hq
      go_wp2_with (go_at_call 120; refine (ih l[k] _ hts HF.out).mono ?_; rintro e w2 ⟨rfl, hb2⟩)
      go_roundw
      case rel =>
        have hb3 : Below w.heap.size w w2 := by first | exact hbel.trans (hb2.mono hbel.size) | exact (hbel.alloc hz _).trans (hb2.mono (by simp; omega))
        have hb4 : Below wr.heap.size wr w2 := by first | exact hb2 | exact ((Below.refl _ _).alloc (Nat.le_refl _) _).trans (hb2.mono (by simp))
        exact ⟨k + 1, by omega, by go_num, by rw [HD.out] <;> (congr 1 <;> (split <;> omega)), owns_below HO.out hb4, hb3⟩
      case measure => simp [intOf]; omega
    · have b1 := HB.out (l.take k)
      go_wp2_with fail
      go_ret
      refine ⟨?_, hbel⟩
      rw [List.take_of_length_le (by omega)]; rfl

set_option maxRecDepth 4000 in
set_option maxHeartbeats 2000000 in
theorem depthOf_doc (d : Nat) (ih : depthOfAt d) (hd : d ≤ 9) (n : Int) (t : ByteArray) (l : List Fld) (w : World) (hs : t.size ≤ 1048576) (hi : fields t = some l) (hl : l ≠ []) (hall : ∀ f ∈ l, fits d f.v = true ∧ f.v.t.size ≤ t.size ∧ f.name.size ≤ t.size) :
    Calls Tryz.prog 120 #[.agg #[.int .i64 5, .int .i64 n, .string t]] w fun e w' => e = .returned (.int .i64 (dF (depthV d) l + 1)) ∧ Below w.heap.size w w' := by
  have hlen := (fields_len t.size t l (Nat.le_refl _) hi).1
  have HB : Hid _ := dF_bd (depthV d) d (by omega) (depthV_bd d)
  have HI : Hid _ := hi
  have HA : Hid _ := hall
  have HN : Hid _ := hl
  clear hi hall hl
  go_enter Tryz.func120, Tryz.ntmps120
  go_wp2_with (go_at_call 190; refine (fieldsIn_cons t l _ hs HI.out HN.out).mono ?_; rintro e w1 ⟨⟨g, cap, rfl, hown⟩, hb1⟩)
  go_loopw [3, 31] (fun m i wr => ∃ k : Nat, k ≤ l.length ∧ i = .int .i64 k ∧ m = .int .i64 (dF (depthV d) (l.take k)) ∧ wr.ownsRow (w.alloc (.cells #[.int .i64 5, .int .i64 n, .string t] 28)).heap.size 39 4 (.slice (some ⟨g, 0, none⟩) l.length cap) l.length (flatF l) ∧ Below w.heap.size w wr) (fun _ i _ => l.length - (intOf i).toNat)
  case atStart => exact ⟨0, Nat.zero_le _, rfl, rfl, hown, ((Below.refl _ _).alloc (Nat.le_refl _) _).trans (hb1.mono (by simp))⟩
  case round =>
    obtain ⟨k, hk, rfl, rfl, hown2, hbel⟩ := hrel
    clear hown hb1
    have hz := hbel.size
    by_cases hlt : k < l.length
    · have hg := flatF_get l k hlt
      have c0 := owns_cell hown2 _ _ hg.1
      have c1 := owns_cell hown2 _ _ hg.2.1
      have c2 := owns_cell hown2 _ _ hg.2.2.1
      have c3 := owns_cell hown2 _ _ hg.2.2.2
      have HO : Hid _ := hown2
      have hgl : g < wr.heap.size := (hown2.lt g rfl).2
      have hq := HA.out l[k] (List.getElem_mem _)
      have hts : l[k].v.t.size ≤ 1048576 := by omega
      have HF : Hid _ := hq.1
      have HD : Hid _ := dmax_takeF (depthV d) l k hlt
      have b1 := HB.out (l.take k)
      have b2 := depthV_bd d l[k].v
      clear hg hown2 hq
      go_wp2_with (go_at_call 120; refine (ih l[k].v _ hts HF.out).mono ?_; rintro e w2 ⟨rfl, hb2⟩)
      go_roundw
      case rel =>
        have hb3 : Below w.heap.size w w2 := by first | exact hbel.trans (hb2.mono hbel.size) | exact (hbel.alloc hz _).trans (hb2.mono (by simp; omega))
        have hb4 : Below wr.heap.size wr w2 := by first | exact hb2 | exact ((Below.refl _ _).alloc (Nat.le_refl _) _).trans (hb2.mono (by simp))
        exact ⟨k + 1, by omega, by go_num, by rw [HD.out] <;> (congr 1 <;> (split <;> omega)), owns_below HO.out hb4, hb3⟩
      case measure => simp [intOf]; omega
    · have b1 := HB.out (l.take k)
      go_wp2_with fail
      go_ret
      refine ⟨?_, hbel⟩
      rw [List.take_of_length_le (by omega)]; rfl

theorem depthOf_at : ∀ d : Nat, d ≤ 10 → depthOfAt d
  | d, hd => by
    intro v w hs hf
    obtain ⟨k, n, t⟩ := v
    by_cases h4 : k = 4
    · subst h4
      obtain ⟨e, l, rfl, hi, _, _, hall⟩ := fits_items rfl hf
      have ih := depthOf_at e (by omega)
      rw [depthV_list e _ l rfl hi]
      by_cases hl : l = []
      · subst hl; exact depthOf_list0 n t w hs hi
      · exact depthOf_list e ih (by omega) n t l w hs hi hl hall
    · by_cases h5 : k = 5
      · subst h5
        obtain ⟨e, l, rfl, hi, _, _, _, hall⟩ := fits_fields rfl hf
        have ih := depthOf_at e (by omega)
        rw [depthV_doc e _ l rfl hi]
        by_cases hl : l = []
        · subst hl; exact depthOf_doc0 n t w hs hi
        · exact depthOf_doc e ih (by omega) n t l w hs hi hl hall
      · rw [depthV_plain d ⟨k, n, t⟩ h4 h5]
        exact depthOf_plain k n t w h4 h5

end Go.Proofs.YtkeghknceccdmaaGreatDoor
