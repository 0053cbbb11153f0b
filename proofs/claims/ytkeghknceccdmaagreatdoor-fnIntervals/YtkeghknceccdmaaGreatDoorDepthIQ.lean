/- What the program's depth of a value answers, for every right value. -/
import Derived.Test.YtkeghknceccdmaaGreatDoorDepthM
import Derived.Test.YtkeghknceccdmaaGreatDoorListAQ
namespace Go.Proofs.YtkeghknceccdmaaGreatDoor
open Go.RowKit
set_option linter.unusedVariables false

def depthOfAt (d : Nat) : Prop := ∀ (v : Val) (w : World), v.t.size ≤ 1048576 → fits d v = true →
    Calls Tryz.prog 120 #[.agg #[.int .i64 v.k, .int .i64 v.n, .string v.t]] w fun e w' => e = .returned (.int .i64 (depthV d v)) ∧ Below w.heap.size w w'

set_option maxHeartbeats 1000000 in
theorem depthOf_plain (k n : Int) (t : ByteArray) (w : World) (h4 : k ≠ 4) (h5 : k ≠ 5) :
    Calls Tryz.prog 120 #[.agg #[.int .i64 k, .int .i64 n, .string t]] w fun e w' => e = .returned (.int .i64 0) ∧ Below w.heap.size w w' := by
  have e4 : (k == 4) = false := beq_eq_false_iff_ne.mpr h4
  have e5 : (k == 5) = false := beq_eq_false_iff_ne.mpr h5
  clear h4 h5
  go_enter Tryz.func120, Tryz.ntmps120
  go_wp2_with fail
  go_ret
  exact ⟨rfl, by (repeat (first | (with_reducible exact Below.refl _ _) | (with_reducible assumption) | (with_reducible apply below_drewN) | (with_reducible apply Below.drew) | ((with_reducible refine Below.setCell ?_ ?_ _); rotate_left; focus (first | (simp; done) | (simp; omega) | omega)) | ((with_reducible refine Below.alloc ?_ ?_ _); rotate_left; focus (first | (simp; done) | (simp; omega) | omega))))⟩

set_option maxRecDepth 4000 in
set_option maxHeartbeats 1000000 in
theorem depthOf_list0 (n : Int) (t : ByteArray) (w : World) (hs : t.size ≤ 1048576) (hi : items t = some []) :
    Calls Tryz.prog 120 #[.agg #[.int .i64 4, .int .i64 n, .string t]] w fun e w' => e = .returned (.int .i64 1) ∧ Below w.heap.size w w' := by
  have HI : Hid _ := hi
  clear hi
  go_enter Tryz.func120, Tryz.ntmps120
  go_wp2_with (go_at_call 189; refine (itemsIn_nil t _ hs HI.out).mono ?_; rintro e w1 ⟨rfl, hb1⟩)
  refine wp_loop_rounds 1 ?_
  rw [rounds_succ]
  go_wp2_with fail
  go_ret
  exact ⟨rfl, ((Below.refl _ _).alloc (Nat.le_refl _) _).trans (hb1.mono (by simp))⟩

set_option maxRecDepth 4000 in
set_option maxHeartbeats 1000000 in
theorem depthOf_doc0 (n : Int) (t : ByteArray) (w : World) (hs : t.size ≤ 1048576) (hi : fields t = some []) :
    Calls Tryz.prog 120 #[.agg #[.int .i64 5, .int .i64 n, .string t]] w fun e w' => e = .returned (.int .i64 1) ∧ Below w.heap.size w w' := by
  have HI : Hid _ := hi
  clear hi
  go_enter Tryz.func120, Tryz.ntmps120
  go_wp2_with (go_at_call 190; refine (fieldsIn_nil t _ hs HI.out).mono ?_; rintro e w1 ⟨rfl, hb1⟩)
  refine wp_loop_rounds 1 ?_
  rw [rounds_succ]
  go_wp2_with fail
  go_ret
  exact ⟨rfl, ((Below.refl _ _).alloc (Nat.le_refl _) _).trans (hb1.mono (by simp))⟩

set_option maxRecDepth 4000 in
set_option maxHeartbeats 2000000 in
theorem depthOf_list (d : Nat) (ih : depthOfAt d) (hd : d ≤ 9) (n : Int) (t : ByteArray) (l : List Val) (w : World) (hs : t.size ≤ 1048576) (hi : items t = some l) (hl : l ≠ []) (hall : ∀ u ∈ l, fits d u = true ∧ u.t.size ≤ t.size) :
    Calls Tryz.prog 120 #[.agg #[.int .i64 4, .int .i64 n, .string t]] w fun e w' => e = .returned (.int .i64 (dmax (depthV d) l + 1)) ∧ Below w.heap.size w w' := by
  have hlen := (items_len t.size t l (Nat.le_refl _) hi).1
  have HB : Hid _ := dmax_bd (depthV d) d (by omega) (depthV_bd d)
  have HI : Hid _ := hi
  have HA : Hid _ := hall
  have HN : Hid _ := hl
  clear hi hall hl
  go_enter Tryz.func120, Tryz.ntmps120
  go_wp2_with (go_at_call 189; refine (itemsIn_cons t l _ hs HI.out HN.out).mono ?_; rintro e w1 ⟨⟨g, cap, rfl, hown⟩, hb1⟩)
  go_loopw [3, 16] (fun m i wr => ∃ k : Nat, k ≤ l.length ∧ i = .int .i64 k ∧ m = .int .i64 (dmax (depthV d) (l.take k)) ∧ wr.ownsRow (w.alloc (.cells #[.int .i64 4, .int .i64 n, .string t] 28)).heap.size 28 3 (.slice (some ⟨g, 0, none⟩) l.length cap) l.length (flat l) ∧ Below w.heap.size w wr) (fun _ i _ => l.length - (intOf i).toNat)
  case atStart => exact ⟨0, Nat.zero_le _, rfl, rfl, hown, ((Below.refl _ _).alloc (Nat.le_refl _) _).trans (hb1.mono (by simp))⟩
  case round =>
    obtain ⟨k, hk, rfl, rfl, hown2, hbel⟩ := hrel
    clear hown hb1
    have hz := hbel.size
    by_cases hlt : k < l.length
    · have hg := flat_get l k hlt
      have c0 := owns_cell hown2 _ _ hg.1
      have c1 := owns_cell hown2 _ _ hg.2.1
      have c2 := owns_cell hown2 _ _ hg.2.2
      have HO : Hid _ := hown2
      have hgl : g < wr.heap.size := (hown2.lt g rfl).2
      have hq := HA.out l[k] (List.getElem_mem _)
      have hts : l[k].t.size ≤ 1048576 := by omega
      have HF : Hid _ := hq.1
      have HD : Hid _ := dmax_take (depthV d) l k hlt
      have b1 := HB.out (l.take k)
      have b2 := depthV_bd d l[k]
      clear hg hown2 hq
      go_wp2_with (go_at_call 120; refine (ih l[k] _ hts HF.out).mono ?_; rintro e w2 ⟨rfl, hb2⟩)
      go_roundw
      case rel =>
        have hb3 : Below w.heap.size w w2 := by first | exact hbel.trans (hb2.mono hbel.size) | exact (hbel.alloc hz _).trans (hb2.mono (by simp; omega))
        have hb4 : Below wr.heap.size wr w2 := by first | exact hb2 | exact ((Below.refl _ _).alloc (Nat.le_refl _) _).trans (hb2.mono (by simp))
        exact ⟨k + 1, by omega, by go_num, by rw [HD.out] <;> (congr 1 <;> (split <;> omega)), owns_below HO.out hb4, hb3⟩
      case measure => simp [intOf]; omega
    · have b1 := HB.out (l.take k)
      go_wp2_with fail
      go_ret
      refine ⟨?_, hbel⟩
      rw [List.take_of_length_le (by omega)]; rfl

set_option maxRecDepth 4000 in
set_option maxHeartbeats 2000000 in
theorem depthOf_doc (d : Nat) (ih : depthOfAt d) (hd : d ≤ 9) (n : Int) (t : ByteArray) (l : List Fld) (w : World) (hs : t.size ≤ 1048576) (hi : fields t = some l) (hl : l ≠ []) (hall : ∀ f ∈ l, fits d f.v = true ∧ f.v.t.size ≤ t.size ∧ f.name.size ≤ t.size) :
    Calls Tryz.prog 120 #[.agg #[.int .i64 5, .int .i64 n, .string t]] w fun e w' => e = .returned (.int .i64 (dF (depthV d) l + 1)) ∧ Below w.heap.size w w' := by
  have hlen := (fields_len t.size t l (Nat.le_refl _) hi).1
  have HB : Hid _ := dF_bd (depthV d) d (by omega) (depthV_bd d)
  have HI : Hid _ := hi
  have HA : Hid _ := hall
  have HN : Hid _ := hl
  clear hi hall hl
  go_enter Tryz.func120, Tryz.ntmps120
  go_wp2_with (go_at_call 190; refine (fieldsIn_cons t l _ hs HI.out HN.out).mono ?_; rintro e w1 ⟨⟨g, cap, rfl, hown⟩, hb1⟩)
  go_loopw [3, 31] (fun m i wr => ∃ k : Nat, k ≤ l.length ∧ i = .int .i64 k ∧ m = .int .i64 (dF (depthV d) (l.take k)) ∧ wr.ownsRow (w.alloc (.cells #[.int .i64 5, .int .i64 n, .string t] 28)).heap.size 39 4 (.slice (some ⟨g, 0, none⟩) l.length cap) l.length (flatF l) ∧ Below w.heap.size w wr) (fun _ i _ => l.length - (intOf i).toNat)
  case atStart => exact ⟨0, Nat.zero_le _, rfl, rfl, hown, ((Below.refl _ _).alloc (Nat.le_refl _) _).trans (hb1.mono (by simp))⟩
  case round =>
    obtain ⟨k, hk, rfl, rfl, hown2, hbel⟩ := hrel
    clear hown hb1
    have hz := hbel.size
    by_cases hlt : k < l.length
    · have hg := flatF_get l k hlt
      have c0 := owns_cell hown2 _ _ hg.1
      have c1 := owns_cell hown2 _ _ hg.2.1
      have c2 := owns_cell hown2 _ _ hg.2.2.1
      have c3 := owns_cell hown2 _ _ hg.2.2.2
      have HO : Hid _ := hown2
      have hgl : g < wr.heap.size := (hown2.lt g rfl).2
      have hq := HA.out l[k] (List.getElem_mem _)
      have hts : l[k].v.t.size ≤ 1048576 := by omega
      have HF : Hid _ := hq.1
      have HD : Hid _ := dmax_takeF (depthV d) l k hlt
      have b1 := HB.out (l.take k)
      have b2 := depthV_bd d l[k].v
      clear hg hown2 hq
      go_wp2_with (go_at_call 120; refine (ih l[k].v _ hts HF.out).mono ?_; rintro e w2 ⟨rfl, hb2⟩)
      go_roundw
      case rel =>
        have hb3 : Below w.heap.size w w2 := by first | exact hbel.trans (hb2.mono hbel.size) | exact (hbel.alloc hz _).trans (hb2.mono (by simp; omega))
        have hb4 : Below wr.heap.size wr w2 := by first | exact hb2 | exact ((Below.refl _ _).alloc (Nat.le_refl _) _).trans (hb2.mono (by simp))
        exact ⟨k + 1, by omega, by go_num, by rw [HD.out] <;> (congr 1 <;> (split <;> omega)), owns_below HO.out hb4, hb3⟩
      case measure => simp [intOf]; omega
    · have b1 := HB.out (l.take k)
      go_wp2_with fail
      go_ret
      refine ⟨?_, hbel⟩
      rw [List.take_of_length_le (by omega)]; rfl

theorem depthOf_at : ∀ d : Nat, d ≤ 10 → depthOfAt d
  | d, hd => by
    intro v w hs hf
    obtain ⟨k, n, t⟩ := v
    by_cases h4 : k = 4
    · subst h4
      obtain ⟨e, l, rfl, hi, _, _, hall⟩ := fits_items rfl hf
      have ih := depthOf_at e (by omega)
      rw [depthV_list e _ l rfl hi]
      by_cases hl : l = []
      · subst hl; exact depthOf_list0 n t w hs hi
      · exact depthOf_list e ih (by omega) n t l w hs hi hl hall
    · by_cases h5 : k = 5
      · subst h5
        obtain ⟨e, l, rfl, hi, _, _, _, hall⟩ := fits_fields rfl hf
        have ih := depthOf_at e (by omega)
        rw [depthV_doc e _ l rfl hi]
        by_cases hl : l = []
        · subst hl; exact depthOf_doc0 n t w hs hi
        · exact depthOf_doc e ih (by omega) n t l w hs hi hl hall
      · rw [depthV_plain d ⟨k, n, t⟩ h4 h5]
        exact depthOf_plain k n t w h4 h5

end Go.Proofs.YtkeghknceccdmaaGreatDoor

/- What the program's ListOf answers, for every row of values. -/
namespace Go.Proofs.YtkeghknceccdmaaGreatDoor
open Go.RowKit
set_option linter.unusedVariables false

end Go.Proofs.YtkeghknceccdmaaGreatDoor

/- What the program's ListOf answers, for every row of values. -/
namespace Go.Proofs.YtkeghknceccdmaaGreatDoor
open Go.RowKit
set_option linter.unusedVariables false

theorem convA (v : Value) (zs : List Int) (base : Nat) (w : World) (hown : OwnE w base v zs) : (convert 22 9 v).run Tryz.prog w = .ok (.string (txt zs)) w := by
  by_cases hv : v = .slice none 0 0
  · subst hv
    have hz : zs = [] := by
      rcases hown.2 with ⟨_, h⟩ | ⟨g, cap, cur, h, _⟩
      · exact List.eq_nil_of_length_eq_zero h
      · cases h
    subst hz
    exact run_convert_bytes_nil w 22 5 Tryz.underlying22 Tryz.underlying5 0 0 9 Tryz.underlying9
  · exact convE v zs base w hv hown

theorem made_fits (l : List Val) (hall : ∀ v ∈ l, okB v = true) (h : ¬ 300 < (encL l).length) : fits 6 ⟨4, 0, txt (encL l)⟩ = true ∧ depthV 6 ⟨4, 0, txt (encL l)⟩ = dmax (depthV 5) l + 1 := by
  have hi : items (txt (encL l)) = some l := items_enc l hall
  constructor
  · rw [fits_list 5 _ rfl]
    show (decide ((0 : Int) = 0 ∧ (txt (encL l)).size ≤ 300) && itemsAll (fits 5) (items (txt (encL l)))) = true
    rw [hi, Bool.and_eq_true, decide_eq_true_eq]
    exact ⟨⟨rfl, by rw [txt_size]; omega⟩, by simp only [itemsAll, List.all_eq_true]; exact hall⟩
  · exact depthV_list 5 _ l rfl hi
set_option maxRecDepth 4000 in
set_option maxHeartbeats 1000000 in
theorem bounded_size (k n : Int) (t : ByteArray) (w : World) (hs : t.size ≤ 1048576) (h : 300 < t.size) :
    Calls Tryz.prog 56 #[.agg #[.int .i64 k, .int .i64 n, .string t]] w fun e w' => e = .returned (.tuple #[.agg #[.int .i64 0, .int .i64 0, .string em], .int .i64 10]) ∧ Below w.heap.size w w' := by
  have hh : (300 : Int) < (t.size : Int) := by omega
  go_enter Tryz.func56, Tryz.ntmps56
  go_wp2_with fail
  refine bodyPost_ret (v := .tuple #[.agg #[.int .i64 0, .int .i64 0, .string em], .int .i64 10]) (by simp [results, Tryz.results56, go_sem, *]) rfl ⟨rfl, ?_⟩
  (repeat (first | (with_reducible exact Below.refl _ _) | (with_reducible assumption) | (with_reducible apply below_drewN) | (with_reducible apply Below.drew) | ((with_reducible refine Below.setCell ?_ ?_ _); rotate_left; focus (first | (simp; done) | (simp; omega) | omega)) | ((with_reducible refine Below.alloc ?_ ?_ _); rotate_left; focus (first | (simp; done) | (simp; omega) | omega))))
set_option maxRecDepth 4000 in
set_option maxHeartbeats 1000000 in
theorem bounded_deep (v : Val) (w : World) (h : v.t.size ≤ 300) (hf : fits 6 v = true) (hd : 5 < depthV 6 v) :
    Calls Tryz.prog 56 #[.agg #[.int .i64 v.k, .int .i64 v.n, .string v.t]] w fun e w' => e = .returned (.tuple #[.agg #[.int .i64 0, .int .i64 0, .string em], .int .i64 9]) ∧ Below w.heap.size w w' := by
  have hh : ¬ (300 : Int) < (v.t.size : Int) := by omega
  have Y0 := Res3.start (w.alloc (.cells #[.int .i64 v.k, .int .i64 v.n, .string v.t] 28)) (.int .i64 0) (.int .i64 0) (.string em) 28
  go_enter Tryz.func56, Tryz.ntmps56
  go_wp2_with fail
  refine (depthOf_at 6 (by omega) v _ (by omega) hf).mono ?_
  rintro e w1 ⟨rfl, hb⟩
  have Y := Y0.step hb
  have g0 := Y.c0
  have g1 := Y.c1
  have g2 := Y.c2
  have z0 := Y.z0
  have z1 := Y.z1
  have z2 := Y.z2
  have hlt := Y.lt
  have hbw : Below w.heap.size w w1 := ((Below.refl _ _).alloc (Nat.le_refl _) _).trans (Y.bel.mono (by simp))
  simp only [heap_size_alloc] at g0 g1 g2 z0 z1 z2 hlt
  clear hb Y Y0
  go_wp2_with fail
  refine bodyPost_ret (v := .tuple #[.agg #[.int .i64 0, .int .i64 0, .string em], .int .i64 9]) (by simp [results, Tryz.results56, go_sem, *]) rfl ⟨rfl, ?_⟩
  (repeat (first | (with_reducible exact Below.refl _ _) | (with_reducible assumption) | (with_reducible apply below_drewN) | (with_reducible apply Below.drew) | ((with_reducible refine Below.setCell ?_ ?_ _); rotate_left; focus (first | (simp; done) | (simp; omega) | omega)) | ((with_reducible refine Below.alloc ?_ ?_ _); rotate_left; focus (first | (simp; done) | (simp; omega) | omega))))
set_option maxRecDepth 4000 in
set_option maxHeartbeats 1000000 in
theorem bounded_ok (v : Val) (w : World) (h : v.t.size ≤ 300) (hf : fits 6 v = true) (hd : ¬ 5 < depthV 6 v) :
    Calls Tryz.prog 56 #[.agg #[.int .i64 v.k, .int .i64 v.n, .string v.t]] w fun e w' => e = .returned (.tuple #[.agg #[.int .i64 v.k, .int .i64 v.n, .string v.t], .int .i64 0]) ∧ Below w.heap.size w w' := by
  have hh : ¬ (300 : Int) < (v.t.size : Int) := by omega
  have X0 := Boxed.start w (.int .i64 v.k) (.int .i64 v.n) (.string v.t) 28
  have Y0 := Res3.start (w.alloc (.cells #[.int .i64 v.k, .int .i64 v.n, .string v.t] 28)) (.int .i64 0) (.int .i64 0) (.string em) 28
  have X1 := X0.step Y0.bel
  go_enter Tryz.func56, Tryz.ntmps56
  go_wp2_with fail
  refine (depthOf_at 6 (by omega) v _ (by omega) hf).mono ?_
  rintro e w1 ⟨rfl, hb⟩
  have Y := Y0.step hb
  have X := X1.step hb
  have a0 := X.c0
  have a1 := X.c1
  have a2 := X.c2
  have g0 := Y.c0
  have g1 := Y.c1
  have g2 := Y.c2
  have z0 := Y.z0
  have z1 := Y.z1
  have z2 := Y.z2
  have hlt := Y.lt
  have hbw : Below w.heap.size w w1 := ((Below.refl _ _).alloc (Nat.le_refl _) _).trans (Y.bel.mono (by simp))
  simp only [heap_size_alloc] at g0 g1 g2 z0 z1 z2 hlt
  clear hb Y Y0 X X0 X1
  go_wp2_with fail
  refine bodyPost_ret (v := .tuple #[.agg #[.int .i64 v.k, .int .i64 v.n, .string v.t], .int .i64 0]) (by simp [results, Tryz.results56, go_sem, *]) rfl ⟨rfl, ?_⟩
  (repeat (first | (with_reducible exact Below.refl _ _) | (with_reducible assumption) | (with_reducible apply below_drewN) | (with_reducible apply Below.drew) | ((with_reducible refine Below.setCell ?_ ?_ _); rotate_left; focus (first | (simp; done) | (simp; omega) | omega)) | ((with_reducible refine Below.alloc ?_ ?_ _); rotate_left; focus (first | (simp; done) | (simp; omega) | omega))))
theorem bounded_list (l : List Val) (w : World) (hl : l.length ≤ 300) (hall : ∀ v ∈ l, okB v = true) :
    Calls Tryz.prog 56 #[.agg #[.int .i64 4, .int .i64 0, .string (txt (encL l))]] w fun e w' => e = .returned (.tuple #[aggV (fitP l).1, .int .i64 (fitP l).2]) ∧ Below w.heap.size w w' := by
  have hs : (txt (encL l)).size = (encL l).length := txt_size _
  have hm := encL_len l hall
  by_cases h : 300 < (encL l).length
  · rw [fitP_size l h]; exact bounded_size 4 0 _ w (by omega) (by omega)
  · obtain ⟨hf, hd⟩ := made_fits l hall h
    by_cases h2 : 4 < dmax (depthV 5) l
    · rw [fitP_deep l h h2]
      exact bounded_deep ⟨4, 0, txt (encL l)⟩ w (by show (txt (encL l)).size ≤ 300; omega) hf (by omega)
    · rw [fitP_ok l h h2]
      exact bounded_ok ⟨4, 0, txt (encL l)⟩ w (by show (txt (encL l)).size ≤ 300; omega) hf (by omega)

end Go.Proofs.YtkeghknceccdmaaGreatDoor
