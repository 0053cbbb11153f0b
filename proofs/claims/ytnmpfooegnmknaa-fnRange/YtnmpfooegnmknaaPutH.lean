/- A page without one of its entries: what the program answers. -/
import Derived.Test.YtnmpfooegnmknaaPutG
namespace Go.Proofs.Ytnmpfooegnmknaa.Tr
open Go.RowKit
set_option linter.unusedVariables false

theorem keepH {w w0 : World} {b o : Nat} {x y : Value} (hb : b < w.heap.size) (c0 : w.cell? ⟨b, o, none⟩ = some x) (c1 : w.cell? ⟨b, o + 1, none⟩ = some y) (h : Below w.heap.size w w0) : w0.cell? ⟨b, o, none⟩ = some x ∧ w0.cell? ⟨b, o + 1, none⟩ = some y :=
  ⟨(h.cell hb).trans c0, (h.cell hb).trans c1⟩
/-- A row of entries, read out of its cells. -/
theorem InE.ofCells {w : World} {g off : Nat} {l : List Ent} (hg : g < w.heap.size) (h : ∀ j u, (flatE l)[j]? = some u → w.cell? ((⟨g, off, none⟩ : Addr).add j) = some u) : InE w (some ⟨g, off, none⟩) l := by
  refine .inr ⟨g, off, rfl, hg, fun i hi => ?_⟩
  have hadd : ∀ j, (⟨g, off, none⟩ : Addr).add j = ⟨g, off + j, none⟩ := fun j => by unfold Addr.add; split <;> simp_all
  have hf := flatE_get l i hi
  have h1 := h _ _ hf.1
  have h2 := h _ _ hf.2
  rw [hadd] at h1 h2
  exact ⟨h1, by rw [Nat.add_assoc]; exact h2⟩
set_option maxRecDepth 4000 in
set_option maxHeartbeats 1000000 in
theorem pageWithout_any (b o g off c i : Nat) (p : Pg) (w : World) (hbl : b < w.heap.size) (c0 : w.cell? ⟨b, o, none⟩ = some (.int .i64 p.num)) (c1 : w.cell? ⟨b, o + 1, none⟩ = some (.slice (some ⟨g, off, none⟩) p.es.length c)) (hin : InE w (some ⟨g, off, none⟩) p.es) (hi : i < p.es.length) (hc : p.es.length ≤ c) (hl : p.es.length ≤ 4) :
    Calls Try.prog 100 #[.pointer (some ⟨b, o, none⟩), .int .i64 i] w fun e' w' => (∃ b' g' o' c', e' = .returned (.pointer (some ⟨b', 0, none⟩)) ∧ w.heap.size ≤ b' ∧ b' < w'.heap.size ∧ w'.cell? ⟨b', 0, none⟩ = some (.int .i64 p.num) ∧ w'.cell? ⟨b', 1, none⟩ = some (.slice (some ⟨g', o', none⟩) (p.es.eraseIdx i).length c') ∧ InE w' (some ⟨g', o', none⟩) (p.es.eraseIdx i) ∧ (g' = g ∨ w.heap.size ≤ g') ∧ (p.es.eraseIdx i).length ≤ c' ∧ g' < w'.heap.size) ∧ Below w.heap.size w w' := by
  obtain ⟨g', off', hgo, hgl, hcs⟩ := hin.resolve_left (by omega)
  cases hgo
  have HC1 : Hid (∀ j u, (flatE (p.es.take i))[j]? = some u → w.cell? ((⟨g, off, none⟩ : Addr).add j) = some u) := take_cells hcs
  have qs2 := cutTailE g off p.es.length c (i + 1) (by omega)
  obtain ⟨off2, ho2⟩ : ∃ x, x = if c = i + 1 then off else off + (i + 1) * 2 := ⟨_, rfl⟩
  rw [← ho2, Int.natCast_add, Int.natCast_one] at qs2
  have HC2 : Hid (∀ j u, (flatE (p.es.drop (i + 1)))[j]? = some u → w.cell? ((⟨g, off2, none⟩ : Addr).add j) = some u) := by
    show ∀ j u, (flatE (p.es.drop (i + 1)))[j]? = some u → w.cell? ((⟨g, off2, none⟩ : Addr).add j) = some u
    by_cases h : c = i + 1
    · rw [List.drop_eq_nil_of_le (by omega)]; intro j u hj; simp [flatE] at hj
    · rw [ho2, if_neg h]; exact drop_cells hcs
  have qw : IntKind.i64.wrap ((i : Int) + 1) = (i : Int) + 1 := by rw [IntKind.wrap_i64]; omega
  have hle : (p.es.eraseIdx i).length = i + (p.es.length - (i + 1)) := by rw [List.length_eraseIdx_of_lt hi]; omega
  have hti : (p.es.take i).length = i := by rw [List.length_take]; omega
  clear ho2 hcs hin
  go_enter Try.func100, Try.ntmps100
  go_wp2_with fail
  go_region_held3 (fun w0 => w0.cell? ⟨b, o, none⟩ = some (.int .i64 p.num) ∧ w0.cell? ⟨b, o + 1, none⟩ = some (.slice (some ⟨g, off, none⟩) p.es.length c)) ((refine keepH hbl c0 c1 ?_; (repeat (first | (with_reducible exact Below.refl _ _) | (with_reducible assumption) | (with_reducible apply below_drewN) | (with_reducible apply Below.drew) | ((with_reducible refine Below.setCell ?_ ?_ _); rotate_left; focus (first | (simp; done) | (simp; omega) | omega)) | ((with_reducible refine Below.alloc ?_ ?_ _); rotate_left; focus (first | (simp; done) | (simp; omega) | omega)))))) (first
    | (refine step_appN rfl (.tmp 11) (.tmp 18) rfl g off i (p.es.take i) (by simp [Act.eval]) hti (by simp; omega) (cells_next (by (repeat (first | (with_reducible exact Below.refl _ _) | (with_reducible assumption) | (with_reducible apply below_drewN) | (with_reducible apply Below.drew) | ((with_reducible refine Below.setCell ?_ ?_ _); rotate_left; focus (first | (simp; done) | (simp; omega) | omega)) | ((with_reducible refine Below.alloc ?_ ?_ _); rotate_left; focus (first | (simp; done) | (simp; omega) | omega))))) hgl HC1.out) g off2 (p.es.length - (i + 1)) (c - (i + 1)) (p.es.drop (i + 1)) (by simp [Act.eval]) (by rw [List.length_drop]) (cells_next (by (repeat (first | (with_reducible exact Below.refl _ _) | (with_reducible assumption) | (with_reducible apply below_drewN) | (with_reducible apply Below.drew) | ((with_reducible refine Below.setCell ?_ ?_ _); rotate_left; focus (first | (simp; done) | (simp; omega) | omega)) | ((with_reducible refine Below.alloc ?_ ?_ _); rotate_left; focus (first | (simp; done) | (simp; omega) | omega))))) hgl HC2.out) (by omega) ?_; intro g7 o7 c7 w7 hg7 hc7 hb7 hor7 hcc7; have HCC : Hid ((p.es.eraseIdx i).length ≤ c7) := (by rw [hle]; exact hcc7); have HGL : Hid (g7 < w7.heap.size) := hg7; have HOR : Hid (g7 = g ∨ w.heap.size ≤ g7) := hor7.imp id (fun h => Nat.le_trans (by simp) h); rw [← List.eraseIdx_eq_take_drop_succ] at hc7; have B7 : Below w.heap.size w w7 := (show Below w.heap.size w _ by (repeat (first | (with_reducible exact Below.refl _ _) | (with_reducible assumption) | (with_reducible apply below_drewN) | (with_reducible apply Below.drew) | ((with_reducible refine Below.setCell ?_ ?_ _); rotate_left; focus (first | (simp; done) | (simp; omega) | omega)) | ((with_reducible refine Below.alloc ?_ ?_ _); rotate_left; focus (first | (simp; done) | (simp; omega) | omega))))).trans (hb7.mono (by simp)); have HI7 : Hid (InE w7 (some ⟨g7, o7, none⟩) (p.es.eraseIdx i)) := InE.ofCells hg7 hc7; have hz7 := B7.size; clear hc7 hb7)
    | (go_simp; go_wp2_with (go_at_call 134; refine (headOf_any b o g off c i p _ (by simp; omega) (by simp [go_sem, *]) (by omega) (by omega)).mono ?_; rintro e' w6 ⟨rfl, rfl⟩)))
  all_goals
    have B8 : Below w7.heap.size w7 (w7.alloc (.cells #[.int .i64 p.num, .slice (some ⟨g7, o7, none⟩) (i + (p.es.length - (i + 1))) c7] 86)) := (Below.refl _ _).alloc (Nat.le_refl _) _
    have HB : Hid (Below w.heap.size w (w7.alloc (.cells #[.int .i64 p.num, .slice (some ⟨g7, o7, none⟩) (i + (p.es.length - (i + 1))) c7] 86))) := B7.trans (B8.mono hz7)
    have HA : Hid ((w7.alloc (.cells #[.int .i64 p.num, .slice (some ⟨g7, o7, none⟩) (i + (p.es.length - (i + 1))) c7] 86)).cell? ⟨w7.heap.size, 0, none⟩ = some (.int .i64 p.num) ∧ (w7.alloc (.cells #[.int .i64 p.num, .slice (some ⟨g7, o7, none⟩) (i + (p.es.length - (i + 1))) c7] 86)).cell? ⟨w7.heap.size, 1, none⟩ = some (.slice (some ⟨g7, o7, none⟩) (p.es.eraseIdx i).length c7)) :=
      ⟨by simp [go_sem], by rw [hle]; simp [go_sem]⟩
    have HJ : Hid (InE (w7.alloc (.cells #[.int .i64 p.num, .slice (some ⟨g7, o7, none⟩) (i + (p.es.length - (i + 1))) c7] 86)) (some ⟨g7, o7, none⟩) (p.es.eraseIdx i)) := HI7.out.step B8
    clear hor7 hcc7
    have HGM : Hid (g7 < (w7.alloc (.cells #[.int .i64 p.num, .slice (some ⟨g7, o7, none⟩) (i + (p.es.length - (i + 1))) c7] 86)).heap.size) := Nat.lt_of_lt_of_le HGL.out B8.size
    go_wp2_with fail
    go_ret
    exact ⟨⟨_, g7, o7, c7, rfl, hz7, by simp, HA.out.1, HA.out.2, HJ.out, HOR.out, HCC.out, HGM.out⟩, HB.out⟩

end Go.Proofs.Ytnmpfooegnmknaa.Tr
