/- What the program's ListOf answers, for every row of values. -/
import Derived.Test.YtkeghknceccdmaaGreatDoorListI
namespace Go.Proofs.YtkeghknceccdmaaGreatDoor
open Go.RowKit
set_option linter.unusedVariables false

theorem convA (v : Value) (zs : List Int) (base : Nat) (w : World) (hown : OwnE w base v zs) : (convert 22 9 v).run Tryz.prog w = .ok (.string (txt zs)) w := by
  by_cases hv : v = .slice none 0 0
  · subst hv
    have hz : zs = [] := by
      rcases hown.2 with ⟨_, h⟩ | ⟨g, cap, cur, h, _⟩
      · exact List.eq_nil_of_length_eq_zero h
      · cases h
    subst hz
    exact run_convert_bytes_nil w 22 5 Tryz.underlying22 Tryz.underlying5 0 0 9 Tryz.underlying9
  · exact convE v zs base w hv hown

theorem made_fits (l : List Val) (hall : ∀ v ∈ l, okB v = true) (h : ¬ 300 < (encL l).length) : fits 6 ⟨4, 0, txt (encL l)⟩ = true ∧ depthV 6 ⟨4, 0, txt (encL l)⟩ = dmax (depthV 5) l + 1 := by
  have hi : items (txt (encL l)) = some l := items_enc l hall
  constructor
  · rw [fits_list 5 _ rfl]
    show (decide ((0 : Int) = 0 ∧ (txt (encL l)).size ≤ 300) && itemsAll (fits 5) (items (txt (encL l)))) = true
    rw [hi, Bool.and_eq_true, decide_eq_true_eq]
    exact ⟨⟨rfl, by rw [txt_size]; omega⟩, by simp only [itemsAll, List.all_eq_true]; exact hall⟩
  · exact depthV_list 5 _ l rfl hi
set_option maxRecDepth 4000 in
set_option maxHeartbeats 1000000 in
theorem bounded_size (k n : Int) (t : ByteArray) (w : World) (hs : t.size ≤ 1048576) (h : 300 < t.size) :
    Calls Tryz.prog 56 #[.agg #[.int .i64 k, .int .i64 n, .string t]] w fun e w' => e = .returned (.tuple #[.agg #[.int .i64 0, .int .i64 0, .string em], .int .i64 10]) ∧ Below w.heap.size w w' := by
  have hh : (300 : Int) < (t.size : Int) := by omega
  go_enter Tryz.func56, Tryz.ntmps56
  go_wp2_with fail
  refine bodyPost_ret (v := .tuple #[.agg #[.int .i64 0, .int .i64 0, .string em], .int .i64 10]) (by simp [results, Tryz.results56, go_sem, *]) rfl ⟨rfl, ?_⟩
  (repeat (first | (with_reducible exact Below.refl _ _) | (with_reducible assumption) | (with_reducible apply below_drewN) | (with_reducible apply Below.drew) | ((with_reducible refine Below.setCell ?_ ?_ _); rotate_left; focus (first | (simp; done) | (simp; omega) | omega)) | ((with_reducible refine Below.alloc ?_ ?_ _); rotate_left; focus (first | (simp; done) | (simp; omega) | omega))))
set_option maxRecDepth 4000 in
set_option maxHeartbeats 1000000 in
theorem bounded_deep (v : Val) (w : World) (h : v.t.size ≤ 300) (hf : fits 6 v = true) (hd : 5 < depthV 6 v) :
    Calls Tryz.prog 56 #[.agg #[.int .i64 v.k, .int .i64 v.n, .string v.t]] w fun e w' => e = .returned (.tuple #[.agg #[.int .i64 0, .int .i64 0, .string em], .int .i64 9]) ∧ Below w.heap.size w w' := by
  have hh : ¬ (300 : Int) < (v.t.size : Int) := by omega
  have Y0 := Res3.start (w.alloc (.cells #[.int .i64 v.k, .int .i64 v.n, .string v.t] 28)) (.int .i64 0) (.int .i64 0) (.string em) 28
  go_enter Tryz.func56, Tryz.ntmps56
  go_wp2_with fail
  refine (depthOf_at 6 (by omega) v _ (by omega) hf).mono ?_
  rintro e w1 ⟨rfl, hb⟩
  have Y := Y0.step hb
  have g0 := Y.c0
  have g1 := Y.c1
  have g2 := Y.c2
  have z0 := Y.z0
  have z1 := Y.z1
  have z2 := Y.z2
  have hlt := Y.lt
  have hbw : Below w.heap.size w w1 := ((Below.refl _ _).alloc (Nat.le_refl _) _).trans (Y.bel.mono (by simp))
  simp only [heap_size_alloc] at g0 g1 g2 z0 z1 z2 hlt
  clear hb Y Y0
  go_wp2_with fail
  refine bodyPost_ret (v := .tuple #[.agg #[.int .i64 0, .int .i64 0, .string em], .int .i64 9]) (by simp [results, Tryz.results56, go_sem, *]) rfl ⟨rfl, ?_⟩
  (repeat (first | (with_reducible exact Below.refl _ _) | (with_reducible assumption) | (with_reducible apply below_drewN) | (with_reducible apply Below.drew) | ((with_reducible refine Below.setCell ?_ ?_ _); rotate_left; focus (first | (simp; done) | (simp; omega) | omega)) | ((with_reducible refine Below.alloc ?_ ?_ _); rotate_left; focus (first | (simp; done) | (simp; omega) | omega))))
set_option maxRecDepth 4000 in
set_option maxHeartbeats 1000000 in
theorem bounded_ok (v : Val) (w : World) (h : v.t.size ≤ 300) (hf : fits 6 v = true) (hd : ¬ 5 < depthV 6 v) :
    Calls Tryz.prog 56 #[.agg #[.int .i64 v.k, .int .i64 v.n, .string v.t]] w fun e w' => e = .returned (.tuple #[.agg #[.int .i64 v.k, .int .i64 v.n, .string v.t], .int .i64 0]) ∧ Below w.heap.size w w' := by
  have hh : ¬ (300 : Int) < (v.t.size : Int) := by omega
  have X0 := Boxed.start w (.int .i64 v.k) (.int .i64 v.n) (.string v.t) 28
  have Y0 := Res3.start (w.alloc (.cells #[.int .i64 v.k, .int .i64 v.n, .string v.t] 28)) (.int .i64 0) (.int .i64 0) (.string em) 28
  have X1 := X0.step Y0.bel
  go_enter Tryz.func56, Tryz.ntmps56
  go_wp2_with fail
  refine (depthOf_at 6 (by omega) v _ (by omega) hf).mono ?_
  rintro e w1 ⟨rfl, hb⟩
  have Y := Y0.step hb
  have X := X1.step hb
  have a0 := X.c0
  have a1 := X.c1
  have a2 := X.c2
  have g0 := Y.c0
  have g1 := Y.c1
  have g2 := Y.c2
  have z0 := Y.z0
  have z1 := Y.z1
  have z2 := Y.z2
  have hlt := Y.lt
  have hbw : Below w.heap.size w w1 := ((Below.refl _ _).alloc (Nat.le_refl _) _).trans (Y.bel.mono (by simp))
  simp only [heap_size_alloc] at g0 g1 g2 z0 z1 z2 hlt
  clear hb Y Y0 X X0 X1
  go_wp2_with fail
  refine bodyPost_ret (v := .tuple #[.agg #[.int .i64 v.k, .int .i64 v.n, .string v.t], .int .i64 0]) (by simp [results, Tryz.results56, go_sem, *]) rfl ⟨rfl, ?_⟩
  (repeat (first | (with_reducible exact Below.refl _ _) | (with_reducible assumption) | (with_reducible apply below_drewN) | (with_reducible apply Below.drew) | ((with_reducible refine Below.setCell ?_ ?_ _); rotate_left; focus (first | (simp; done) | (simp; omega) | omega)) | ((with_reducible refine Below.alloc ?_ ?_ _); rotate_left; focus (first | (simp; done) | (simp; omega) | omega))))
theorem bounded_list (l : List Val) (w : World) (hl : l.length ≤ 300) (hall : ∀ v ∈ l, okB v = true) :
    Calls Tryz.prog 56 #[.agg #[.int .i64 4, .int .i64 0, .string (txt (encL l))]] w fun e w' => e = .returned (.tuple #[aggV (fitP l).1, .int .i64 (fitP l).2]) ∧ Below w.heap.size w w' := by
  have hs : (txt (encL l)).size = (encL l).length := txt_size _
  have hm := encL_len l hall
  by_cases h : 300 < (encL l).length
  · rw [fitP_size l h]; exact bounded_size 4 0 _ w (by omega) (by omega)
  · obtain ⟨hf, hd⟩ := made_fits l hall h
    by_cases h2 : 4 < dmax (depthV 5) l
    · rw [fitP_deep l h h2]
      exact bounded_deep ⟨4, 0, txt (encL l)⟩ w (by show (txt (encL l)).size ≤ 300; omega) hf (by omega)
    · rw [fitP_ok l h h2]
      exact bounded_ok ⟨4, 0, txt (encL l)⟩ w (by show (txt (encL l)).size ≤ 300; omega) hf (by omega)

end Go.Proofs.YtkeghknceccdmaaGreatDoor
