/- What the program's DocOf answers, for every row of fields. -/
import Derived.Test.YtkeghknceccdmaaGreatDoorDocJ
namespace Go.Proofs.YtkeghknceccdmaaGreatDoor
open Go.RowKit
set_option linter.unusedVariables false

set_option maxRecDepth 4000 in
set_option maxHeartbeats 1000000 in
theorem implDoc_long (g cap : Nat) (l : List Fld) (w : World) (hl : l.length ≤ 1048576) (h : 4096 < l.length) :
    Calls Tryz.prog 17 #[.slice (some ⟨g, 0, none⟩) l.length cap] w fun e w' => e = .returned (.tuple #[.agg #[.int .i64 0, .int .i64 0, .string em], .int .i64 2]) ∧ Below w.heap.size w w' := by
  have hh : (4096 : Int) < (l.length : Int) := by omega
  go_enter Tryz.func17, Tryz.ntmps17
  go_wp2_with fail
  refine bodyPost_ret (v := .tuple #[.agg #[.int .i64 0, .int .i64 0, .string em], .int .i64 2]) (by simp [results, Tryz.results17, go_sem, *]) rfl ⟨rfl, ?_⟩
  (repeat (first | (with_reducible exact Below.refl _ _) | (with_reducible assumption) | (with_reducible apply below_drewN) | (with_reducible apply Below.drew) | ((with_reducible refine Below.setCell ?_ ?_ _); rotate_left; focus (first | (simp; done) | (simp; omega) | omega)) | ((with_reducible refine Below.alloc ?_ ?_ _); rotate_left; focus (first | (simp; done) | (simp; omega) | omega))))
set_option maxRecDepth 4000 in
set_option maxHeartbeats 1000000 in
theorem implDoc_many (g cap : Nat) (l : List Fld) (w : World) (h : ¬ 4096 < l.length) (h2 : 300 < l.length) :
    Calls Tryz.prog 17 #[.slice (some ⟨g, 0, none⟩) l.length cap] w fun e w' => e = .returned (.tuple #[.agg #[.int .i64 0, .int .i64 0, .string em], .int .i64 10]) ∧ Below w.heap.size w w' := by
  have hh : ¬ (4096 : Int) < (l.length : Int) := by omega
  have hh2 : (300 : Int) < (l.length : Int) := by omega
  go_enter Tryz.func17, Tryz.ntmps17
  go_wp2_with fail
  refine bodyPost_ret (v := .tuple #[.agg #[.int .i64 0, .int .i64 0, .string em], .int .i64 10]) (by simp [results, Tryz.results17, go_sem, *]) rfl ⟨rfl, ?_⟩
  (repeat (first | (with_reducible exact Below.refl _ _) | (with_reducible assumption) | (with_reducible apply below_drewN) | (with_reducible apply Below.drew) | ((with_reducible refine Below.setCell ?_ ?_ _); rotate_left; focus (first | (simp; done) | (simp; omega) | omega)) | ((with_reducible refine Below.alloc ?_ ?_ _); rotate_left; focus (first | (simp; done) | (simp; omega) | omega))))
set_option maxRecDepth 4000 in
set_option maxHeartbeats 2000000 in
theorem implDoc_few (g cap : Nat) (l : List Fld) (w : World) (hr : ReadF w g l) (h2 : ¬ 300 < l.length) (hts : ∀ f ∈ l, f.name.size ≤ 1048576 ∧ f.v.t.size ≤ 1048576) :
    Calls Tryz.prog 17 #[.slice (some ⟨g, 0, none⟩) l.length cap] w fun e w' => e = .returned (.tuple #[aggV (madeP l).1, .int .i64 (madeP l).2]) ∧ Below w.heap.size w w' := by
  have hh : ¬ (4096 : Int) < (l.length : Int) := by omega
  have hh2 : ¬ (300 : Int) < (l.length : Int) := by omega
  have hl : l.length ≤ 300 := by omega
  have X0 := Res3.start w (.int .i64 0) (.int .i64 0) (.string em) 28
  have HR : Hid _ := hr.next X0.bel
  have HT : Hid _ := hts
  rw [madeP_few l h2]
  clear hr hts
  cases hfo : foldD [] l with
  | error cd =>
    have HF : Hid (_ = _) := hfo
    clear hfo
    show Calls _ _ _ _ fun e w' => e = .returned (.tuple #[.agg #[.int .i64 0, .int .i64 0, .string em], .int .i64 cd]) ∧ Below w.heap.size w w'
    go_enter Tryz.func17, Tryz.ntmps17
    go_wp2_with fail
    refine (sortedFields_any g cap l _ HR.out hl HT.out).mono ?_
    rintro e w1 ⟨hout, hb⟩
    rw [HF.out] at hout
    obtain ⟨rfl, hc⟩ := hout
    have hc2 : (cd == 0) = false := beq_eq_false_iff_ne.mpr hc
    have Y := X0.step hb
    have g0 := Y.c0
    have g1 := Y.c1
    have g2 := Y.c2
    have z0 := Y.z0
    have z1 := Y.z1
    have z2 := Y.z2
    have hlt := Y.lt
    have hbw := Y.bel
    clear hb Y X0
    go_wp2_with fail
    refine bodyPost_ret (v := .tuple #[.agg #[.int .i64 0, .int .i64 0, .string em], .int .i64 cd]) (by simp [results, Tryz.results17, go_sem, *]) rfl ⟨rfl, ?_⟩
    (repeat (first | (with_reducible exact Below.refl _ _) | (with_reducible assumption) | (with_reducible apply below_drewN) | (with_reducible apply Below.drew) | ((with_reducible refine Below.setCell ?_ ?_ _); rotate_left; focus (first | (simp; done) | (simp; omega) | omega)) | ((with_reducible refine Below.alloc ?_ ?_ _); rotate_left; focus (first | (simp; done) | (simp; omega) | omega))))
  | ok s =>
    have HF : Hid (_ = _) := hfo
    clear hfo
    show Calls _ _ _ _ fun e w' => e = .returned (.tuple #[aggV (fitD s).1, .int .i64 (fitD s).2]) ∧ Below w.heap.size w w'
    go_enter Tryz.func17, Tryz.ntmps17
    go_wp2_with fail
    refine (sortedFields_any g cap l _ HR.out hl HT.out).mono ?_
    rintro e w1 ⟨hout, hb⟩
    rw [HF.out] at hout
    obtain ⟨p, c, rfl, hrow, hgood, hsl⟩ := hout
    have hsl2 : s.length ≤ 300 := by omega
    have HW : Hid (RowF _ _ _) := hrow
    have HG : Hid (GoodF _) := hgood
    have Y1 := X0.step hb
    clear hb X0 hrow hgood hsl
    go_wp2_with fail
    refine (docWith_any p c s _ HW.out hsl2 HG.out).mono ?_
    rintro e w2 ⟨rfl, hb⟩
    have Y2 := Y1.step hb
    clear hb Y1
    go_wp2_with fail
    refine (bounded_doc s _ hsl2 HG.out).mono ?_
    rintro e w3 ⟨rfl, hb⟩
    have Y := Y2.step hb
    have g0 := Y.c0
    have g1 := Y.c1
    have g2 := Y.c2
    have z0 := Y.z0
    have z1 := Y.z1
    have z2 := Y.z2
    have hlt := Y.lt
    have hbw := Y.bel
    clear hb Y Y2
    go_wp2_with fail
    refine bodyPost_ret (v := .tuple #[aggV (fitD s).1, .int .i64 (fitD s).2]) (by simp [results, Tryz.results17, go_sem, *]) rfl ⟨rfl, ?_⟩
    (repeat (first | (with_reducible exact Below.refl _ _) | (with_reducible assumption) | (with_reducible apply below_drewN) | (with_reducible apply Below.drew) | ((with_reducible refine Below.setCell ?_ ?_ _); rotate_left; focus (first | (simp; done) | (simp; omega) | omega)) | ((with_reducible refine Below.alloc ?_ ?_ _); rotate_left; focus (first | (simp; done) | (simp; omega) | omega))))
theorem implDoc_any (g cap : Nat) (l : List Fld) (w : World) (hr : ReadF w g l) (hl : l.length ≤ 1048576) (hts : ∀ f ∈ l, f.name.size ≤ 1048576 ∧ f.v.t.size ≤ 1048576) :
    Calls Tryz.prog 17 #[.slice (some ⟨g, 0, none⟩) l.length cap] w fun e w' => e = .returned (.tuple #[aggV (madeP l).1, .int .i64 (madeP l).2]) ∧ Below w.heap.size w w' := by
  by_cases h : 4096 < l.length
  · rw [madeP_long l h]; exact implDoc_long g cap l w hl h
  · by_cases h2 : 300 < l.length
    · rw [madeP_many l h h2]; exact implDoc_many g cap l w h h2
    · exact implDoc_few g cap l w hr h2 hts

end Go.Proofs.YtkeghknceccdmaaGreatDoor
