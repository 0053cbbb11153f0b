/- What the specification's ListOf answers, for every row of values. -/
import Derived.Test.YtkdigdoomnafbaaListS
namespace Go.Proofs.Ytkdigdoomnafbaa
open Go.RowKit
set_option linter.unusedVariables false

set_option maxRecDepth 4000 in
set_option maxHeartbeats 1000000 in
theorem specList_long (g cap : Nat) (l : List Val) (w : World) (hl : l.length ≤ 1048576) (h : 4096 < l.length) :
    Calls Try.prog 29 #[.slice (some ⟨g, 0, none⟩) l.length cap] w fun e w' => e = .returned (.tuple #[.agg #[.int .i64 0, .int .i64 0, .string em], .int .i64 2]) ∧ Below w.heap.size w w' := by
  have hh : (4096 : Int) < (l.length : Int) := by omega
  go_enter Try.func29, Try.ntmps29
  go_wp2_with fail
  refine bodyPost_ret (v := .tuple #[.agg #[.int .i64 0, .int .i64 0, .string em], .int .i64 2]) (by simp [results, Try.results29, go_sem, *]) rfl ⟨rfl, ?_⟩
  (repeat (first | (with_reducible exact Below.refl _ _) | (with_reducible assumption) | (with_reducible apply below_drewN) | (with_reducible apply Below.drew) | ((with_reducible refine Below.setCell ?_ ?_ _); rotate_left; focus (first | (simp; done) | (simp; omega) | omega)) | ((with_reducible refine Below.alloc ?_ ?_ _); rotate_left; focus (first | (simp; done) | (simp; omega) | omega))))
set_option maxRecDepth 4000 in
set_option maxHeartbeats 1000000 in
theorem specList_many (g cap : Nat) (l : List Val) (w : World) (h : ¬ 4096 < l.length) (h2 : 300 < l.length) :
    Calls Try.prog 29 #[.slice (some ⟨g, 0, none⟩) l.length cap] w fun e w' => e = .returned (.tuple #[.agg #[.int .i64 0, .int .i64 0, .string em], .int .i64 10]) ∧ Below w.heap.size w w' := by
  have hh : ¬ (4096 : Int) < (l.length : Int) := by omega
  have hh2 : (300 : Int) < (l.length : Int) := by omega
  go_enter Try.func29, Try.ntmps29
  go_wp2_with fail
  refine bodyPost_ret (v := .tuple #[.agg #[.int .i64 0, .int .i64 0, .string em], .int .i64 10]) (by simp [results, Try.results29, go_sem, *]) rfl ⟨rfl, ?_⟩
  (repeat (first | (with_reducible exact Below.refl _ _) | (with_reducible assumption) | (with_reducible apply below_drewN) | (with_reducible apply Below.drew) | ((with_reducible refine Below.setCell ?_ ?_ _); rotate_left; focus (first | (simp; done) | (simp; omega) | omega)) | ((with_reducible refine Below.alloc ?_ ?_ _); rotate_left; focus (first | (simp; done) | (simp; omega) | omega))))
set_option maxRecDepth 4000 in
set_option maxHeartbeats 2000000 in
theorem specList_few (g cap : Nat) (l : List Val) (w : World) (hr : ReadV w g l) (h2 : ¬ 300 < l.length) (hts : ∀ v ∈ l, v.t.size ≤ 1048576) :
    Calls Try.prog 29 #[.slice (some ⟨g, 0, none⟩) l.length cap] w fun e w' => e = .returned (.tuple #[aggV (listP l).1, .int .i64 (listP l).2]) ∧ Below w.heap.size w w' := by
  have hh : ¬ (4096 : Int) < (l.length : Int) := by omega
  have hh2 : ¬ (300 : Int) < (l.length : Int) := by omega
  obtain ⟨P, hP⟩ : ∃ P, P = listP l := ⟨_, rfl⟩
  rw [← hP]
  have HP : Hid _ := hP
  have HR : Hid _ := hr
  have HT : Hid _ := hts
  clear hr hts hP
  go_enter Try.func29, Try.ntmps29
  go_wp2_with fail
  go_loopw [4] (fun i wr => ∃ k : Nat, k ≤ l.length ∧ i = .int .i64 k ∧ (∀ v ∈ l.take k, okB v = true) ∧ Res3 w wr (.int .i64 0) (.int .i64 0) (.string em)) (fun i _ => l.length - (intOf i).toNat)
  case atStart => exact ⟨0, Nat.zero_le _, rfl, fun v hv => by simp at hv, Res3.start w _ _ _ _⟩
  case round =>
    obtain ⟨k, hk, rfl, hall, X0⟩ := hrel
    have HA : Hid _ := hall
    clear hall
    have hbel := X0.bel
    have hz := hbel.size
    by_cases hlt : k < l.length
    · obtain ⟨x0, x1, x2⟩ := (HR.out.next hbel).cells k hlt
      have hs := HT.out l[k] (List.getElem_mem _)
      cases hok : okB l[k]
      · have HK : Hid (okB ⟨l[k].k, l[k].n, l[k].t⟩ = false) := hok
        have e := HP.out
        rw [listP_bad l h2 k hlt hok] at e
        subst e
        clear hok HP
        go_wp2_with fail
        refine (specValueOK_any _ _ _ _ hs).mono ?_
        rintro e w1 ⟨rfl, hb⟩
        rw [HK.out]
        have Y := X0.step hb
        have g0 := Y.c0
        have g1 := Y.c1
        have g2 := Y.c2
        have z0 := Y.z0
        have z1 := Y.z1
        have z2 := Y.z2
        have hlt1 := Y.lt
        have hbw := Y.bel
        clear hb Y X0 hbel hz
        go_wp2_with fail
        refine bodyPost_ret (v := .tuple #[.agg #[.int .i64 0, .int .i64 0, .string em], .int .i64 1]) (by simp [results, Try.results29, go_sem, *]) rfl ⟨rfl, ?_⟩
        (repeat (first | (with_reducible exact Below.refl _ _) | (with_reducible assumption) | (with_reducible apply below_drewN) | (with_reducible apply Below.drew) | ((with_reducible refine Below.setCell ?_ ?_ _); rotate_left; focus (first | (simp; done) | (simp; omega) | omega)) | ((with_reducible refine Below.alloc ?_ ?_ _); rotate_left; focus (first | (simp; done) | (simp; omega) | omega))))
      · have HK : Hid (okB ⟨l[k].k, l[k].n, l[k].t⟩ = true) := hok
        clear hok
        go_wp2_with fail
        refine (specValueOK_any _ _ _ _ hs).mono ?_
        rintro e w1 ⟨rfl, hb⟩
        rw [HK.out]
        have Y := X0.step hb
        clear hb X0
        go_wp2_with fail
        go_roundw
        case rel => exact ⟨k + 1, by omega, by go_num, take_all _ l k hlt HA.out HK.out, Y⟩
        case measure => simp [intOf]; omega
    · have e : l.take k = l := List.take_of_length_le (by omega)
      have hall := HA.out
      rw [e] at hall
      have HA2 : Hid _ := hall
      have hp := HP.out
      rw [listP_ok l h2 hall] at hp
      subst hp
      have hl : l.length ≤ 300 := by omega
      have R := HR.out.next hbel
      have HR2 : Hid _ := R
      clear HA hall HP R e
      go_wp2_with fail
      refine (l01List_any g cap l _ HR2.out hl HA2.out).mono ?_
      rintro e w1 ⟨rfl, hb⟩
      have Y1 := X0.step hb
      clear hb X0 hbel hz
      go_wp2_with fail
      refine (l01Fit_list l _ hl HA2.out).mono ?_
      rintro e w2 ⟨rfl, hb⟩
      have Y := Y1.step hb
      have g0 := Y.c0
      have g1 := Y.c1
      have g2 := Y.c2
      have z0 := Y.z0
      have z1 := Y.z1
      have z2 := Y.z2
      have hlt1 := Y.lt
      have hbw := Y.bel
      clear hb Y Y1
      go_wp2_with fail
      refine bodyPost_ret (v := .tuple #[aggV (fitP l).1, .int .i64 (fitP l).2]) (by simp [results, Try.results29, go_sem, *]) rfl ⟨rfl, ?_⟩
      (repeat (first | (with_reducible exact Below.refl _ _) | (with_reducible assumption) | (with_reducible apply below_drewN) | (with_reducible apply Below.drew) | ((with_reducible refine Below.setCell ?_ ?_ _); rotate_left; focus (first | (simp; done) | (simp; omega) | omega)) | ((with_reducible refine Below.alloc ?_ ?_ _); rotate_left; focus (first | (simp; done) | (simp; omega) | omega))))
theorem specList_any (g cap : Nat) (l : List Val) (w : World) (hr : ReadV w g l) (hl : l.length ≤ 1048576) (hts : ∀ v ∈ l, v.t.size ≤ 1048576) :
    Calls Try.prog 29 #[.slice (some ⟨g, 0, none⟩) l.length cap] w fun e w' => e = .returned (.tuple #[aggV (listP l).1, .int .i64 (listP l).2]) ∧ Below w.heap.size w w' := by
  by_cases h : 4096 < l.length
  · rw [listP_long l h]; exact specList_long g cap l w hl h
  · by_cases h2 : 300 < l.length
    · rw [listP_many l h h2]; exact specList_many g cap l w h h2
    · exact specList_few g cap l w hr h2 hts

end Go.Proofs.Ytkdigdoomnafbaa
