/- An entry put into a tree: the specification's answer. -/
import Derived.Test.YtnmpfooegnmknaaPutS
import Derived.Test.YtnmpfooegnmknaaPutU
import Derived.Test.YtnmpfooegnmknaaDraQ
import Derived.Test.YtnmpfooegnmknaaTrNQ
namespace Go.Proofs.Ytnmpfooegnmknaa.Tr
open Go.RowKit
set_option linter.unusedVariables false

theorem putP_len (f : List Pg) (k i : Nat) (e : Ent) : (putP f k i e).length = f.length := by
  unfold putP; split
  · rfl
  · rw [List.length_set]
theorem splitP_len (f : List Pg) (next : Int) (k i : Nat) (e : Ent) (hk : k < f.length) : (splitP f next k i e).length = f.length + 1 := by
  unfold splitP; rw [List.getElem?_eq_getElem hk]
  simp only [List.length_append, List.length_take, List.length_cons, List.length_drop]; omega
theorem specPut_split (g cap : Nat) (f : List Pg) (next : Int) (e : Ent) (k i : Nat) (w : World) (hF : FullP w g f) (hT : treeB f next = true) (hkk : place f e = k) (hk : k < f.length) (hP : PlaceE f[k].es e i false) (hfour : f[k].es.length = 4) (hl60 : f.length < 60) (hnx9 : next < 100000) :
    Calls Try.prog 52 #[.agg #[.slice (some ⟨g, 0, none⟩) f.length cap, .int .i64 next], .agg #[.string e.key, .int .i64 e.id]] w fun e' w' => (∃ p' cap', e' = .returned (.tuple #[.agg #[.slice p' (f.length + 1) cap', .int .i64 (next + 1)], .int .i64 next, .int .i64 0]) ∧ RowF w' p' (splitP f next k i e)) ∧ Below w.heap.size w w' := by
  by_cases hil : i < f[k].es.length
  · exact specPut_split_at g cap f next e k i w hF hT hkk hk hP hfour hl60 hnx9 hil
  · exact specPut_split_end g cap f next e k i w hF hT hkk hk hP hfour hl60 hnx9 hil
theorem specPut_at (g cap : Nat) (f : List Pg) (next : Int) (e : Ent) (w : World) (hF : FullP w g f) (hT : treeB f next = true) (hE : entB e = true) :
    Calls Try.prog 52 #[.agg #[.slice (some ⟨g, 0, none⟩) f.length cap, .int .i64 next], .agg #[.string e.key, .int .i64 e.id]] w fun e' w' => (∃ p' cap' f' n num code, e' = .returned (.tuple #[.agg #[.slice p' f'.length cap', .int .i64 n], .int .i64 num, .int .i64 code]) ∧ RowF w' p' f' ∧ PutR f next e f' n num code) ∧ Below w.heap.size w w' := by
  have h1 := (treeB_iff f next).1 hT
  have hk := place_lt f e (by omega)
  have h4 := tree_small hT f[place f e] (List.getElem_mem _)
  obtain ⟨i, b, hP⟩ := placeE_ex e f[place f e].es (page_rise hT hk)
  cases b with
  | true =>
    refine (specPut_there g cap f next e _ i w hF hT rfl hk hP).mono ?_
    rintro e' w' ⟨rfl, hb⟩
    refine ⟨⟨_, cap, f, next, 0, 12, rfl, ⟨g, rfl, hF.next hb⟩, ?_⟩, hb⟩
    unfold PutR; rw [if_pos ⟨hT, hE⟩]
    exact ⟨_, i, true, List.getElem?_eq_getElem hk, hP, .inl ⟨rfl, rfl, rfl, rfl, rfl⟩⟩
  | false =>
    rcases Nat.lt_or_ge f[place f e].es.length 4 with hl | hl
    · refine (specPut_small g cap f next e _ i w hF hT rfl hk hP hl).mono ?_
      rintro e' w' ⟨⟨p', cap', rfl, hR⟩, hb⟩
      refine ⟨⟨p', cap', putP f (place f e) i e, next, 0, 0, by rw [putP_len], hR, ?_⟩, hb⟩
      unfold PutR; rw [if_pos ⟨hT, hE⟩]
      exact ⟨_, i, false, List.getElem?_eq_getElem hk, hP, .inr (.inl ⟨rfl, hl, rfl, rfl, rfl, rfl⟩)⟩
    · have hl4 : f[place f e].es.length = 4 := by omega
      by_cases hfull : f.length = 60 ∨ next = 100000
      · refine (specPut_full g cap f next e _ i w hF hT rfl hk hP hl4 hfull).mono ?_
        rintro e' w' ⟨rfl, hb⟩
        refine ⟨⟨_, cap, f, next, 0, 7, rfl, ⟨g, rfl, hF.next hb⟩, ?_⟩, hb⟩
        unfold PutR; rw [if_pos ⟨hT, hE⟩]
        exact ⟨_, i, false, List.getElem?_eq_getElem hk, hP, .inr (.inr (.inl ⟨rfl, hl4, hfull, rfl, rfl, rfl, rfl⟩))⟩
      · have h60 : f.length < 60 := by omega
        have hnx : next < 100000 := by omega
        refine (specPut_split g cap f next e _ i w hF hT rfl hk hP hl4 h60 hnx).mono ?_
        rintro e' w' ⟨⟨p', cap', rfl, hR⟩, hb⟩
        refine ⟨⟨p', cap', splitP f next (place f e) i e, next + 1, next, 0, by rw [splitP_len _ _ _ _ _ hk], hR, ?_⟩, hb⟩
        unfold PutR; rw [if_pos ⟨hT, hE⟩]
        exact ⟨_, i, false, List.getElem?_eq_getElem hk, hP, .inr (.inr (.inr ⟨rfl, hl4, h60, hnx, rfl, rfl, rfl, rfl⟩))⟩
theorem PutR.small {f : List Pg} {next : Int} {e : Ent} {f' : List Pg} {n m code : Int} (h : PutR f next e f' n m code) : f'.length ≤ 1048576 ∧ ∀ l ∈ f', l.es.length ≤ 1048576 := by
  by_cases hT : treeB f next = true ∧ entB e = true
  · exact tree_sizes (h.right hT)
  · unfold PutR at h; rw [if_neg hT] at h; rw [h.1]; simp

set_option maxRecDepth 4000 in
set_option maxHeartbeats 1000000 in
theorem specTreePut_full (g cap : Nat) (f : List Pg) (next : Int) (e : Ent) (w : World) (hF : FullP w g f) (hl : f.length ≤ 1048576) (hs : ∀ l ∈ f, szP l) (hk : e.key.size ≤ 1048576) :
    Calls Try.prog 16 #[.agg #[.slice (some ⟨g, 0, none⟩) f.length cap, .int .i64 next], .agg #[.string e.key, .int .i64 e.id]] w fun e' w' => (∃ v f' n num code, e' = .returned (.tuple #[.agg #[v, .int .i64 n], .int .i64 num, .int .i64 code]) ∧ OwnT w' w.heap.size v f' ∧ PutR f next e f' n num code) ∧ Below w.heap.size w w' := by
  have M0 := MkD.start w (.slice (some ⟨g, 0, none⟩) f.length cap) next e 37 40
  have HC : Hid (∀ W : World, Below w.heap.size w W → Calls _ _ _ W _) := fun W hW => specTreeOK_any (some ⟨g, 0, none⟩) cap f next W (hF.rowP.next hW) hl hs
  have HE : Hid (∀ W : World, Calls _ _ _ W _) := fun W => specEntry_any e.key e.id W hk
  have HF : Hid (FullP _ _ _) := hF
  clear hF hs
  cases hT : treeB f next
  · have HQ : Hid (treeB f next = false) := hT
    have HD : Hid (PutR f next e [] 0 0 1) := PutR.bad (by rw [hT]; simp)
    clear hT
    go_enter Try.func16, Try.ntmps16
    go_wp2_with fail
    refine (HC.out _ M0.bel).mono ?_
    rintro e' w1 ⟨rfl, hb1⟩
    rw [HQ.out]
    obtain ⟨mb, ml, mc0, mc1, mz0, mz1, md0, md1, mr0, mr1, my0, my1⟩ := M0.next hb1
    clear hb1 M0
    go_wp2_with fail
    refine bodyPost_ret (v := .tuple #[.agg #[.slice none 0 0, .int .i64 0], .int .i64 0, .int .i64 1]) (by simp [results, Try.results16, go_sem, *]) rfl ⟨⟨_, [], 0, 0, 1, rfl, ownT_none, HD.out⟩, ?_⟩
    (repeat (first | (with_reducible exact Below.refl _ _) | (with_reducible assumption) | (with_reducible apply below_drewN) | (with_reducible apply Below.drew) | ((with_reducible refine Below.setCell ?_ ?_ _); rotate_left; focus (first | (simp; done) | (simp; omega) | omega)) | ((with_reducible refine Below.alloc ?_ ?_ _); rotate_left; focus (first | (simp; done) | (simp; omega) | omega))))
  · cases hE : entB e
    · have HQ : Hid (treeB f next = true) := hT
      have HQE : Hid (entB ⟨e.key, e.id⟩ = false) := hE
      have HD : Hid (PutR f next e [] 0 0 1) := PutR.bad (by rw [hE]; simp)
      clear hT hE
      go_enter Try.func16, Try.ntmps16
      go_wp2_with fail
      refine (HC.out _ M0.bel).mono ?_
      rintro e' w1 ⟨rfl, hb1⟩
      rw [HQ.out]
      have M1 := M0.next hb1
      have HM1 : Hid (MkD _ _ _ _ _) := M1
      have q0 := M1.d0
      have q1 := M1.d1
      clear hb1 M0 M1
      go_wp2_with fail
      refine (HE.out _).mono ?_
      rintro e' w2 ⟨rfl, hb2⟩
      rw [HQE.out]
      obtain ⟨mb, ml, mc0, mc1, mz0, mz1, md0, md1, mr0, mr1, my0, my1⟩ := HM1.out.next hb2
      clear hb2 q0 q1
      go_wp2_with fail
      refine bodyPost_ret (v := .tuple #[.agg #[.slice none 0 0, .int .i64 0], .int .i64 0, .int .i64 1]) (by simp [results, Try.results16, go_sem, *]) rfl ⟨⟨_, [], 0, 0, 1, rfl, ownT_none, HD.out⟩, ?_⟩
      (repeat (first | (with_reducible exact Below.refl _ _) | (with_reducible assumption) | (with_reducible apply below_drewN) | (with_reducible apply Below.drew) | ((with_reducible refine Below.setCell ?_ ?_ _); rotate_left; focus (first | (simp; done) | (simp; omega) | omega)) | ((with_reducible refine Below.alloc ?_ ?_ _); rotate_left; focus (first | (simp; done) | (simp; omega) | omega))))
    · have HQ : Hid (treeB f next = true) := hT
      have HQE : Hid (entB ⟨e.key, e.id⟩ = true) := hE
      clear hT hE
      go_enter Try.func16, Try.ntmps16
      go_wp2_with fail
      refine (HC.out _ M0.bel).mono ?_
      rintro e' w1 ⟨rfl, hb1⟩
      rw [HQ.out]
      have M1 := M0.next hb1
      have HM1 : Hid (MkD _ _ _ _ _) := M1
      have q0 := M1.d0
      have q1 := M1.d1
      clear hb1 M0 M1
      go_wp2_with fail
      refine (HE.out _).mono ?_
      rintro e' w2 ⟨rfl, hb2⟩
      rw [HQE.out]
      have M2 := HM1.out.next hb2
      have HM2 : Hid (MkD _ _ _ _ _) := M2
      clear hb2 q0 q1 HM1
      have q0 := M2.d0
      have q1 := M2.d1
      have q2 := M2.c0
      have q3 := M2.c1
      go_wp2_with fail
      refine (specPut_at g cap f next e _ (HF.out.next M2.bel) HQ.out HQE.out).mono ?_
      rintro e' w3 ⟨⟨p', cap', f', nx', num, code, rfl, hR3', hD3⟩, hb3⟩
      have hR3 := hR3'.rowP
      clear hR3'
      have hT3 := hD3.right ⟨HQ.out, HQE.out⟩
      have hM3 := M2.next hb3
      have HM3 : Hid (MkD _ _ _ _ _) := hM3
      have HR3 : Hid (RowP w3 p' f') := hR3
      have HD3 : Hid (PutR _ _ _ _ _ _ _) := hD3
      have HS3 : Hid (f'.length ≤ 100 ∧ ∀ l ∈ f', l.es.length ≤ 100) := by
        have h := (treeB_iff f' nx').1 hT3
        exact ⟨by omega, fun l hl => Nat.le_trans (h.2.1 l hl).1 (by omega)⟩
      have hz3 := hM3.lt
      clear q0 q1 q2 q3 hb3 hR3 hD3 hT3 M2 hM3 HM2
      go_wp2_with fail
      have B4 : Below w3.heap.size w3 (w3.alloc (.cells #[.slice p' f'.length cap', .int .i64 nx'] 37)) := (Below.refl _ _).alloc (Nat.le_refl _) _
      refine (specOwn_any p' cap' f' nx' _ (HR3.out.next B4) HS3.out.1 HS3.out.2).mono ?_
      rintro e' w5 ⟨⟨v5, rfl, hO⟩, hb5⟩
      have B5 : Below w3.heap.size w3 w5 := B4.trans (hb5.mono (by simp))
      have HO : Hid (OwnT w5 w3.heap.size v5 f') := hO.mono (by simp)
      obtain ⟨p5, c5, rfl⟩ : ∃ p5 c5, v5 = .slice p5 f'.length c5 := by
        rcases hO.form with ⟨rfl, rfl⟩ | ⟨g, c, rfl, _⟩
        · exact ⟨_, _, rfl⟩
        · exact ⟨_, _, rfl⟩
      obtain ⟨mb, ml, mc0, mc1, mz0, mz1, md0, md1, mr0, mr1, my0, my1⟩ := HM3.out.next B5
      clear hb5 hO B4 B5
      go_wp2_with fail
      refine bodyPost_ret (v := .tuple #[.agg #[.slice p5 f'.length c5, .int .i64 nx'], .int .i64 num, .int .i64 code]) (by simp [results, Try.results16, go_sem, *]) rfl ⟨⟨_, f', nx', num, code, rfl, ?_, HD3.out⟩, ?_⟩
      · exact ((HO.out.grown grown_set (by omega)).grown grown_set (by omega)).mono (by omega)
      · (repeat (first | (with_reducible exact Below.refl _ _) | (with_reducible assumption) | (with_reducible apply below_drewN) | (with_reducible apply Below.drew) | ((with_reducible refine Below.setCell ?_ ?_ _); rotate_left; focus (first | (simp; done) | (simp; omega) | omega)) | ((with_reducible refine Below.alloc ?_ ?_ _); rotate_left; focus (first | (simp; done) | (simp; omega) | omega))))

end Go.Proofs.Ytnmpfooegnmknaa.Tr
