/- An entry put into a tree: what the program answers. -/
import Derived.Test.YtnmpfooegnmknaaDraP
import Derived.Test.YtnmpfooegnmknaaPutO
import Derived.Test.YtnmpfooegnmknaaDraD
namespace Go.Proofs.Ytnmpfooegnmknaa.Tr
open Go.RowKit
set_option linter.unusedVariables false

theorem put_any (base d : Nat) (f : List Pg) (next : Int) (e : Ent) (w : World) (hD : DraftE w base d f next) (hT : treeB f next = true) (hE : entB e = true) (hbase : base ≤ w.heap.size) :
    Calls Try.prog 48 #[.pointer (some ⟨d, 0, none⟩), .agg #[.string e.key, .int .i64 e.id]] w fun e' w' => (∃ f' next' num code, e' = .returned (.tuple #[.int .i64 num, .int .i64 code]) ∧ DraftE w' base d f' next' ∧ PutR f next e f' next' num code) ∧ Below base w w' := by
  obtain ⟨gp, cp, ps, hD⟩ := hD
  have h1 := (treeB_iff f next).1 hT
  have hk := place_lt f e (by omega)
  have h4 := tree_small hT f[place f e] (List.getElem_mem _)
  obtain ⟨i, b, hP⟩ := placeE_ex e f[place f e].es (page_rise hT hk)
  cases b with
  | true =>
    refine (put_there base d gp cp ps f next e _ i w hD hT hbase rfl hk hP).mono ?_
    rintro e' w' ⟨rfl, hb⟩
    refine ⟨⟨f, next, 0, 12, rfl, ⟨_, _, _, hD.next hb⟩, ?_⟩, hb.mono hbase⟩
    unfold PutR; rw [if_pos ⟨hT, hE⟩]
    exact ⟨_, i, true, List.getElem?_eq_getElem hk, hP, .inl ⟨rfl, rfl, rfl, rfl, rfl⟩⟩
  | false =>
    rcases Nat.lt_or_ge f[place f e].es.length 4 with hl | hl
    · refine (put_small base d gp cp ps f next e _ i w hD hT hbase rfl hk hP hl).mono ?_
      rintro e' w' ⟨⟨rfl, hD'⟩, hb⟩
      refine ⟨⟨_, next, 0, 0, rfl, hD', ?_⟩, hb⟩
      unfold PutR; rw [if_pos ⟨hT, hE⟩]
      exact ⟨_, i, false, List.getElem?_eq_getElem hk, hP, .inr (.inl ⟨rfl, hl, rfl, rfl, rfl, rfl⟩)⟩
    · have hl4 : f[place f e].es.length = 4 := by omega
      by_cases hfull : f.length = 60 ∨ next = 100000
      · refine (put_full base d gp cp ps f next e _ i w hD hT hbase rfl hk hP hl4 hfull).mono ?_
        rintro e' w' ⟨rfl, hb⟩
        refine ⟨⟨f, next, 0, 7, rfl, ⟨_, _, _, hD.next hb⟩, ?_⟩, hb.mono hbase⟩
        unfold PutR; rw [if_pos ⟨hT, hE⟩]
        exact ⟨_, i, false, List.getElem?_eq_getElem hk, hP, .inr (.inr (.inl ⟨rfl, hl4, hfull, rfl, rfl, rfl, rfl⟩))⟩
      · have h60 : f.length < 60 := by omega
        have hnx : next < 100000 := by omega
        refine (put_split base d gp cp ps f next e _ i w hD hT hbase rfl hk hP hl4 h60 hnx (by omega)).mono ?_
        rintro e' w' ⟨⟨rfl, hD'⟩, hb⟩
        refine ⟨⟨_, next + 1, next, 0, rfl, hD', ?_⟩, hb⟩
        unfold PutR; rw [if_pos ⟨hT, hE⟩]
        exact ⟨_, i, false, List.getElem?_eq_getElem hk, hP, .inr (.inr (.inr ⟨rfl, hl4, h60, hnx, rfl, rfl, rfl, rfl⟩))⟩

set_option maxRecDepth 4000 in
set_option maxHeartbeats 2000000 in
theorem treePut_any (g cap : Nat) (f : List Pg) (next : Int) (e : Ent) (w : World) (hF : FullP w g f) (hl : f.length ≤ 1048576) (hcap : f.length ≤ cap) (hs : ∀ l ∈ f, szP l) (hk : e.key.size ≤ 1048576) :
    Calls Try.prog 15 #[.agg #[.slice (some ⟨g, 0, none⟩) f.length cap, .int .i64 next], .agg #[.string e.key, .int .i64 e.id]] w fun e' w' => (∃ v f' n num code, e' = .returned (.tuple #[.agg #[v, .int .i64 n], .int .i64 num, .int .i64 code]) ∧ OwnT w' w.heap.size v f' ∧ PutR f next e f' n num code) ∧ Below w.heap.size w w' := by
  have M0 := MkD.start w (.slice (some ⟨g, 0, none⟩) f.length cap) next e 37 40
  have HC : Hid (∀ W : World, Below w.heap.size w W → Calls _ _ _ W _) := fun W hW => treeOK_any (some ⟨g, 0, none⟩) cap f next W (hF.rowP.next hW) hl hcap hs
  have HE : Hid (∀ W : World, Calls _ _ _ W _) := fun W => entryOK_any e.key e.id W hk
  have HF : Hid (FullP _ _ _) := hF
  clear hF hs
  cases hT : treeB f next
  · have HQ : Hid (treeB f next = false) := hT
    have HD : Hid (PutR f next e [] 0 0 1) := PutR.bad (by rw [hT]; simp)
    clear hT
    go_enter Try.func15, Try.ntmps15
    go_wp2_with fail
    refine (HC.out _ M0.bel).mono ?_
    rintro e' w1 ⟨rfl, hb1⟩
    rw [HQ.out]
    obtain ⟨mb, ml, mc0, mc1, mz0, mz1, md0, md1, mr0, mr1, my0, my1⟩ := M0.next hb1
    clear hb1 M0
    go_wp2_with fail
    refine bodyPost_ret (v := .tuple #[.agg #[.slice none 0 0, .int .i64 0], .int .i64 0, .int .i64 1]) (by simp [results, Try.results15, go_sem, *]) rfl ⟨⟨_, [], 0, 0, 1, rfl, ownT_none, HD.out⟩, ?_⟩
    (repeat (first | (with_reducible exact Below.refl _ _) | (with_reducible assumption) | (with_reducible apply below_drewN) | (with_reducible apply Below.drew) | ((with_reducible refine Below.setCell ?_ ?_ _); rotate_left; focus (first | (simp; done) | (simp; omega) | omega)) | ((with_reducible refine Below.alloc ?_ ?_ _); rotate_left; focus (first | (simp; done) | (simp; omega) | omega))))
  · cases hE : entB e
    · have HQ : Hid (treeB f next = true) := hT
      have HQE : Hid (entB ⟨e.key, e.id⟩ = false) := hE
      have HD : Hid (PutR f next e [] 0 0 1) := PutR.bad (by rw [hE]; simp)
      clear hT hE
      go_enter Try.func15, Try.ntmps15
      go_wp2_with fail
      refine (HC.out _ M0.bel).mono ?_
      rintro e' w1 ⟨rfl, hb1⟩
      rw [HQ.out]
      have M1 := M0.next hb1
      have HM1 : Hid (MkD _ _ _ _ _) := M1
      have q0 := M1.d0
      have q1 := M1.d1
      clear hb1 M0 M1
      go_wp2_with fail
      refine (HE.out _).mono ?_
      rintro e' w2 ⟨rfl, hb2⟩
      rw [HQE.out]
      obtain ⟨mb, ml, mc0, mc1, mz0, mz1, md0, md1, mr0, mr1, my0, my1⟩ := HM1.out.next hb2
      clear hb2 q0 q1
      go_wp2_with fail
      refine bodyPost_ret (v := .tuple #[.agg #[.slice none 0 0, .int .i64 0], .int .i64 0, .int .i64 1]) (by simp [results, Try.results15, go_sem, *]) rfl ⟨⟨_, [], 0, 0, 1, rfl, ownT_none, HD.out⟩, ?_⟩
      (repeat (first | (with_reducible exact Below.refl _ _) | (with_reducible assumption) | (with_reducible apply below_drewN) | (with_reducible apply Below.drew) | ((with_reducible refine Below.setCell ?_ ?_ _); rotate_left; focus (first | (simp; done) | (simp; omega) | omega)) | ((with_reducible refine Below.alloc ?_ ?_ _); rotate_left; focus (first | (simp; done) | (simp; omega) | omega))))
    · have HQ : Hid (treeB f next = true) := hT
      have HQE : Hid (entB ⟨e.key, e.id⟩ = true) := hE
      have h60 := ((treeB_iff f next).1 hT).1
      clear hT hE
      go_enter Try.func15, Try.ntmps15
      go_wp2_with fail
      refine (HC.out _ M0.bel).mono ?_
      rintro e' w1 ⟨rfl, hb1⟩
      rw [HQ.out]
      have M1 := M0.next hb1
      have HM1 : Hid (MkD _ _ _ _ _) := M1
      have q0 := M1.d0
      have q1 := M1.d1
      clear hb1 M0 M1
      go_wp2_with fail
      refine (HE.out _).mono ?_
      rintro e' w2 ⟨rfl, hb2⟩
      rw [HQE.out]
      have M2 := HM1.out.next hb2
      have HM2 : Hid (MkD _ _ _ _ _) := M2
      clear hb2 q0 q1 HM1
      have q2 := M2.c0
      have q3 := M2.c1
      have B2 := M2.bel
      have hz2 := M2.lt
      clear M2
      go_wp2_with fail
      refine (draftOf_any g cap f next _ (HF.out.next B2) (by omega) (by omega)).mono ?_
      rintro e' w3 ⟨⟨d, rfl, hD3⟩, hb3⟩
      have M3 := HM2.out.next hb3
      have HM3 : Hid (MkD _ _ _ _ _) := M3
      have HD3 : Hid (DraftE w3 w2.heap.size d f next) := hD3
      have hz3 := hb3.size
      clear hb3 hD3 q2 q3 HM2
      have q0 := M3.d0
      have q1 := M3.d1
      clear M3
      go_wp2_with fail
      refine (put_any w2.heap.size d f next ⟨e.key, e.id⟩ _ HD3.out HQ.out HQE.out hz3).mono ?_
      rintro e' w4 ⟨⟨f', nx', num, code, rfl, hD4, hR4⟩, hb4⟩
      have HM4 : Hid (MkD _ _ _ _ _) := HM3.out.step hb4 (by omega)
      have HD4 : Hid (DraftE w4 w2.heap.size d f' nx') := hD4
      have HR4 : Hid (PutR f next e f' nx' num code) := hR4
      have hz4 := hb4.size
      clear hb4 hD4 hR4 q0 q1 HM3
      go_wp2_with fail
      refine (treeE_any w2.heap.size d f' nx' _ HD4.out (HR4.out.right ⟨HQ.out, HQE.out⟩)).mono ?_
      rintro e' w5 ⟨⟨v5, rfl, hO⟩, hb5⟩
      have HO : Hid (OwnT w5 w4.heap.size v5 f') := hO
      obtain ⟨p5, c5, rfl⟩ : ∃ p5 c5, v5 = .slice p5 f'.length c5 := by
        rcases hO.form with ⟨rfl, rfl⟩ | ⟨g, c, rfl, _⟩
        · exact ⟨_, _, rfl⟩
        · exact ⟨_, _, rfl⟩
      have hw4 := HM4.out.lt
      obtain ⟨mb, ml, mc0, mc1, mz0, mz1, md0, md1, mr0, mr1, my0, my1⟩ := HM4.out.next hb5
      clear hb5 hO
      go_wp2_with fail
      refine bodyPost_ret (v := .tuple #[.agg #[.slice p5 f'.length c5, .int .i64 nx'], .int .i64 num, .int .i64 code]) (by simp [results, Try.results15, go_sem, *]) rfl ⟨⟨_, f', nx', num, code, rfl, ?_, HR4.out⟩, ?_⟩
      · exact ((HO.out.grown grown_set (by omega)).grown grown_set (by omega)).mono (by omega)
      · (repeat (first | (with_reducible exact Below.refl _ _) | (with_reducible assumption) | (with_reducible apply below_drewN) | (with_reducible apply Below.drew) | ((with_reducible refine Below.setCell ?_ ?_ _); rotate_left; focus (first | (simp; done) | (simp; omega) | omega)) | ((with_reducible refine Below.alloc ?_ ?_ _); rotate_left; focus (first | (simp; done) | (simp; omega) | omega))))

end Go.Proofs.Ytnmpfooegnmknaa.Tr
