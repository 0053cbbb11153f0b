/- The specification's Install. -/
import Derived.Test.YtkafanjfjplakaaGreatDoorInsT
import Derived.Test.YtkafanjfjplakaaGreatDoorInsU
namespace Go.Proofs.YtkafanjfjplakaaGreatDoor.Co
open Go.RowKit Tr
set_option linter.unusedVariables false

theorem l08Install_any (c : Col) (t : Int) (x : Wrt) (k : Nat) (b : Bool) (g1 g2 cq : Nat) (w : World) (hr : RdC w g1 g2 c) (hs : SzCol c) (hB : collB c = true) (hT : timeB t = true) (hp : PlaceC c.chs x.id k b) :
    Calls Tryz.prog 65 #[.agg #[.string c.name, .slice (some ⟨g1, 0, none⟩) c.chs.length c.chs.length, .slice (some ⟨g2, 0, none⟩) c.dfs.length cq], .int .i64 t, .agg #[.string x.coll, .int .i64 x.id, .bool x.gone, .int .i64 x.doc.k, .int .i64 x.doc.n, .string x.doc.t]] w fun e w' => InsA (insK c t x k b) w e w' := by
  cases b with
  | false => exact l08Install_new c t x k g1 g2 cq w hr hs hB hT hp
  | true =>
    obtain ⟨hk, _, _⟩ := hp.some
    by_cases h1 : t ≤ newT c.chs[k].vs
    · exact l08Install_old c t x k g1 g2 cq w hr hs hB hT hp (fun _ => h1)
    · by_cases h2 : c.chs[k].vs.length = 12
      · exact l08Install_full c t x k g1 g2 cq w hr hs hB hT hp (fun _ => ⟨h1, h2⟩)
      · exact l08Install_more c t x k g1 g2 cq w hr hs hB hT hp (fun _ => ⟨h1, h2⟩)
structure OwnP (R : Col) : Prop where
  cl : R.chs.length ≤ 1000
  cs : ∀ p ∈ R.chs, p.vs.length ≤ 1000 ∧ 0 < p.vs.length
  dl : R.dfs.length ≤ 1000
  ds : ∀ p ∈ R.dfs, p.ps.length ≤ 1000 ∧ 0 < p.ps.length
theorem insK_parts {c : Col} (hB : collB c = true) (t : Int) (x : Wrt) (k : Nat) (b : Bool) : OwnP (insK c t x k b).1 := by
  have hpt := collB_parts hB
  have hdf := collB_defs hB
  have h20 := hpt.2.2.2.1
  have hv := fun y hy => (hpt.2.2.2.2.2 y hy).2.2.1
  have hv1 := fun y hy => (hpt.2.2.2.2.2 y hy).2.1
  have hd1 := hdf.1
  have hds : ∀ p ∈ c.dfs, p.ps.length ≤ 1000 ∧ 0 < p.ps.length := fun p hp => ⟨by have := (hdf.2 p hp).2; omega, by have := (hdf.2 p hp).1; omega⟩
  have hcs : ∀ p ∈ c.chs, p.vs.length ≤ 1000 ∧ 0 < p.vs.length := fun p hp => ⟨by have := hv p hp; omega, by have := hv1 p hp; omega⟩
  unfold insK
  split
  · split
    · rename_i y hy
      have hm : y ∈ c.chs := List.mem_of_getElem? hy
      split
      · refine ⟨by simp; omega, fun p hp => ?_, by show c.dfs.length ≤ _; omega, hds⟩
        rcases List.mem_or_eq_of_mem_set hp with h | h
        · exact hcs p h
        · rw [h]; have := hcs y hm; have := hv y hm; simp; omega
      · exact ⟨by show c.chs.length ≤ _; omega, hcs, by show c.dfs.length ≤ _; omega, hds⟩
    · exact ⟨by show c.chs.length ≤ _; omega, hcs, by show c.dfs.length ≤ _; omega, hds⟩
  · refine ⟨by simp; omega, fun p hp => ?_, by show c.dfs.length ≤ _; omega, hds⟩
    rcases List.mem_append.1 hp with h | h
    · exact hcs p (List.mem_of_mem_take h)
    · rcases List.mem_cons.1 h with h | h
      · rw [h]; simp
      · exact hcs p (List.mem_of_mem_drop h)
set_option maxRecDepth 8000 in
set_option maxHeartbeats 8000000 in
theorem specInstall_any (c : Col) (t : Int) (x : Wrt) (g1 g2 : Nat) (cq : Nat) (w : World) (hr : RdC w g1 g2 c) (hs : SzCol c) (hx : SzW x) :
    Calls Tryz.prog 17 #[.agg #[.string c.name, .slice (some ⟨g1, 0, none⟩) c.chs.length c.chs.length, .slice (some ⟨g2, 0, none⟩) c.dfs.length cq], .int .i64 t, .agg #[.string x.coll, .int .i64 x.id, .bool x.gone, .int .i64 x.doc.k, .int .i64 x.doc.n, .string x.doc.t]] w fun e w' => AnsS (insR c t x) w e w' := by
  have M0 := MkI.start w (.string c.name) (.slice (some ⟨g1, 0, none⟩) c.chs.length c.chs.length) (.slice (some ⟨g2, 0, none⟩) c.dfs.length cq) (.string em) (.slice none 0 0) (.slice none 0 0) x 30 45 30
  have HC : Hid (∀ W : World, RdC W g1 g2 c → Calls _ _ _ W _) := fun W hW => specColl_any c (some ⟨g1, 0, none⟩) (some ⟨g2, 0, none⟩) c.chs.length cq W hW.ch.inCh hW.df hs
  have HW : Hid (∀ W : World, Calls _ _ _ W _) := fun W => specWrite_any x W hx
  have HT : Hid (∀ W : World, Calls _ _ _ W _) := fun W => l01In_any t 1 10000 W
  have HTB : Hid (decide (1 ≤ t ∧ t ≤ 10000) = timeB t) := rfl
  rw [HTB.out] at HT
  have HR : Hid (RdC _ _ _ _) := hr
  have HSZ : Hid (SzCol c) := hs
  clear hr hs hx HTB
  have d0 := M0.c0
  have d1 := M0.c1
  have d2 := M0.c2
  cases hB : collB c
  · have HV : Hid (insR c t x = (zCol, 1)) := insR_bad (fun h => by rw [hB] at h; simp at h)
    rw [hB] at HC
    clear hB HW HT
    go_enter Tryz.func17, Tryz.ntmps17
    go_wp2_with fail
    generalize ((w.alloc (.cells #[.string c.name, .slice (some ⟨g1, 0, none⟩) c.chs.length c.chs.length, .slice (some ⟨g2, 0, none⟩) c.dfs.length cq] 30)).alloc (.cells #[.string x.coll, .int .i64 x.id, .bool x.gone, .int .i64 x.doc.k, .int .i64 x.doc.n, .string x.doc.t] 45)).alloc (.cells #[.string em, .slice none 0 0, .slice none 0 0] 30) = W0 at M0 d0 d1 d2 ⊢
    refine (HC.out _ (HR.out.next M0.bel)).mono ?_
    rintro e w1 ⟨rfl, hb⟩
    obtain ⟨mb, ml, mc0, mc1, mc2, mwr, ⟨r0, mr0⟩, ⟨r1, mr1⟩, ⟨r2, mr2⟩, my0⟩ := M0.next hb
    clear hb
    go_wp2_with fail
    refine bodyPost_ret (v := .tuple #[.agg #[.string em, .slice none 0 0, .slice none 0 0], .int .i64 1]) (by simp [results, Tryz.results17, go_sem, *]) rfl (by rw [HV.out]; exact ansS_zero (by (repeat (first | (with_reducible exact Below.refl _ _) | (with_reducible assumption) | (with_reducible apply below_drewN) | (with_reducible apply Below.drew) | ((with_reducible refine Below.setCell ?_ ?_ _); rotate_left; focus (first | (simp; done) | (simp; omega) | omega)) | ((with_reducible refine Below.alloc ?_ ?_ _); rotate_left; focus (first | (simp; done) | (simp; omega) | omega))))) rfl)
  · rw [hB] at HC
    cases hWB : writeB x
    · have HV : Hid (insR c t x = (zCol, 1)) := insR_bad (fun h => by rw [hWB] at h; simp at h)
      rw [hWB] at HW
      clear hB hWB HT
      go_enter Tryz.func17, Tryz.ntmps17
      go_wp2_with fail
      generalize ((w.alloc (.cells #[.string c.name, .slice (some ⟨g1, 0, none⟩) c.chs.length c.chs.length, .slice (some ⟨g2, 0, none⟩) c.dfs.length cq] 30)).alloc (.cells #[.string x.coll, .int .i64 x.id, .bool x.gone, .int .i64 x.doc.k, .int .i64 x.doc.n, .string x.doc.t] 45)).alloc (.cells #[.string em, .slice none 0 0, .slice none 0 0] 30) = W0 at M0 d0 d1 d2 ⊢
      refine (HC.out _ (HR.out.next M0.bel)).mono ?_
      rintro e w1 ⟨rfl, hb⟩
      have M1 := M0.next hb
      have a0 := M1.wr.c0
      have a1 := M1.wr.c1
      have a2 := M1.wr.c2
      have a3 := M1.wr.c3
      have a4 := M1.wr.c4
      have a5 := M1.wr.c5
      clear hb M0 d0 d1 d2 HC
      go_wp2_with fail
      refine (HW.out _).mono ?_
      rintro e w2 ⟨rfl, hb⟩
      clear a0 a1 a2 a3 a4 a5
      obtain ⟨mb, ml, mc0, mc1, mc2, mwr, ⟨r0, mr0⟩, ⟨r1, mr1⟩, ⟨r2, mr2⟩, my0⟩ := M1.next hb
      clear hb
      go_wp2_with fail
      refine bodyPost_ret (v := .tuple #[.agg #[.string em, .slice none 0 0, .slice none 0 0], .int .i64 1]) (by simp [results, Tryz.results17, go_sem, *]) rfl (by rw [HV.out]; exact ansS_zero (by (repeat (first | (with_reducible exact Below.refl _ _) | (with_reducible assumption) | (with_reducible apply below_drewN) | (with_reducible apply Below.drew) | ((with_reducible refine Below.setCell ?_ ?_ _); rotate_left; focus (first | (simp; done) | (simp; omega) | omega)) | ((with_reducible refine Below.alloc ?_ ?_ _); rotate_left; focus (first | (simp; done) | (simp; omega) | omega))))) rfl)
    · rw [hWB] at HW
      cases hNM : (x.coll.toList == c.name.toList)
      · have HV : Hid (insR c t x = (zCol, 1)) := insR_bad (fun h => by rw [hNM] at h; simp at h)
        clear hB hWB HT
        go_enter Tryz.func17, Tryz.ntmps17
        go_wp2_with fail
        generalize ((w.alloc (.cells #[.string c.name, .slice (some ⟨g1, 0, none⟩) c.chs.length c.chs.length, .slice (some ⟨g2, 0, none⟩) c.dfs.length cq] 30)).alloc (.cells #[.string x.coll, .int .i64 x.id, .bool x.gone, .int .i64 x.doc.k, .int .i64 x.doc.n, .string x.doc.t] 45)).alloc (.cells #[.string em, .slice none 0 0, .slice none 0 0] 30) = W0 at M0 d0 d1 d2 ⊢
        refine (HC.out _ (HR.out.next M0.bel)).mono ?_
        rintro e w1 ⟨rfl, hb⟩
        have M1 := M0.next hb
        have a0 := M1.wr.c0
        have a1 := M1.wr.c1
        have a2 := M1.wr.c2
        have a3 := M1.wr.c3
        have a4 := M1.wr.c4
        have a5 := M1.wr.c5
        clear hb M0 d0 d1 d2 HC
        go_wp2_with fail
        refine (HW.out _).mono ?_
        rintro e w2 ⟨rfl, hb⟩
        clear a0 a1 a2 a3 a4 a5
        obtain ⟨mb, ml, mc0, mc1, mc2, ⟨mwl, mw0, mw1, mw2, mw3, mw4, mw5⟩, ⟨r0, mr0⟩, ⟨r1, mr1⟩, ⟨r2, mr2⟩, my0⟩ := M1.next hb
        clear hb
        go_wp2_with fail
        refine bodyPost_ret (v := .tuple #[.agg #[.string em, .slice none 0 0, .slice none 0 0], .int .i64 1]) (by simp [results, Tryz.results17, go_sem, *]) rfl (by rw [HV.out]; exact ansS_zero (by (repeat (first | (with_reducible exact Below.refl _ _) | (with_reducible assumption) | (with_reducible apply below_drewN) | (with_reducible apply Below.drew) | ((with_reducible refine Below.setCell ?_ ?_ _); rotate_left; focus (first | (simp; done) | (simp; omega) | omega)) | ((with_reducible refine Below.alloc ?_ ?_ _); rotate_left; focus (first | (simp; done) | (simp; omega) | omega))))) rfl)
      · cases hTM : timeB t
        · have HV : Hid (insR c t x = (zCol, 4)) := insR_time hB hWB hNM hTM
          rw [hTM] at HT
          clear hB hWB hTM
          go_enter Tryz.func17, Tryz.ntmps17
          go_wp2_with fail
          generalize ((w.alloc (.cells #[.string c.name, .slice (some ⟨g1, 0, none⟩) c.chs.length c.chs.length, .slice (some ⟨g2, 0, none⟩) c.dfs.length cq] 30)).alloc (.cells #[.string x.coll, .int .i64 x.id, .bool x.gone, .int .i64 x.doc.k, .int .i64 x.doc.n, .string x.doc.t] 45)).alloc (.cells #[.string em, .slice none 0 0, .slice none 0 0] 30) = W0 at M0 d0 d1 d2 ⊢
          refine (HC.out _ (HR.out.next M0.bel)).mono ?_
          rintro e w1 ⟨rfl, hb⟩
          have M1 := M0.next hb
          have a0 := M1.wr.c0
          have a1 := M1.wr.c1
          have a2 := M1.wr.c2
          have a3 := M1.wr.c3
          have a4 := M1.wr.c4
          have a5 := M1.wr.c5
          clear hb M0 d0 d1 d2 HC
          go_wp2_with fail
          refine (HW.out _).mono ?_
          rintro e w2 ⟨rfl, hb⟩
          have M2 := M1.next hb
          have n0 := M2.c0
          have q0 := M2.wr.c0
          clear hb M1 a0 a1 a2 a3 a4 a5
          go_wp2_with fail
          refine (HT.out _).mono ?_
          rintro e w3 ⟨rfl, rfl⟩
          have hb : True := trivial
          obtain ⟨mb, ml, mc0, mc1, mc2, mwr, ⟨r0, mr0⟩, ⟨r1, mr1⟩, ⟨r2, mr2⟩, my0⟩ := M2
          clear hb
          go_wp2_with fail
          refine bodyPost_ret (v := .tuple #[.agg #[.string em, .slice none 0 0, .slice none 0 0], .int .i64 4]) (by simp [results, Tryz.results17, go_sem, *]) rfl (by rw [HV.out]; exact ansS_zero (by (repeat (first | (with_reducible exact Below.refl _ _) | (with_reducible assumption) | (with_reducible apply below_drewN) | (with_reducible apply Below.drew) | ((with_reducible refine Below.setCell ?_ ?_ _); rotate_left; focus (first | (simp; done) | (simp; omega) | omega)) | ((with_reducible refine Below.alloc ?_ ?_ _); rotate_left; focus (first | (simp; done) | (simp; omega) | omega))))) rfl)
        · rw [hTM] at HT
          obtain ⟨k, b, hpl⟩ := place_ex c.chs (-1) (by unfold collB at hB; simp only [Bool.and_eq_true] at hB; exact hB.2.2) x.id
          have hRR := insR_at hB hWB hNM hTM hpl
          have HL : Hid (∀ W : World, RdC W g1 g2 c → Calls _ _ _ W _) := fun W hW => l08Install_any c t x k b g1 g2 cq W hW HSZ.out hB hTM hpl
          have HPA : Hid (OwnP (insK c t x k b).1) := insK_parts hB t x k b
          obtain ⟨R, hRe⟩ : ∃ R, R = insK c t x k b := ⟨_, rfl⟩
          rw [← hRe] at hRR HL HPA
          have HRR : Hid (insR c t x = R) := hRR
          clear hB hWB hTM hRR hRe hpl
          go_enter Tryz.func17, Tryz.ntmps17
          go_wp2_with fail
          generalize ((w.alloc (.cells #[.string c.name, .slice (some ⟨g1, 0, none⟩) c.chs.length c.chs.length, .slice (some ⟨g2, 0, none⟩) c.dfs.length cq] 30)).alloc (.cells #[.string x.coll, .int .i64 x.id, .bool x.gone, .int .i64 x.doc.k, .int .i64 x.doc.n, .string x.doc.t] 45)).alloc (.cells #[.string em, .slice none 0 0, .slice none 0 0] 30) = W0 at M0 d0 d1 d2 ⊢
          refine (HC.out _ (HR.out.next M0.bel)).mono ?_
          rintro e w1 ⟨rfl, hb⟩
          have M1 := M0.next hb
          have a0 := M1.wr.c0
          have a1 := M1.wr.c1
          have a2 := M1.wr.c2
          have a3 := M1.wr.c3
          have a4 := M1.wr.c4
          have a5 := M1.wr.c5
          clear hb M0 d0 d1 d2 HC
          go_wp2_with fail
          refine (HW.out _).mono ?_
          rintro e w2 ⟨rfl, hb⟩
          have M2 := M1.next hb
          have n0 := M2.c0
          have q0 := M2.wr.c0
          clear hb M1 a0 a1 a2 a3 a4 a5 HW
          go_wp2_with fail
          refine (HT.out _).mono ?_
          rintro e w3 ⟨rfl, rfl⟩
          have n1 := M2.c1
          have n2 := M2.c2
          have b1 := M2.wr.c1
          have b2 := M2.wr.c2
          have b3 := M2.wr.c3
          have b4 := M2.wr.c4
          have b5 := M2.wr.c5
          clear HT hNM
          go_wp2_with fail
          refine (HL.out _ (HR.out.next M2.bel)).mono ?_
          rintro e w4 ⟨hb4, p5, q5, c5, d5, rfl, hRC, hRD⟩
          have hbA : Below w4.heap.size w4 (w4.alloc (.cells #[.string R.1.name, .slice p5 R.1.chs.length c5, .slice q5 R.1.dfs.length d5] 30)) := (Below.refl _ _).alloc (Nat.le_refl _) _
          have M4 := (M2.next hb4).next hbA
          have HRC : Hid (RowCh _ _ _) := hRC.next hbA
          have HRD : Hid (RowDf _ _ _) := hRD.next hbA
          clear hRC hRD hbA M2 n0 n1 n2 q0 b1 b2 b3 b4 b5 HL hb4
          go_wp2_with fail
          generalize w4.alloc (.cells #[.string R.1.name, .slice p5 R.1.chs.length c5, .slice q5 R.1.dfs.length d5] 30) = W4 at M4 HRC HRD ⊢
          refine (specOwnC_any R.1.name p5 q5 c5 d5 R.1.chs R.1.dfs W4 HRC.out HRD.out HPA.out.cl HPA.out.cs HPA.out.dl HPA.out.ds).mono ?_
          rintro e w9 ⟨⟨v9, u9, mid, rfl, hm1, hm2, hCh, hDf⟩, hb9⟩
          obtain ⟨pc9, cc9, rfl⟩ := hCh.slice
          obtain ⟨pd9, cd9, rfl⟩ := hDf.slice
          have HCh : Hid (OwnChH _ _ _ _ _) := hCh
          have HDf : Hid (OwnDfH _ _ _ _ _) := hDf
          have hw4 := M4.lt
          obtain ⟨mb, ml, mc0, mc1, mc2, mwr, ⟨r0, mr0⟩, ⟨r1, mr1⟩, ⟨r2, mr2⟩, my0⟩ := M4.next hb9
          clear hCh hDf hb9 M4
          go_wp2_with fail
          refine bodyPost_ret (v := .tuple #[.agg #[.string R.1.name, .slice pc9 R.1.chs.length cc9, .slice pd9 R.1.dfs.length cd9], .int .i64 R.2]) (by simp [results, Tryz.results17, go_sem, *]) rfl ?_
          rw [HRR.out]
          refine ⟨by (repeat (first | (with_reducible exact Below.refl _ _) | (with_reducible assumption) | (with_reducible apply below_drewN) | (with_reducible apply Below.drew) | ((with_reducible refine Below.setCell ?_ ?_ _); rotate_left; focus (first | (simp; done) | (simp; omega) | omega)) | ((with_reducible refine Below.alloc ?_ ?_ _); rotate_left; focus (first | (simp; done) | (simp; omega) | omega)))), pc9, pd9, cc9, cd9, mid, w9.heap.size, rfl, by omega, hm2, by simp [World.setCell], ?_, ?_⟩
          · refine OwnChS.mono (OwnChH.set (chH_at (chH_at (chH_at HCh.out _ _ _ (by omega)) _ _ _ (by omega)) _ _ _ (by omega))) (by omega) (fun b hb => ?_)
            unfold sS; omega
          · exact dfH_at (dfH_at (dfH_at HDf.out _ _ _ (by omega)) _ _ _ (by omega)) _ _ _ (by omega)

end Go.Proofs.YtkafanjfjplakaaGreatDoor.Co
