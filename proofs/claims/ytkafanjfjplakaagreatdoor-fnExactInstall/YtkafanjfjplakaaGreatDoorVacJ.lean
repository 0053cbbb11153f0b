/- The program's Vacuum: its walk. -/
import Derived.Test.YtkafanjfjplakaaGreatDoorVacI
namespace Go.Proofs.YtkafanjfjplakaaGreatDoor.Co
open Go.RowKit Tr
set_option linter.unusedVariables false

set_option maxRecDepth 4000 in
set_option maxHeartbeats 4000000 in
theorem vacuum_any (c : Col) (t : Int) (g1 g2 : Nat) (cp cq : Nat) (w : World) (hr : RdC w g1 g2 c) (hs : SzCol c) :
    Calls Tryz.prog 12 #[.agg #[.string c.name, .slice (some ⟨g1, 0, none⟩) c.chs.length cp, .slice (some ⟨g2, 0, none⟩) c.dfs.length cq], .int .i64 t] w fun e w' => VacA (vacR c t) w e w' := by
  have M0 := MkQ.start w (.string c.name) (.slice (some ⟨g1, 0, none⟩) c.chs.length cp) (.slice (some ⟨g2, 0, none⟩) c.dfs.length cq) (.string em) (.slice none 0 0) (.slice none 0 0) 30 30
  have HC : Hid (∀ W : World, RdC W g1 g2 c → Calls _ _ _ W _) := fun W hW => collOK_any c (some ⟨g1, 0, none⟩) (some ⟨g2, 0, none⟩) cp cq W hW.ch.inCh hW.df hs
  have HR : Hid (RdC _ _ _ _) := hr
  have HSZ : Hid (SzCol c) := hs
  clear hr hs
  have d0 := M0.c0
  have d1 := M0.c1
  have d2 := M0.c2
  cases hB : collB c
  · have HV : Hid (vacR c t = none) := by show vacR c t = none; unfold vacR; rw [hB, if_neg (by simp)]
    rw [hB] at HC
    clear hB
    go_enter Tryz.func12, Tryz.ntmps12
    go_wp2_with fail
    generalize (w.alloc (.cells #[.string c.name, .slice (some ⟨g1, 0, none⟩) c.chs.length cp, .slice (some ⟨g2, 0, none⟩) c.dfs.length cq] 30)).alloc (.cells #[.string em, .slice none 0 0, .slice none 0 0] 30) = W0 at M0 d0 d1 d2 ⊢
    refine (HC.out _ (HR.out.next M0.bel)).mono ?_
    rintro e w1 ⟨rfl, hb⟩
    obtain ⟨mb, ml, mc0, mc1, mc2, mz0, ⟨r0, mr0⟩, ⟨r1, mr1⟩, ⟨r2, mr2⟩, my0⟩ := M0.next hb
    clear hb M0 d0 d1 d2
    go_wp2_with fail
    refine bodyPost_ret (v := .tuple #[.agg #[.string em, .slice none 0 0, .slice none 0 0], .int .i64 1]) (by simp [results, Tryz.results12, go_sem, *]) rfl ⟨?_, fun _ => rfl, fun c' h => by rw [HV.out] at h; cases h⟩
    (repeat (first | (with_reducible exact Below.refl _ _) | (with_reducible assumption) | (with_reducible apply below_drewN) | (with_reducible apply Below.drew) | ((with_reducible refine Below.setCell ?_ ?_ _); rotate_left; focus (first | (simp; done) | (simp; omega) | omega)) | ((with_reducible refine Below.alloc ?_ ?_ _); rotate_left; focus (first | (simp; done) | (simp; omega) | omega))))
  · have HV : Hid (vacR c t = some ⟨c.name, vacB t c.chs, c.dfs⟩) := by show vacR c t = _; unfold vacR; rw [hB, if_pos rfl]
    have hpt := collB_parts hB
    have hdf := collB_defs hB
    have HDF : Hid (_ ∧ _) := hdf
    have h20 := hpt.2.2.2.1
    have HPT : Hid (∀ x ∈ c.chs, topB x.id = true ∧ 1 ≤ x.vs.length ∧ x.vs.length ≤ 12 ∧ versB x.id 0 x.vs = true) := hpt.2.2.2.2.2
    rw [hB] at HC
    clear hB hpt hdf
    go_enter Tryz.func12, Tryz.ntmps12
    go_wp2_with fail
    generalize (w.alloc (.cells #[.string c.name, .slice (some ⟨g1, 0, none⟩) c.chs.length cp, .slice (some ⟨g2, 0, none⟩) c.dfs.length cq] 30)).alloc (.cells #[.string em, .slice none 0 0, .slice none 0 0] 30) = W0 at M0 d0 d1 d2 ⊢
    refine (HC.out _ (HR.out.next M0.bel)).mono ?_
    rintro e w1 ⟨rfl, hb⟩
    have M1 := M0.next hb
    have n1 := M1.c1
    clear hb M0 d0 d1 d2 HC
    go_wp2_with fail
    clear n1
    go_loopw [6, 17] (fun u i wr => ∃ (k : Nat) (qf : Nat → Option Addr) (cf : Nat → Nat) (xs : List Value), k ≤ c.chs.length ∧ i = .int .i64 k ∧ MkQ w wr (.string c.name) (.slice (some ⟨g1, 0, none⟩) c.chs.length cp) (.slice (some ⟨g2, 0, none⟩) c.dfs.length cq) ∧ KeptC wr (w.heap.size + 2) u (vacB t (c.chs.take k)) qf cf xs) (fun _ i _ => c.chs.length - (intOf i).toNat)
    case atStart => exact ⟨0, fun _ => none, fun _ => 0, [], Nat.zero_le _, rfl, M1, KeptC.nil _ _ _ _⟩
    case round =>
      obtain ⟨k, qf, cf, xs, hk, rfl, M, hKC⟩ := hrel
      have HKC : Hid (KeptC _ _ _ _ _ _ _) := hKC
      have HM : Hid (MkQ _ _ _ _ _) := M
      have hz := M.lt
      have hbel := M.bel
      clear hKC M1
      by_cases hlt : k < c.chs.length
      · obtain ⟨x0', pv, cv, x1', hcv, hT⟩ := HR.out.ch.cells k hlt
        have hgl := Nat.lt_of_lt_of_le HR.out.ch.lt hbel.size
        have x0 := (hbel.cell HR.out.ch.lt).trans x0'
        have x1 := (hbel.cell HR.out.ch.lt).trans x1'
        have hlt2 : (k : Int) < (c.chs.length : Int) := by omega
        have hv1 := (HPT.out c.chs[k] (List.getElem_mem _)).2.1
        have hvl := (HPT.out c.chs[k] (List.getElem_mem _)).2.2.1
        have HNO : Hid ((leftV t c.chs[k].vs).length = 0 → vacB t (c.chs.take (k + 1)) = vacB t (c.chs.take k)) := fun e => vacB_none t c.chs k hlt e
        have HSO : Hid (¬ (leftV t c.chs[k].vs).length = 0 → vacB t (c.chs.take (k + 1)) = vacB t (c.chs.take k) ++ [⟨c.chs[k].id, leftV t c.chs[k].vs⟩]) := fun e => vacB_some t c.chs k hlt e
        have hll := vacB_len t (c.chs.take k)
        rw [List.length_take] at hll
        have HPO : Hid (∀ e ∈ vacB t (c.chs.take k), 0 < e.vs.length) := fun e he => (vacB_mem he).choose_spec.2.2.2
        obtain ⟨x, hx⟩ : ∃ x, x = c.chs[k] := ⟨_, rfl⟩
        rw [← hx] at x0 x1 hcv hT hv1 hvl HNO HSO
        have B0 := Box2.start wr (.int .i64 x.id) (.slice pv x.vs.length cv) 94
        have HTR : Hid (Calls _ _ _ _ _) := trackAt_from x.id t pv cv x.vs (wr.alloc (.cells #[.int .i64 x.id, .slice pv x.vs.length cv] 94)) ((hT.step hbel).step B0.bel) (by omega) hcv
        have hlen2 : (trP t x.vs).2.length ≤ 1000 := Nat.le_trans (trk_len t x.vs zG) (by omega)
        have HLV : Hid (leftT (trP t x.vs).1 (trP t x.vs).2 = leftV t x.vs) := rfl
        have HTT : Hid (InVr w pv x.vs) := hT
        obtain ⟨R1, hR1⟩ : ∃ R1, R1 = (trP t x.vs).1 := ⟨_, rfl⟩
        obtain ⟨R2, hR2⟩ : ∃ R2, R2 = (trP t x.vs).2 := ⟨_, rfl⟩
        obtain ⟨L, hL⟩ : ∃ L, L = leftV t x.vs := ⟨_, rfl⟩
        obtain ⟨VK, hVK⟩ : ∃ VK, VK = vacB t (c.chs.take k) := ⟨_, rfl⟩
        rw [← hR1, ← hR2] at HTR
        rw [← hR2] at hlen2
        rw [← hR1, ← hR2, ← hL] at HLV
        rw [← hL, ← hVK] at HNO HSO
        rw [← hVK] at HKC hll HPO
        have e0' := B0.c0
        have e1' := B0.c1
        have el' := B0.lt
        clear hx hR1 hR2 hL hVK hT hcv x0' x1'
        go_wp2_with fail
        generalize hWA : wr.alloc (.cells #[.int .i64 x.id, .slice pv x.vs.length cv] 94) = WA at HTR B0 e0' e1' el' ⊢
        clear hWA
        refine HTR.out.mono ?_
        rintro e w2 ⟨⟨p', c', rfl, hI, hc', hF⟩, hb2⟩
        have HF : Hid (From pv p') := hF
        have HI2 : Hid (InVr w2 p' R2) := hI.step hb2
        have f0 := (hb2.cell el').trans e0'
        have hz2 := Nat.lt_of_lt_of_le el' hb2.size
        have BW2 : Below wr.heap.size wr w2 := B0.bel.trans (hb2.mono B0.bel.size)
        clear hI hc' hF hb2 HTR e0' e1' B0
        go_wp2_with fail
        refine (left_from R1 R2 p' c' w2 HI2.out hlen2).mono ?_
        rintro e w3 ⟨⟨p3, c3, rfl, hI3, hor⟩, hb3⟩
        rw [HLV.out] at hI3 ⊢
        have HI3 : Hid (InVr w3 p3 L) := hI3
        have HOR : Hid (_ ∨ _) := hor
        have f03 := (hb3.cell hz2).trans f0
        have BW3 : Below wr.heap.size wr w3 := BW2.trans (hb3.mono BW2.size)
        have hz3 := Nat.lt_of_lt_of_le hz2 hb3.size
        have HM3 : Hid (MkQ _ _ _ _ _) := HM.out.next BW3
        have HK3 : Hid (KeptC _ _ _ _ _ _ _) := HKC.out.next BW3
        have hz3' := HM3.out.lt
        have hb23 := hb3.size
        have hw23 := BW2.size
        clear hI3 hor hb3 f0 HI2 HLV
        by_cases hL0 : L.length = 0
        · have HNX : Hid (_ = _) := HNO.out hL0
          have hnl : ¬ (0 : Int) < ((L.length : Nat) : Int) := by omega
          clear HNO HSO
          go_wp2_with fail
          go_roundw
          case rel => exact ⟨k + 1, qf, cf, xs, by omega, by go_num, HM3.out, by rw [HNX.out]; exact HK3.out⟩
          case measure => simp [intOf]; omega
        · have HNX : Hid (_ = _) := HSO.out hL0
          have hnl : (0 : Int) < ((L.length : Nat) : Int) := by omega
          clear HNO HSO
          go_wp2_with (at_builtin; refine wpList_appCh rfl (.tmp 28) (.tmp 33) rfl (w.heap.size + 2) VK.length _ xs rfl (HK3.out.row.alloc _) ⟨w3.heap.size, 0, none⟩ 1 1 [.int .i64 x.id, .slice p3 L.length c3] rfl rfl (two_newA _ _ _ _) (two_oneA _ rfl _ _ _) (by omega) (by omega) (by simp; omega) ?_)
          intro v' w7 o7 g7 at7
          have B7 : Below (w.heap.size + 2) w3 w7 := Below.grown ((Below.refl _ w3).alloc (by omega) _) g7 (by simp; omega) (fun b hb => (HK3.out.row.lt b hb).1)
          have HM7 : Hid (MkQ _ _ _ _ _) := HM3.out.step B7 (Nat.le_refl _)
          have hK8 := HK3.out.snoc (en := ⟨x.id, L⟩) (p := p3) (cc := c3) HPO.out (Nat.pos_of_ne_zero hL0) HI3.out (fun b o e e2 => by
            have hlo := (HK3.out.row.lt b e2.symm).1
            rcases HOR.out with h | h
            · rw [h] at e
              obtain ⟨o0, e3⟩ := HF.out b o e
              have hTT := HTT.out
              rw [e3] at hTT
              have := inVr_lt hTT (by omega)
              omega
            · have h1 := h b o e
              have h2 := (HKC.out.row.lt b e2.symm).2
              omega) o7 g7 (by simpa using at7)
          have HK8 : Hid (KeptC _ _ _ _ _ _ _) := hK8
          clear o7 g7 at7 hK8 B7
          go_wp2_with fail
          go_roundw
          case rel => exact ⟨k + 1, _, _, _, by omega, by go_num, HM7.out, by rw [HNX.out]; exact HK8.out⟩
          case measure => simp [intOf]; omega
      · have hlt2 : ¬ (k : Int) < (c.chs.length : Int) := by omega
        have ht : c.chs.take k = c.chs := List.take_of_length_le (by omega)
        rw [ht] at HKC
        obtain ⟨pk, ck, rfl, hrow⟩ := HKC.out.inCh
        have HRW : Hid (RowCh _ _ _) := hrow
        have n0 := M.c0
        have n2 := M.c2
        have hlv := vacB_len t c.chs
        clear ht hrow
        go_wp2_with fail
        refine (ownColl_any c.name pk (some ⟨g2, 0, none⟩) ck cq (vacB t c.chs) c.dfs wr (rowInCh HRW.out) (rowInDf (HR.out.next hbel).df) HSZ.out.name (by omega) (fun p hp => ?_) (by have := HDF.out.1; omega) (fun p hp => ⟨(HSZ.out.dfs p hp).1, by have := (HDF.out.2 p hp).2; omega, (HSZ.out.dfs p hp).2.2⟩)).mono ?_
        · obtain ⟨y, hy, _, h2, _⟩ := vacB_mem hp
          rw [h2]
          exact ⟨Nat.le_trans (leftV_len t y.vs) (by have := (HPT.out y hy).2.2.1; omega), leftV_sz HSZ.out hy t⟩
        rintro e w9 ⟨⟨v9, u9, mid, rfl, hm1, hm2, hCh, hDf⟩, hb9⟩
        obtain ⟨pc9, cc9, rfl⟩ := hCh.slice
        obtain ⟨pd9, cd9, rfl⟩ := hDf.slice
        have HCh : Hid (OwnChH _ _ _ _ _) := hCh
        have HDf : Hid (OwnDfH _ _ _ _ _) := hDf
        obtain ⟨mb, ml, mc0, mc1, mc2, mz0, ⟨r0, mr0⟩, ⟨r1, mr1⟩, ⟨r2, mr2⟩, my0⟩ := M.next hb9
        clear hCh hDf hb9 HM HKC n0 n2
        go_wp2_with fail
        refine bodyPost_ret (v := .tuple #[.agg #[.string c.name, .slice pc9 (vacB t c.chs).length cc9, .slice pd9 c.dfs.length cd9], .int .i64 0]) (by simp [results, Tryz.results12, go_sem, *]) rfl ⟨?_, fun h => (by rw [HV.out] at h; cases h), fun c' h => ?_⟩
        · (repeat (first | (with_reducible exact Below.refl _ _) | (with_reducible assumption) | (with_reducible apply below_drewN) | (with_reducible apply Below.drew) | ((with_reducible refine Below.setCell ?_ ?_ _); rotate_left; focus (first | (simp; done) | (simp; omega) | omega)) | ((with_reducible refine Below.alloc ?_ ?_ _); rotate_left; focus (first | (simp; done) | (simp; omega) | omega))))
        · rw [HV.out] at h
          injection h with h
          subst h
          exact ⟨_, _, mid, rfl, by omega, by simp [World.setCell]; exact hm2, (chH_at (chH_at (chH_at HCh.out _ _ _ (by omega)) _ _ _ (by omega)) _ _ _ (by omega)).mono (by omega) (Nat.le_refl _), (dfH_at (dfH_at (dfH_at HDf.out _ _ _ (by omega)) _ _ _ (by omega)) _ _ _ (by omega)).mono (Nat.le_refl _) (by simp [World.setCell])⟩

end Go.Proofs.YtkafanjfjplakaaGreatDoor.Co
