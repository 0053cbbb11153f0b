/- Collections copied by the program: what it answers. -/
import Derived.Test.YtkafanjfjplakaaGreatDoorCopC
namespace Go.Proofs.YtkafanjfjplakaaGreatDoor.Co
open Go.RowKit Tr
set_option linter.unusedVariables false

set_option maxRecDepth 4000 in
set_option maxHeartbeats 4000000 in
theorem ownColl_any (nm : ByteArray) (a d : Option Addr) (cap capd : Nat) (f : List Chn) (ds : List Dfn) (w : World) (hin : InCh w a f) (hid : InDf w d ds) (hn : nm.size ≤ 1048576) (hl : f.length ≤ 1000) (hs : ∀ p ∈ f, p.vs.length ≤ 1000 ∧ ∀ e ∈ p.vs, e.doc.t.size ≤ 1048576) (hld : ds.length ≤ 1000) (hsd : ∀ p ∈ ds, p.name.size ≤ 1048576 ∧ p.ps.length ≤ 1000 ∧ ∀ e ∈ p.ps, e.path.size ≤ 1048576) :
    Calls Tryz.prog 55 #[.agg #[.string nm, .slice a f.length cap, .slice d ds.length capd]] w fun e' w' => (∃ v u mid, e' = .returned (.agg #[.string nm, v, u]) ∧ w.heap.size ≤ mid ∧ mid ≤ w'.heap.size ∧ OwnChH w' w.heap.size mid v f ∧ OwnDfH w' mid w'.heap.size u ds) ∧ Below w.heap.size w w' := by
  obtain ⟨iE, hiE, hzE0, hzE1, hzE2⟩ := info_parts infoCh
  obtain ⟨iD, hiD, hzD0, hzD1, hzD2⟩ := info_parts infoDf
  have HIN : Hid (InCh _ _ _) := hin
  have HID : Hid (InDf _ _ _) := hid
  have HK : Hid _ := hs
  have HKD : Hid _ := hsd
  have HN : Hid (∀ W : World, Calls _ _ _ W _) := fun W => strClone_any nm W hn
  have R0 : Hid (MkS _ _ _ _ _) := MkS.start w (.string nm) (.slice a f.length cap) (.slice d ds.length capd) (.string em) (.slice none 0 0) (.slice none 0 0) 30 30
  clear hin hid hs hsd hn
  go_enter Tryz.func55, Tryz.ntmps55
  go_wp2_with (go_at_call 108; refine (HN.out _).mono ?_; rintro e w1 ⟨rfl, hb1⟩; have R1 := R0.out.next hb1; have n0 := R1.b0; have n1 := R1.b1; have hz1 := R1.lt; have hz1' : w.heap.size < w1.heap.size := Nat.lt_of_succ_lt hz1; clear hb1)
  have M0 := MkL.start R1 (.string nm) (.slice none 0 0) (.slice none 0 0) 30
  clear R0 HN n0 n1
  generalize w1.alloc (.cells #[.string nm, .slice none 0 0, .slice none 0 0] 30) = W0 at M0 ⊢
  obtain ⟨G, hG⟩ : ∃ G, G = w1.heap.size := ⟨_, rfl⟩
  rw [← hG] at M0 ⊢
  have hlo := M0.lo
  clear hG hz1 hz1' R1
  go_loopw [15] (fun i wr => ∃ (k : Nat) (pv : Option Addr) (cv : Nat) (vs : Nat → Value) (xs : List Value), k ≤ f.length ∧ i = .int .i64 k ∧ MkL w wr G (.slice d ds.length capd) (.string nm) (.slice pv k cv) (.slice none 0 0) ∧ PartCh wr (G + 1) (.slice pv k cv) k f k vs xs) (fun i _ => f.length - (intOf i).toNat)
  case atStart => exact ⟨0, none, 0, fun _ => .slice none 0 0, [], Nat.zero_le _, rfl, M0, ⟨⟨rfl, .inl ⟨rfl, rfl⟩⟩, fun i h hi => absurd hi (by omega), fun i h hi => absurd hi (by omega), fun i j h h2 hi => absurd hi (by omega), fun i h hi => absurd hi (by omega)⟩⟩
  case round =>
    obtain ⟨k, pv, cv, vs, xs, hk, rfl, M, hP⟩ := hrel
    have hz := M.lt
    have HP : Hid (PartCh _ _ _ _ _ _ _ _) := hP
    have HM : Hid (MkL _ _ _ _ _ _ _) := M
    skip
    clear hP M0
    by_cases hlt : k < f.length
    · have hlt2 : (k : Int) < (f.length : Int) := by omega
      rcases HIN.out.step M.bel with h0 | ⟨b2, off, rfl, hbl2, hc⟩
      · omega
      obtain ⟨z0, pa, ca, z1, hV⟩ := hc k hlt
      have hks := HK.out f[k] (List.getElem_mem _)
      obtain ⟨en, hen⟩ : ∃ en, en = f[k] := ⟨_, rfl⟩
      rw [← hen] at z0 z1 hks hV
      have HEN : Hid _ := hen
      have hbA : Below wr.heap.size wr (wr.alloc (.cells #[.int .i64 en.id, .slice pa en.vs.length ca] 94)) := (Below.refl _ _).alloc (Nat.le_refl _) _
      have MA := M.next hbA
      have HPA : Hid (PartCh _ _ _ _ _ _ _ _) := HP.out.next hbA
      have HMA : Hid (MkL _ _ _ _ _ _ _) := MA
      skip
      have HV := hV.step hbA
      have B2 := Box2.start wr (.int .i64 en.id) (.slice pa en.vs.length ca) 94
      have e0' := B2.c0
      have e1' := B2.c1
      have el' := B2.lt
      have hzA := MA.lt
      have a1 := MA.c1
      skip
      clear hc hen hbA M MA B2 hV HP HM 
      go_wp2_with fail
      generalize wr.alloc (.cells #[.int .i64 en.id, .slice pa en.vs.length ca] 94) = WA at HPA HMA  HV e0' e1' el' hzA a1 ⊢
      have HC : Hid (∀ W : World, Below WA.heap.size WA W → Calls _ _ _ W _) := fun W hW => ownChain_any en pa ca W (HV.step hW) hks.1 hks.2
      clear HV hks
      go_region_law (first
        | (refine step_appCh rfl (.tmp 20) (.tmp 23) rfl (G + 1) k (.slice pv k cv) xs (by simp [Act.eval]) (P6.out.row.alloc _) ⟨w6.heap.size, 0, none⟩ 1 1 [.int .i64 en.id, .slice pu en.vs.length cu] (by simp [Act.eval]) rfl (two_newA _ _ _ _) (two_oneA _ rfl _ _ _) (by omega) (by omega) (by simp; omega) ?_; intro v'' w7 o7 g7 at7; obtain ⟨gv, cw, hvv, _, _, _, _⟩ := rowForm o7 (by omega); subst hvv; have B7 : Below (G + 1) w6 w7 := Below.grown ((Below.refl _ w6).alloc (by omega) (.cells #[.int .i64 en.id, .slice pu en.vs.length cu] 94)) g7 (by simp; omega) (fun b hb => (P6.out.row.lt b hb).1); have M7 : Hid (MkL _ _ _ _ _ _ _) := M6.out.step B7 (by omega); have m1 := M7.out.c1; have m2 := M7.out.z0; have hz7 := M7.out.lt; clear B7)
        | (go_simp; go_wp2_with (go_at_call 109; refine (HC.out _ (by (repeat (first | (with_reducible exact Below.refl _ _) | (with_reducible assumption) | (with_reducible apply below_drewN) | (with_reducible apply Below.drew) | ((with_reducible refine Below.setCell ?_ ?_ _); rotate_left; focus (first | (simp; done) | (simp; omega) | omega)) | ((with_reducible refine Below.alloc ?_ ?_ _); rotate_left; focus (first | (simp; done) | (simp; omega) | omega)))))).mono ?_; rintro e w6 ⟨⟨u6, rfl, hU⟩, hb6⟩; obtain ⟨pu, cu, rfl, _⟩ := hU.inVr; have hB6 : Below WA.heap.size WA w6 := (show Below WA.heap.size WA _ by (repeat (first | (with_reducible exact Below.refl _ _) | (with_reducible assumption) | (with_reducible apply below_drewN) | (with_reducible apply Below.drew) | ((with_reducible refine Below.setCell ?_ ?_ _); rotate_left; focus (first | (simp; done) | (simp; omega) | omega)) | ((with_reducible refine Below.alloc ?_ ?_ _); rotate_left; focus (first | (simp; done) | (simp; omega) | omega))))).trans (hb6.mono (by simp)); have P6 : Hid (PartCh _ _ _ _ _ _ _ _) := HPA.out.next hB6; have M6 : Hid (MkL _ _ _ _ _ _ _) := HMA.out.next hB6; have U6 : Hid (OwnVr w6 WA.heap.size (.slice pu en.vs.length cu) en.vs) := owns_mono hU (by simp); have n1 := M6.out.c1; have hz6 := M6.out.lt; clear hb6 hB6 hU)))
      all_goals
        have hfr : ∀ {x : Value} {T : TypeId} {s m : Nat} {ys : List Value}, WA.ownsRow (G + 1) T s x m ys → (Value.slice pu en.vs.length cu).ownBlock = none ∨ (Value.slice pu en.vs.length cu).ownBlock ≠ x.ownBlock := by
          intro x T s m ys hx
          cases hb : (Value.slice pu en.vs.length cu).ownBlock with
          | none => exact .inl rfl
          | some g => exact .inr (fun e => by have h1 := (World.ownsRow.lt U6.out g hb).1; have h2 := (hx.lt g e.symm).2; omega)
        have hP8 := (P6.out.snoc hlt HEN.out (owns_mono U6.out (by omega)) (fun i hi hik => hfr (HPA.out.ents i hi hik)) (hfr HPA.out.row) o7 g7 at7).grown (b := G) (grown_set (o := 1) (v := .slice (some ⟨gv, 0, none⟩) (k + 1) cw)) (by omega)
        have HP8 : Hid (PartCh _ _ _ _ _ _ _ _) := hP8
        have HM8 : Hid (MkL _ _ _ _ _ _ _) := M7.out.set1 (.slice (some ⟨gv, 0, none⟩) (k + 1) cw)
        skip
        clear o7 g7 at7 M7 hP8 hfr
        go_wp2_with fail
        go_roundw
        case rel => exact ⟨k + 1, _, _, _, _, by omega, by go_num, HM8.out, HP8.out⟩
        case measure => simp [intOf]; omega
    · obtain rfl : k = f.length := by omega
      have hC0 : OwnChH wr (G + 1) wr.heap.size (.slice pv f.length cv) f := OwnCh.ownH ⟨vs, xs, HP.out⟩
      have HC0 : Hid (OwnChH _ _ _ _ _) := hC0
      have b2' := M.b2
      have hl1 : w.heap.size < wr.heap.size := by omega
      clear hC0 HP HM
      go_wp2_with fail
      obtain ⟨mid, hmid'⟩ : ∃ mid, mid = wr.heap.size := ⟨_, rfl⟩
      have hmid : mid ≤ wr.heap.size := Nat.le_of_eq hmid'
      have hGm : G + 1 ≤ mid := by omega
      rw [← hmid'] at HC0
      obtain ⟨p1, hp1⟩ : ∃ p1, p1 = pv := ⟨_, rfl⟩
      obtain ⟨c1, hc1⟩ : ∃ c1, c1 = cv := ⟨_, rfl⟩
      rw [← hp1, ← hc1] at HC0 M
      clear hp1 hc1 hmid'
      go_loopw [30] (fun i wr => ∃ (k : Nat) (pv : Option Addr) (cv : Nat) (vs : Nat → Value) (xs : List Value), k ≤ ds.length ∧ i = .int .i64 k ∧ MkL w wr G (.slice d ds.length capd) (.string nm) (.slice p1 f.length c1) (.slice pv k cv) ∧ mid ≤ wr.heap.size ∧ OwnChH wr (G + 1) mid (.slice p1 f.length c1) f ∧ PartDf wr (mid) (.slice pv k cv) k ds k vs xs) (fun i _ => ds.length - (intOf i).toNat)
      case atStart => exact ⟨0, none, 0, fun _ => .slice none 0 0, [], Nat.zero_le _, rfl, M, hmid, HC0.out, ⟨⟨rfl, .inl ⟨rfl, rfl⟩⟩, fun i h hi => absurd hi (by omega), fun i h hi => absurd hi (by omega), fun i j h h2 hi => absurd hi (by omega), fun i h hi => absurd hi (by omega)⟩⟩
      case round =>
        obtain ⟨k, pv, cv, vs, xs, hk, rfl, M, hmr, hC, hP⟩ := hrel
        have hz := M.lt
        have HP : Hid (PartDf _ _ _ _ _ _ _ _) := hP
        have HM : Hid (MkL _ _ _ _ _ _ _) := M
        have HCC : Hid (OwnChH _ _ _ _ _) := hC
        clear hP hC HC0
        by_cases hlt : k < ds.length
        · have hlt2 : (k : Int) < (ds.length : Int) := by omega
          rcases HID.out.step M.bel with h0 | ⟨b2, off, rfl, hbl2, hc⟩
          · omega
          obtain ⟨z0, pa, ca, z1, hV⟩ := hc k hlt
          have hks := HKD.out ds[k] (List.getElem_mem _)
          obtain ⟨en, hen⟩ : ∃ en, en = ds[k] := ⟨_, rfl⟩
          rw [← hen] at z0 z1 hks hV
          have HEN : Hid _ := hen
          have hbA : Below wr.heap.size wr (wr.alloc (.cells #[.string en.name, .slice pa en.ps.length ca] 159)) := (Below.refl _ _).alloc (Nat.le_refl _) _
          have MA := M.next hbA
          have HPA : Hid (PartDf _ _ _ _ _ _ _ _) := HP.out.next hbA
          have HMA : Hid (MkL _ _ _ _ _ _ _) := MA
          have HCA : Hid (OwnChH _ _ _ _ _) := HCC.out.next hbA
          have HV := hV.step hbA
          have B2 := Box2.start wr (.string en.name) (.slice pa en.ps.length ca) 159
          have e0' := B2.c0
          have e1' := B2.c1
          have el' := B2.lt
          have hzA := MA.lt
          have a1 := MA.c2
          have hmA : mid ≤ (wr.alloc (.cells #[.string en.name, .slice pa en.ps.length ca] 159)).heap.size := Nat.le_trans (Nat.le_of_lt_succ (Nat.lt_succ_of_le hmr)) hbA.size
          clear hc hen hbA M MA B2 hV HP HM HCC
          go_wp2_with fail
          generalize wr.alloc (.cells #[.string en.name, .slice pa en.ps.length ca] 159) = WA at HPA HMA HCA HV e0' e1' el' hzA a1 hmA ⊢
          have HC : Hid (∀ W : World, Below WA.heap.size WA W → Calls _ _ _ W _) := fun W hW => ownDef_any en pa ca W (HV.step hW) hks.1 hks.2.1 hks.2.2
          clear HV hks
          go_region_law (first
            | (refine step_appDf rfl (.tmp 35) (.tmp 38) rfl (mid) k (.slice pv k cv) xs (by simp [Act.eval]) (P6.out.row.alloc _) ⟨w6.heap.size, 0, none⟩ 1 1 [.string en.name, .slice pu en.ps.length cu] (by simp [Act.eval]) rfl (two_newA _ _ _ _) (two_oneA _ rfl _ _ _) (by omega) (by omega) (by simp; omega) ?_; intro v'' w7 o7 g7 at7; obtain ⟨gv, cw, hvv, _, _, _, _⟩ := rowForm o7 (by omega); subst hvv; have B7 : Below (mid) w6 w7 := Below.grown ((Below.refl _ w6).alloc (by omega) (.cells #[.string en.name, .slice pu en.ps.length cu] 159)) g7 (by simp; omega) (fun b hb => (P6.out.row.lt b hb).1); have M7 : Hid (MkL _ _ _ _ _ _ _) := M6.out.step B7 (by omega); have C7 : Hid (OwnChH _ _ _ _ _) := C6.out.chg (chg_low B7) (.inl (Nat.le_refl _)); have m1 := M7.out.c2; have m2 := M7.out.z0; have hz7 := M7.out.lt; have hm7 := Nat.le_trans hm6 B7.size; clear B7)
            | (go_simp; go_wp2_with (go_at_call 110; refine (HC.out _ (by (repeat (first | (with_reducible exact Below.refl _ _) | (with_reducible assumption) | (with_reducible apply below_drewN) | (with_reducible apply Below.drew) | ((with_reducible refine Below.setCell ?_ ?_ _); rotate_left; focus (first | (simp; done) | (simp; omega) | omega)) | ((with_reducible refine Below.alloc ?_ ?_ _); rotate_left; focus (first | (simp; done) | (simp; omega) | omega)))))).mono ?_; rintro e w6 ⟨⟨u6, rfl, hU⟩, hb6⟩; obtain ⟨pu, cu, rfl, _⟩ := hU.inD; have hB6 : Below WA.heap.size WA w6 := (show Below WA.heap.size WA _ by (repeat (first | (with_reducible exact Below.refl _ _) | (with_reducible assumption) | (with_reducible apply below_drewN) | (with_reducible apply Below.drew) | ((with_reducible refine Below.setCell ?_ ?_ _); rotate_left; focus (first | (simp; done) | (simp; omega) | omega)) | ((with_reducible refine Below.alloc ?_ ?_ _); rotate_left; focus (first | (simp; done) | (simp; omega) | omega))))).trans (hb6.mono (by simp)); have P6 : Hid (PartDf _ _ _ _ _ _ _ _) := HPA.out.next hB6; have M6 : Hid (MkL _ _ _ _ _ _ _) := HMA.out.next hB6; have C6 : Hid (OwnChH _ _ _ _ _) := HCA.out.next hB6; have hm6 := Nat.le_trans hmA hB6.size; have U6 : Hid (OwnD w6 WA.heap.size (.slice pu en.ps.length cu) en.ps) := owns_mono hU (by simp); have n1 := M6.out.c2; have hz6 := M6.out.lt; clear hb6 hB6 hU)))
          all_goals
            have hfr : ∀ {x : Value} {T : TypeId} {s m : Nat} {ys : List Value}, WA.ownsRow (mid) T s x m ys → (Value.slice pu en.ps.length cu).ownBlock = none ∨ (Value.slice pu en.ps.length cu).ownBlock ≠ x.ownBlock := by
              intro x T s m ys hx
              cases hb : (Value.slice pu en.ps.length cu).ownBlock with
              | none => exact .inl rfl
              | some g => exact .inr (fun e => by have h1 := (World.ownsRow.lt U6.out g hb).1; have h2 := (hx.lt g e.symm).2; omega)
            have hP8 := (P6.out.snoc hlt HEN.out (owns_mono U6.out (by omega)) (fun i hi hik => hfr (HPA.out.ents i hi hik)) (hfr HPA.out.row) o7 g7 at7).grown (b := G) (grown_set (o := 2) (v := .slice (some ⟨gv, 0, none⟩) (k + 1) cw)) (by omega)
            have HP8 : Hid (PartDf _ _ _ _ _ _ _ _) := hP8
            have HM8 : Hid (MkL _ _ _ _ _ _ _) := M7.out.set2 (.slice (some ⟨gv, 0, none⟩) (k + 1) cw)
            have HC8 : Hid (OwnChH _ _ _ _ _) := C7.out.grown (b := G) (grown_set (o := 2) (v := .slice (some ⟨gv, 0, none⟩) (k + 1) cw)) (by omega)
            clear o7 g7 at7 M7 hP8 hfr
            go_wp2_with fail
            go_roundw
            case rel => exact ⟨k + 1, _, _, _, _, by omega, by go_num, HM8.out, by simp [World.setCell]; exact hm7, HC8.out, HP8.out⟩
            case measure => simp [intOf]; omega
        · obtain rfl : k = ds.length := by omega
          have HT : Hid (OwnDf wr mid (.slice pv ds.length cv) ds) := ⟨vs, xs, HP.out⟩
          obtain ⟨mb, mlo, ml, mb2, ⟨r0, mr0⟩, ⟨r1, mr1⟩, ⟨r2, mr2⟩, my0, mc0, mc1, mc2, mz0⟩ := M
          have hl1 : w.heap.size + 1 < wr.heap.size := by omega
          clear HP HM
          go_wp2_with fail
          refine bodyPost_ret (v := .agg #[.string nm, .slice p1 f.length c1, .slice pv ds.length cv]) (by simp [results, Tryz.results55, go_sem, *]) rfl ⟨⟨_, _, mid, rfl, by omega, ?_, ?_, ?_⟩, ?_⟩
          · simp [World.setCell]; exact hmr
          · exact (chH_at (chH_at (chH_at HCC.out _ _ _ (by omega)) _ _ _ (by omega)) _ _ _ (by omega)).mono (by omega) (Nat.le_refl _)
          · exact (dfH_at (dfH_at (dfH_at HT.out.ownH _ _ _ (by omega)) _ _ _ (by omega)) _ _ _ (by omega)).mono (Nat.le_refl _) (by simp [World.setCell])
          · (repeat (first | (with_reducible exact Below.refl _ _) | (with_reducible assumption) | (with_reducible apply below_drewN) | (with_reducible apply Below.drew) | ((with_reducible refine Below.setCell ?_ ?_ _); rotate_left; focus (first | (simp; done) | (simp; omega) | omega)) | ((with_reducible refine Below.alloc ?_ ?_ _); rotate_left; focus (first | (simp; done) | (simp; omega) | omega))))

end Go.Proofs.YtkafanjfjplakaaGreatDoor.Co
