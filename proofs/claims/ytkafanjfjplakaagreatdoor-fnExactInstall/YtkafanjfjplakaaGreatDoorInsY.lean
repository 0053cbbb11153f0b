/- The law's own walk of Install. -/
import Derived.Test.YtkafanjfjplakaaGreatDoorInsX
import Derived.Test.YtkafanjfjplakaaGreatDoorColX
import Derived.Deep.RegionHeld3
import Derived.Deep.DeepCutAuto
namespace Go.Proofs.YtkafanjfjplakaaGreatDoor.CollInsf
open Go.RowKit Tr Co
set_option linter.unusedVariables false

set_option maxRecDepth 8000 in
set_option maxHeartbeats 8000000 in
theorem walk (c : Col) (p q : Option Addr) (cp cq : Nat) (hm : MaxCol c) (t : Int) {P : Prop} (wid : P) (x : Wrt) (hmw : MaxW x) (w : World) (hin : InCol w p q c) :
    Calls Tryz.prog 4 #[.agg #[.string c.name, .slice p c.chs.length cp, .slice q c.dfs.length cq], .int .i64 t, .agg #[.string x.coll, .int .i64 x.id, .bool x.gone, .int .i64 x.doc.k, .int .i64 x.doc.n, .string x.doc.t]] w fun e w' => e = .returned (.bool true) ∧ Below w.heap.size w w' := by
  have X0 := LwI.start w (.string c.name) (.slice p c.chs.length cp) (.slice q c.dfs.length cq) x 25 40
  have HIN : Hid (InCol w p q c) := hin
  have HZ : Hid (∀ W : World, InCol W p q c → Calls _ _ _ W _) := fun W hW => szColl_at c p q cp cq 1048576 W hW hm (by omega) (by omega)
  have HMW : Hid (MaxW x) := hmw
  have d0 := X0.bx.c0
  have d1 := X0.bx.c1
  have d2 := X0.bx.c2
  clear hin hm wid hmw
  go_enter Tryz.func4, Tryz.ntmps4
  go_wp2_with fail
  generalize (w.alloc (.cells #[.string c.name, .slice p c.chs.length cp, .slice q c.dfs.length cq] 25)).alloc (.cells #[.string x.coll, .int .i64 x.id, .bool x.gone, .int .i64 x.doc.k, .int .i64 x.doc.n, .string x.doc.t] 40) = W0 at X0 d0 d1 d2 ⊢
  refine (HZ.out _ (HIN.out.step X0.bx.bel)).mono ?_
  rintro e w1 ⟨⟨r, rfl, hr⟩, hb⟩
  have X1 := X0.step hb
  clear hb HZ X0 d0 d1 d2
  rcases hr with hneg | ⟨hr0, hr1, hsz⟩
  · have hbw := X1.bx.bel
    go_wp2_with fail
    go_ret
    exact ⟨rfl, hbw⟩
  have hnn : ¬ r < 0 := by omega
  have HSZ : Hid (SzCol c) := hsz
  have HTO : Hid (∀ W : World, InCol W p q c → Calls _ _ _ W _) := fun W hW => toColl_any c p q cp cq W hW hsz
  have HZW : Hid (∀ W : World, Calls _ _ _ W _) := fun W => szWrite_any x r W HMW.out hr0 (by omega)
  have u0 := X1.wr.c0
  have u1 := X1.wr.c1
  have u2 := X1.wr.c2
  have u3 := X1.wr.c3
  have u4 := X1.wr.c4
  have u5 := X1.wr.c5
  clear hsz hr1 HMW
  go_wp2_with fail
  refine (HZW.out _).mono ?_
  rintro e w2 ⟨⟨r2, rfl, hr2⟩, hb⟩
  have X2 := X1.step hb
  clear hb HZW X1 u0 u1 u2 u3 u4 u5
  rcases hr2 with hneg | ⟨hs0, hs1, hszw⟩
  · have hbw := X2.bx.bel
    go_wp2_with fail
    go_ret
    exact ⟨rfl, hbw⟩
  have hnn2 : ¬ r2 < 0 := by omega
  have HS : Hid (∀ (g h : Nat) (W : World), RdC W g h c → Calls Tryz.prog 17 #[.agg #[.string c.name, .slice (some ⟨g, 0, none⟩) c.chs.length c.chs.length, .slice (some ⟨h, 0, none⟩) c.dfs.length c.dfs.length], .int .i64 t, .agg #[.string x.coll, .int .i64 x.id, .bool x.gone, .int .i64 x.doc.k, .int .i64 x.doc.n, .string x.doc.t]] W fun e w' => AnsS (insR c t x) W e w') := fun g h W hW => specInstall_any c t x g h c.dfs.length W hW HSZ.out hszw
  have HI : Hid (∀ (g h : Nat) (W : World), RdC W g h c → Calls Tryz.prog 19 #[.agg #[.string c.name, .slice (some ⟨g, 0, none⟩) c.chs.length c.chs.length, .slice (some ⟨h, 0, none⟩) c.dfs.length c.dfs.length], .int .i64 t, .agg #[.string x.coll, .int .i64 x.id, .bool x.gone, .int .i64 x.doc.k, .int .i64 x.doc.n, .string x.doc.t]] W fun e w' => AnsS (insR c t x) W e w') := fun g h W hW => install_any c t x g h c.chs.length c.dfs.length W hW HSZ.out hszw
  have hsm := insR_small c t x
  obtain ⟨⟨R, code⟩, hL⟩ : ∃ L, L = insR c t x := ⟨_, rfl⟩
  rw [← hL] at HS HI hsm
  obtain ⟨rn, rc, rd⟩ := R
  simp only at hsm
  have HSM : Hid (SmCol ⟨rn, rc, rd⟩) := hsm
  have HSC : Hid (SmCol ⟨c.name, c.chs, c.dfs⟩) := ⟨HSZ.out.chl, HSZ.out.vs, HSZ.out.dfl, HSZ.out.ps⟩
  have hl2 := X2.wr.lt
  clear hL hsm hszw hs1
  go_wp2_with fail
  go_cut [8, 9] (fun sa sb wx => ∃ bs ps qs cps cqs, sa = .pointer (some ⟨bs, 0, none⟩) ∧ sb = .int .i64 code ∧ ResS w2 wx bs rn ps qs rc.length rd.length cps cqs rc rd)
  case first =>
    go_region_held3 (fun w0 => w0.cell? ⟨w.heap.size, 0, none⟩ = some (.string c.name) ∧ w0.cell? ⟨w.heap.size, 1, none⟩ = some (.slice p c.chs.length cp) ∧ w0.cell? ⟨w.heap.size, 2, none⟩ = some (.slice q c.dfs.length cq) ∧ w0.cell? ⟨w.heap.size + 1, 0, none⟩ = some (.string x.coll) ∧ w0.cell? ⟨w.heap.size + 1, 1, none⟩ = some (.int .i64 x.id) ∧ w0.cell? ⟨w.heap.size + 1, 2, none⟩ = some (.bool x.gone) ∧ w0.cell? ⟨w.heap.size + 1, 3, none⟩ = some (.int .i64 x.doc.k) ∧ w0.cell? ⟨w.heap.size + 1, 4, none⟩ = some (.int .i64 x.doc.n) ∧ w0.cell? ⟨w.heap.size + 1, 5, none⟩ = some (.string x.doc.t)) ((refine keepLw X2 ?_; (repeat (first | (with_reducible exact Below.refl _ _) | (with_reducible assumption) | (with_reducible apply below_drewN) | (with_reducible apply Below.drew) | ((with_reducible refine Below.setCell ?_ ?_ _); rotate_left; focus (first | (simp; done) | (simp; omega) | omega)) | ((with_reducible refine Below.alloc ?_ ?_ _); rotate_left; focus (first | (simp; done) | (simp; omega) | omega)))))) (first | (go_at_call 11; refine (HTO.out _ (HIN.out.step (X2.bx.bel.trans ((show Below w2.heap.size w2 _ by (repeat (first | (with_reducible exact Below.refl _ _) | (with_reducible assumption) | (with_reducible apply below_drewN) | (with_reducible apply Below.drew) | ((with_reducible refine Below.setCell ?_ ?_ _); rotate_left; focus (first | (simp; done) | (simp; omega) | omega)) | ((with_reducible refine Below.alloc ?_ ?_ _); rotate_left; focus (first | (simp; done) | (simp; omega) | omega))))).mono X2.bx.bel.size)))).mono ?_; rintro e w3 ⟨⟨g3, h3, mid3, rfl, O3, P3, m3a, m3b⟩, hb⟩; have hB3 : Below w2.heap.size w2 w3 := (show Below w2.heap.size w2 _ by (repeat (first | (with_reducible exact Below.refl _ _) | (with_reducible assumption) | (with_reducible apply below_drewN) | (with_reducible apply Below.drew) | ((with_reducible refine Below.setCell ?_ ?_ _); rotate_left; focus (first | (simp; done) | (simp; omega) | omega)) | ((with_reducible refine Below.alloc ?_ ?_ _); rotate_left; focus (first | (simp; done) | (simp; omega) | omega))))).trans (hb.mono (by simp)); have hzB3 := hB3.size; (try with_reducible have Z3 := zca (W := w2) hb); (try with_reducible have Z3 := zcd (W := w2) hb); (try with_reducible have Z3 := zce (W := w2) hb); have HO3 : Hid (RdC _ _ _ _) := rdC_of O3 P3; clear hb O3 P3 m3a m3b) | (go_at_call 18; refine (toWrite_any x _).mono ?_; rintro e w4 ⟨rfl, hb⟩; have hB34 : Below w3.heap.size w3 w4 := (show Below w3.heap.size w3 _ by (repeat (first | (with_reducible exact Below.refl _ _) | (with_reducible assumption) | (with_reducible apply below_drewN) | (with_reducible apply Below.drew) | ((with_reducible refine Below.setCell ?_ ?_ _); rotate_left; focus (first | (simp; done) | (simp; omega) | omega)) | ((with_reducible refine Below.alloc ?_ ?_ _); rotate_left; focus (first | (simp; done) | (simp; omega) | omega))))).trans (hb.mono (by simp)); have hB4 : Below w2.heap.size w2 w4 := hB3.trans (hB34.mono hB3.size); have hzB4 := hB4.size; have hzB34 := hB34.size; (try with_reducible have Z4 := zca (W := w3) hb); (try with_reducible have Z4 := Z3.next hb); have HO4 : Hid (RdC _ _ _ _) := HO3.out.next hB34; clear hb hB34) | (go_at_call 17; refine (HS.out _ _ _ (HO4.out.next (by (repeat (first | (with_reducible exact Below.refl _ _) | (with_reducible assumption) | (with_reducible apply below_drewN) | (with_reducible apply Below.drew) | ((with_reducible refine Below.setCell ?_ ?_ _); rotate_left; focus (first | (simp; done) | (simp; omega) | omega)) | ((with_reducible refine Below.alloc ?_ ?_ _); rotate_left; focus (first | (simp; done) | (simp; omega) | omega))))))).mono ?_; rintro e w5 ⟨hb, ps5, qs5, cps5, cqs5, ms5, hs5, rfl, k1, k2, k3, OC5, OD5⟩; have hB45 : Below w4.heap.size w4 w5 := (show Below w4.heap.size w4 _ by (repeat (first | (with_reducible exact Below.refl _ _) | (with_reducible assumption) | (with_reducible apply below_drewN) | (with_reducible apply Below.drew) | ((with_reducible refine Below.setCell ?_ ?_ _); rotate_left; focus (first | (simp; done) | (simp; omega) | omega)) | ((with_reducible refine Below.alloc ?_ ?_ _); rotate_left; focus (first | (simp; done) | (simp; omega) | omega))))).trans (hb.mono (by simp)); have hB5 := hB4.trans (hB45.mono hB4.size); have hzB5 := hB5.size; have hzB45 := hB45.size; (try with_reducible have Z5 := zca (W := w4) hb); (try with_reducible have Z5 := zcd (W := w4) hb); (try with_reducible have Z5 := Z4.next hb); (try (have qz0 := Z5.c0; have qz1 := Z5.c1; have qz2 := Z5.c2; have qz3 := Z5.z0; have qz4 := Z5.z1; have qz5 := Z5.z2; have qz6 := Z5.lt)); have HC5 : Hid (OwnChS _ _ _ _ _) := OC5; have HD5 : Hid (OwnDfH _ _ _ _ _) := OD5; clear hb OC5 OD5 hB45))
    all_goals
      try go_wp2_with fail
      go_meet
      refine ⟨_, ps5, qs5, cps5, cqs5, rfl, rfl, ?_⟩
      first
        | (refine ResS.late hB5 HC5.out HD5.out ?_ k1 k2 k3; (first | omega | (simp; done) | (simp; omega)))
        | (have hz4 := Z4.lt; refine ResS.early Z5 hB5 HC5.out HD5.out ?_ ?_ ?_ k1 k2 k3 <;> (first | omega | (simp; done) | (simp; omega)))
        | (refine ResS.early Z5 hB5 HC5.out HD5.out ?_ ?_ ?_ k1 k2 k3 <;> (first | omega | (simp; done) | (simp; omega)))
  case rest =>
  obtain ⟨bs, ps, qs, cps, cqs, rfl, rfl, ⟨ls, ms, hs, ts, S3, hbS, hbs1, hls1⟩⟩ := hcut
  obtain ⟨w3, rfl⟩ : ∃ w3, w3 = wc := ⟨_, rfl⟩
  have X3 := X2.step hbS
  have hS1 : bs < w3.heap.size := S3.lt
  have hS2 : ts ≤ w3.heap.size := S3.hs
  clear X2 hbS
  have c0 := X3.bx.c0
  have c1 := X3.bx.c1
  have c2 := X3.bx.c2
  go_wp2_with fail
  refine (HTO.out _ (HIN.out.step X3.bx.bel)).mono ?_
  rintro e w4 ⟨⟨g4, h4, mid4, rfl, O4, P4, m4a, m4b⟩, hb⟩
  have hbA : Below w4.heap.size w4 (w4.alloc (.cells #[.string c.name, .slice (some ⟨g4, 0, none⟩) c.chs.length c.chs.length, .slice (some ⟨h4, 0, none⟩) c.dfs.length c.dfs.length] 30)) := (Below.refl _ _).alloc (Nat.le_refl _) _
  have X5 := (X3.step hb).step hbA
  have S5 := (S3.next hb).next hbA
  have A5 := BxC.made (nm := c.name) O4 P4 m4a m4b (Nat.le_refl _) 30
  clear hb X3 S3 O4 P4 hbA c0 c1 c2 m4a m4b
  go_wp2_with fail
  generalize w4.alloc (.cells #[.string c.name, .slice (some ⟨g4, 0, none⟩) c.chs.length c.chs.length, .slice (some ⟨h4, 0, none⟩) c.dfs.length c.dfs.length] 30) = w5 at X5 S5 A5 ⊢
  obtain ⟨bx, hbx⟩ : ∃ bx, bx = w4.heap.size := ⟨_, rfl⟩
  obtain ⟨lx, hlx⟩ : ∃ lx, lx = w3.heap.size := ⟨_, rfl⟩
  rw [← hbx, ← hlx] at A5
  rw [← hlx] at hS1 hS2
  try rw [← hbx]
  clear hbx hlx
  have hA1 : lx ≤ bx := Nat.le_trans A5.lm A5.mh
  have hAl := A5.lt
  go_cut [11, 12] (fun sa sb wx => ∃ bs ps qs cps cqs, sa = .pointer (some ⟨bs, 0, none⟩) ∧ sb = .int .i64 code ∧ ResS w5 wx bs rn ps qs rc.length rd.length cps cqs rc rd)
  case first =>
    go_region_held3 (fun w0 => w0.cell? ⟨bx, 0, none⟩ = some (.string c.name) ∧ w0.cell? ⟨bx, 1, none⟩ = some (.slice (some ⟨g4, 0, none⟩) c.chs.length c.chs.length) ∧ w0.cell? ⟨bx, 2, none⟩ = some (.slice (some ⟨h4, 0, none⟩) c.dfs.length c.dfs.length) ∧ w0.cell? ⟨w.heap.size + 1, 0, none⟩ = some (.string x.coll) ∧ w0.cell? ⟨w.heap.size + 1, 1, none⟩ = some (.int .i64 x.id) ∧ w0.cell? ⟨w.heap.size + 1, 2, none⟩ = some (.bool x.gone) ∧ w0.cell? ⟨w.heap.size + 1, 3, none⟩ = some (.int .i64 x.doc.k) ∧ w0.cell? ⟨w.heap.size + 1, 4, none⟩ = some (.int .i64 x.doc.n) ∧ w0.cell? ⟨w.heap.size + 1, 5, none⟩ = some (.string x.doc.t)) ((refine keepLa X5 A5.lt A5.c0 A5.c1 A5.c2 ?_; (repeat (first | (with_reducible exact Below.refl _ _) | (with_reducible assumption) | (with_reducible apply below_drewN) | (with_reducible apply Below.drew) | ((with_reducible refine Below.setCell ?_ ?_ _); rotate_left; focus (first | (simp; done) | (simp; omega) | omega)) | ((with_reducible refine Below.alloc ?_ ?_ _); rotate_left; focus (first | (simp; done) | (simp; omega) | omega)))))) (first | (go_at_call 18; refine (toWrite_any x _).mono ?_; rintro e w4 ⟨rfl, hb⟩; have hB4 : Below w5.heap.size w5 w4 := (show Below w5.heap.size w5 _ by (repeat (first | (with_reducible exact Below.refl _ _) | (with_reducible assumption) | (with_reducible apply below_drewN) | (with_reducible apply Below.drew) | ((with_reducible refine Below.setCell ?_ ?_ _); rotate_left; focus (first | (simp; done) | (simp; omega) | omega)) | ((with_reducible refine Below.alloc ?_ ?_ _); rotate_left; focus (first | (simp; done) | (simp; omega) | omega))))).trans (hb.mono (by simp)); have hzB4 := hB4.size; (try with_reducible have Z4 := zca (W := w5) hb); (try with_reducible have Z4 := zcd (W := w5) hb); (try with_reducible have Z4 := zce (W := w5) hb); have HO4 : Hid (RdC _ _ _ _) := A5.rd.next hB4; clear hb) | (go_at_call 19; refine (HI.out _ _ _ (HO4.out.next (by (repeat (first | (with_reducible exact Below.refl _ _) | (with_reducible assumption) | (with_reducible apply below_drewN) | (with_reducible apply Below.drew) | ((with_reducible refine Below.setCell ?_ ?_ _); rotate_left; focus (first | (simp; done) | (simp; omega) | omega)) | ((with_reducible refine Below.alloc ?_ ?_ _); rotate_left; focus (first | (simp; done) | (simp; omega) | omega))))))).mono ?_; rintro e w5 ⟨hb, ps5, qs5, cps5, cqs5, ms5, hs5, rfl, k1, k2, k3, OC5, OD5⟩; have hB45 : Below w4.heap.size w4 w5 := (show Below w4.heap.size w4 _ by (repeat (first | (with_reducible exact Below.refl _ _) | (with_reducible assumption) | (with_reducible apply below_drewN) | (with_reducible apply Below.drew) | ((with_reducible refine Below.setCell ?_ ?_ _); rotate_left; focus (first | (simp; done) | (simp; omega) | omega)) | ((with_reducible refine Below.alloc ?_ ?_ _); rotate_left; focus (first | (simp; done) | (simp; omega) | omega))))).trans (hb.mono (by simp)); have hB5 := hB4.trans (hB45.mono hB4.size); have hzB5 := hB5.size; have hzB45 := hB45.size; (try with_reducible have Z5 := zca (W := w4) hb); (try with_reducible have Z5 := zcd (W := w4) hb); (try with_reducible have Z5 := Z4.next hb); (try (have qz0 := Z5.c0; have qz1 := Z5.c1; have qz2 := Z5.c2; have qz3 := Z5.z0; have qz4 := Z5.z1; have qz5 := Z5.z2; have qz6 := Z5.lt)); have HC5 : Hid (OwnChS _ _ _ _ _) := OC5; have HD5 : Hid (OwnDfH _ _ _ _ _) := OD5; clear hb OC5 OD5 hB45))
    all_goals
      try go_wp2_with fail
      go_meet
      refine ⟨_, ps5, qs5, cps5, cqs5, rfl, rfl, ?_⟩
      first
        | (refine ResS.late hB5 HC5.out HD5.out ?_ k1 k2 k3; (first | omega | (simp; done) | (simp; omega)))
        | (have hz4 := Z4.lt; refine ResS.early Z5 hB5 HC5.out HD5.out ?_ ?_ ?_ k1 k2 k3 <;> (first | omega | (simp; done) | (simp; omega)))
        | (refine ResS.early Z5 hB5 HC5.out HD5.out ?_ ?_ ?_ k1 k2 k3 <;> (first | omega | (simp; done) | (simp; omega)))
  case rest =>
  obtain ⟨bg, pg, qg, cpg, cqg, rfl, rfl, ⟨lg, mg, hg, tg, G6', hbG, hbg1, hlg1⟩⟩ := hcut
  obtain ⟨w6', rfl⟩ : ∃ w6', w6' = wc := ⟨_, rfl⟩
  have X6' := X5.step hbG
  have S6' := S5.next hbG
  have A6' := A5.next hbG
  clear X5 S5 A5 hbG
  have hbxl : bx < lg := by omega
  have hbxg : bx < bg := by omega
  have a0 := G6'.c0
  have a1 := G6'.c1
  have a2 := G6'.c2
  have b0 := S6'.c0
  have b1 := S6'.c1
  have b2 := S6'.c2
  go_wp2_with fail
  refine (G6'.eqc S6' rfl rfl rfl rfl HSM.out).mono ?_
  rintro e w7 ⟨rfl, hb⟩
  have X7 := X6'.step hb
  have S7 := S6'.next hb
  have A7 := A6'.next hb
  have G7 := G6'.next hb
  have HA7 : Hid (BxC _ _ _ _ _ _ _ _ _ _ _ _ _ _) := A7
  have HS7 : Hid (BxS _ _ _ _ _ _ _ _ _ _ _ _ _ _ _) := S7
  have HG7 : Hid (BxS _ _ _ _ _ _ _ _ _ _ _ _ _ _ _) := G7
  clear hb X6' S6' A6' G6' a0 a1 a2 b0 b1 b2 S7 G7
  go_wp2_with fail
  go_region_held3 (fun w0 => w0.cell? ⟨w.heap.size, 0, none⟩ = some (.string c.name) ∧ w0.cell? ⟨w.heap.size, 1, none⟩ = some (.slice p c.chs.length cp) ∧ w0.cell? ⟨w.heap.size, 2, none⟩ = some (.slice q c.dfs.length cq) ∧ w0.cell? ⟨bx, 0, none⟩ = some (.string c.name) ∧ w0.cell? ⟨bx, 1, none⟩ = some (.slice (some ⟨g4, 0, none⟩) c.chs.length c.chs.length) ∧ w0.cell? ⟨bx, 2, none⟩ = some (.slice (some ⟨h4, 0, none⟩) c.dfs.length c.dfs.length)) ((refine keepC X7.bx A7.lt A7.c0 A7.c1 A7.c2 ?_; (repeat (first | (with_reducible exact Below.refl _ _) | (with_reducible assumption) | (with_reducible apply below_drewN) | (with_reducible apply Below.drew) | ((with_reducible refine Below.setCell ?_ ?_ _); rotate_left; focus (first | (simp; done) | (simp; omega) | omega)) | ((with_reducible refine Below.alloc ?_ ?_ _); rotate_left; focus (first | (simp; done) | (simp; omega) | omega)))))) (first | (go_at_call 11; refine (HTO.out _ (HIN.out.step (X7.bx.bel.trans ((show Below w7.heap.size w7 _ by (repeat (first | (with_reducible exact Below.refl _ _) | (with_reducible assumption) | (with_reducible apply below_drewN) | (with_reducible apply Below.drew) | ((with_reducible refine Below.setCell ?_ ?_ _); rotate_left; focus (first | (simp; done) | (simp; omega) | omega)) | ((with_reducible refine Below.alloc ?_ ?_ _); rotate_left; focus (first | (simp; done) | (simp; omega) | omega))))).mono X7.bx.bel.size)))).mono ?_; rintro e w8 ⟨⟨g8, h8, mid8, rfl, O8, P8, m8a, m8b⟩, hb⟩; have hB8 : Below w7.heap.size w7 w8 := (show Below w7.heap.size w7 _ by (repeat (first | (with_reducible exact Below.refl _ _) | (with_reducible assumption) | (with_reducible apply below_drewN) | (with_reducible apply Below.drew) | ((with_reducible refine Below.setCell ?_ ?_ _); rotate_left; focus (first | (simp; done) | (simp; omega) | omega)) | ((with_reducible refine Below.alloc ?_ ?_ _); rotate_left; focus (first | (simp; done) | (simp; omega) | omega))))).trans (hb.mono (by simp)); have HO8 : Hid (RdCol w8 g8 h8 c) := rdCol_of O8 P8; clear hb O8 P8 m8a m8b) | (go_at_call 13; refine (eqColl_same c.name _ _ _ _ _ _ _ _ c.chs c.dfs _ (HA7.out.next hB8).ch.row HO8.out.ch (HA7.out.next hB8).df.row HO8.out.df HSZ.out.chl HSZ.out.vs HSZ.out.dfl HSZ.out.ps).mono ?_; rintro e w9 ⟨rfl, hb⟩; have hB9 : Below w7.heap.size w7 w9 := hB8.trans (hb.mono hB8.size); clear hb))
  have X9 := X7.step hB9
  have S9 := HS7.out.next hB9
  have A9 := HA7.out.next hB9
  have G9 := HG7.out.next hB9
  clear hB8 hB9 HO8 X7 HS7 A7 HA7 HG7
  have a0 := A9.c0
  have a1 := A9.c1
  have a2 := A9.c2
  go_wp2_with fail
  refine (A9.mark HSC.out).mono ?_
  rintro e w10 ⟨rfl, _, hc⟩
  obtain ⟨E, hE⟩ : ∃ E, E = endC c.chs c.dfs := ⟨_, rfl⟩
  rw [← hE]
  have hE0 : ¬ ((E : Nat) : Int) < 0 := by omega
  have hlx : lx ≤ w9.heap.size := Nat.le_trans A9.lm (Nat.le_trans A9.mh A9.hs)
  have X10 := X9.under (hc.below (Nat.le_refl _) hlx) (by omega)
  have S10 := S9.chg hc (by omega) (by omega)
  have G10 := G9.chg hc (by omega) (by omega)
  clear hE hc X9 S9 G9 A9 a0 a1 a2
  have a0 := G10.c0
  have a1 := G10.c1
  have a2 := G10.c2
  have b0 := S10.c0
  have b1 := S10.c1
  have b2 := S10.c2
  go_wp2_with fail
  refine (G10.eqc S10 rfl rfl rfl rfl HSM.out).mono ?_
  rintro e w11 ⟨rfl, hb⟩
  have X11 := X10.step hb
  have S11 := S10.next hb
  have G11 := G10.next hb
  clear hb X10 S10 G10 a0 a1 a2 b0 b1 b2
  have a0 := G11.c0
  have a1 := G11.c1
  have a2 := G11.c2
  go_wp2_with fail
  refine (G11.mark HSM.out).mono ?_
  rintro e w12 ⟨rfl, G12, hc⟩
  obtain ⟨F, hF⟩ : ∃ F, F = endC rc rd := ⟨_, rfl⟩
  have HF : Hid (F = endC rc rd) := hF
  rw [← hF]
  have hF0 : ¬ ((F : Nat) : Int) < 0 := by omega
  have hlg2 : lg ≤ w11.heap.size := Nat.le_trans G11.lm (Nat.le_trans G11.mh (Nat.le_trans G11.ht G11.hs))
  have X12 := X11.under (hc.below (Nat.le_refl _) hlg2) (by omega)
  have S12 := S11.chg hc (by omega) (by omega)
  clear hF hc X11 S11 G11 a0 a1 a2
  have a0 := G12.c0
  have a1 := G12.c1
  have a2 := G12.c2
  go_wp2_with fail
  refine (G12.held rfl rfl HSM.out).mono ?_
  rintro e w13 ⟨rfl, hb⟩
  rw [← HF.out]
  have X13 := X12.step hb
  have S13 := S12.next hb
  have G13 := G12.next hb
  have HS13 : Hid (BxS _ _ _ _ _ _ _ _ _ _ _ _ _ _ _) := S13
  have HG13 : Hid (BxS _ _ _ _ _ _ _ _ _ _ _ _ _ _ _) := G13
  clear hb X12 S12 G12 a0 a1 a2 S13 G13
  go_wp2_with fail
  go_cut [16, 17] (fun sa sb wx => ∃ bs ps qs cps cqs, sa = .pointer (some ⟨bs, 0, none⟩) ∧ sb = .int .i64 code ∧ ResS w13 wx bs rn ps qs rc.length rd.length cps cqs rc rd)
  case first =>
    go_region_held3 (fun w0 => w0.cell? ⟨w.heap.size, 0, none⟩ = some (.string c.name) ∧ w0.cell? ⟨w.heap.size, 1, none⟩ = some (.slice p c.chs.length cp) ∧ w0.cell? ⟨w.heap.size, 2, none⟩ = some (.slice q c.dfs.length cq) ∧ w0.cell? ⟨w.heap.size + 1, 0, none⟩ = some (.string x.coll) ∧ w0.cell? ⟨w.heap.size + 1, 1, none⟩ = some (.int .i64 x.id) ∧ w0.cell? ⟨w.heap.size + 1, 2, none⟩ = some (.bool x.gone) ∧ w0.cell? ⟨w.heap.size + 1, 3, none⟩ = some (.int .i64 x.doc.k) ∧ w0.cell? ⟨w.heap.size + 1, 4, none⟩ = some (.int .i64 x.doc.n) ∧ w0.cell? ⟨w.heap.size + 1, 5, none⟩ = some (.string x.doc.t)) ((refine keepLw X13 ?_; (repeat (first | (with_reducible exact Below.refl _ _) | (with_reducible assumption) | (with_reducible apply below_drewN) | (with_reducible apply Below.drew) | ((with_reducible refine Below.setCell ?_ ?_ _); rotate_left; focus (first | (simp; done) | (simp; omega) | omega)) | ((with_reducible refine Below.alloc ?_ ?_ _); rotate_left; focus (first | (simp; done) | (simp; omega) | omega)))))) (first | (go_at_call 11; refine (HTO.out _ (HIN.out.step (X13.bx.bel.trans ((show Below w13.heap.size w13 _ by (repeat (first | (with_reducible exact Below.refl _ _) | (with_reducible assumption) | (with_reducible apply below_drewN) | (with_reducible apply Below.drew) | ((with_reducible refine Below.setCell ?_ ?_ _); rotate_left; focus (first | (simp; done) | (simp; omega) | omega)) | ((with_reducible refine Below.alloc ?_ ?_ _); rotate_left; focus (first | (simp; done) | (simp; omega) | omega))))).mono X13.bx.bel.size)))).mono ?_; rintro e w3 ⟨⟨g3, h3, mid3, rfl, O3, P3, m3a, m3b⟩, hb⟩; have hB3 : Below w13.heap.size w13 w3 := (show Below w13.heap.size w13 _ by (repeat (first | (with_reducible exact Below.refl _ _) | (with_reducible assumption) | (with_reducible apply below_drewN) | (with_reducible apply Below.drew) | ((with_reducible refine Below.setCell ?_ ?_ _); rotate_left; focus (first | (simp; done) | (simp; omega) | omega)) | ((with_reducible refine Below.alloc ?_ ?_ _); rotate_left; focus (first | (simp; done) | (simp; omega) | omega))))).trans (hb.mono (by simp)); have hzB3 := hB3.size; (try with_reducible have Z3 := zca (W := w13) hb); (try with_reducible have Z3 := zcd (W := w13) hb); (try with_reducible have Z3 := zce (W := w13) hb); have HO3 : Hid (RdC _ _ _ _) := rdC_of O3 P3; clear hb O3 P3 m3a m3b) | (go_at_call 18; refine (toWrite_any x _).mono ?_; rintro e w4 ⟨rfl, hb⟩; have hB34 : Below w3.heap.size w3 w4 := (show Below w3.heap.size w3 _ by (repeat (first | (with_reducible exact Below.refl _ _) | (with_reducible assumption) | (with_reducible apply below_drewN) | (with_reducible apply Below.drew) | ((with_reducible refine Below.setCell ?_ ?_ _); rotate_left; focus (first | (simp; done) | (simp; omega) | omega)) | ((with_reducible refine Below.alloc ?_ ?_ _); rotate_left; focus (first | (simp; done) | (simp; omega) | omega))))).trans (hb.mono (by simp)); have hB4 : Below w13.heap.size w13 w4 := hB3.trans (hB34.mono hB3.size); have hzB4 := hB4.size; have hzB34 := hB34.size; (try with_reducible have Z4 := zca (W := w3) hb); (try with_reducible have Z4 := Z3.next hb); have HO4 : Hid (RdC _ _ _ _) := HO3.out.next hB34; clear hb hB34) | (go_at_call 19; refine (HI.out _ _ _ (HO4.out.next (by (repeat (first | (with_reducible exact Below.refl _ _) | (with_reducible assumption) | (with_reducible apply below_drewN) | (with_reducible apply Below.drew) | ((with_reducible refine Below.setCell ?_ ?_ _); rotate_left; focus (first | (simp; done) | (simp; omega) | omega)) | ((with_reducible refine Below.alloc ?_ ?_ _); rotate_left; focus (first | (simp; done) | (simp; omega) | omega))))))).mono ?_; rintro e w5 ⟨hb, ps5, qs5, cps5, cqs5, ms5, hs5, rfl, k1, k2, k3, OC5, OD5⟩; have hB45 : Below w4.heap.size w4 w5 := (show Below w4.heap.size w4 _ by (repeat (first | (with_reducible exact Below.refl _ _) | (with_reducible assumption) | (with_reducible apply below_drewN) | (with_reducible apply Below.drew) | ((with_reducible refine Below.setCell ?_ ?_ _); rotate_left; focus (first | (simp; done) | (simp; omega) | omega)) | ((with_reducible refine Below.alloc ?_ ?_ _); rotate_left; focus (first | (simp; done) | (simp; omega) | omega))))).trans (hb.mono (by simp)); have hB5 := hB4.trans (hB45.mono hB4.size); have hzB5 := hB5.size; have hzB45 := hB45.size; (try with_reducible have Z5 := zca (W := w4) hb); (try with_reducible have Z5 := zcd (W := w4) hb); (try with_reducible have Z5 := Z4.next hb); (try (have qz0 := Z5.c0; have qz1 := Z5.c1; have qz2 := Z5.c2; have qz3 := Z5.z0; have qz4 := Z5.z1; have qz5 := Z5.z2; have qz6 := Z5.lt)); have HC5 : Hid (OwnChS _ _ _ _ _) := OC5; have HD5 : Hid (OwnDfH _ _ _ _ _) := OD5; clear hb OC5 OD5 hB45))
    all_goals
      try go_wp2_with fail
      go_meet
      refine ⟨_, ps5, qs5, cps5, cqs5, rfl, rfl, ?_⟩
      first
        | (refine ResS.late hB5 HC5.out HD5.out ?_ k1 k2 k3; (first | omega | (simp; done) | (simp; omega)))
        | (have hz4 := Z4.lt; refine ResS.early Z5 hB5 HC5.out HD5.out ?_ ?_ ?_ k1 k2 k3 <;> (first | omega | (simp; done) | (simp; omega)))
        | (refine ResS.early Z5 hB5 HC5.out HD5.out ?_ ?_ ?_ k1 k2 k3 <;> (first | omega | (simp; done) | (simp; omega)))
  case rest =>
  obtain ⟨bh, ph, qh, cph, cqh, rfl, rfl, ⟨lh, mh, hh, th, H15, hbH, _, _⟩⟩ := hcut
  obtain ⟨w15, rfl⟩ : ∃ w15, w15 = wc := ⟨_, rfl⟩
  have X15 := X13.step hbH
  have S15 := HS13.out.next hbH
  have G15 := HG13.out.next hbH
  clear X13 HS13 HG13 hbH
  have a0 := H15.c0
  have a1 := H15.c1
  have a2 := H15.c2
  have b0 := S15.c0
  have b1 := S15.c1
  have b2 := S15.c2
  go_wp2_with fail
  refine (H15.eqc S15 rfl rfl rfl rfl HSM.out).mono ?_
  rintro e w16 ⟨rfl, hb⟩
  have X16 := X15.step hb
  have G16 := G15.next hb
  clear hb X15 S15 G15 H15 a0 a1 a2 b0 b1 b2
  have a0 := G16.c0
  have a1 := G16.c1
  have a2 := G16.c2
  go_wp2_with fail
  refine (G16.held rfl rfl HSM.out).mono ?_
  rintro e w17 ⟨rfl, hb⟩
  rw [← HF.out]
  have hbw := (X16.step hb).bx.bel
  clear hb X16 G16 a0 a1 a2
  go_wp2_with fail
  go_ret
  exact ⟨rfl, hbw⟩

end Go.Proofs.YtkafanjfjplakaaGreatDoor.CollInsf
