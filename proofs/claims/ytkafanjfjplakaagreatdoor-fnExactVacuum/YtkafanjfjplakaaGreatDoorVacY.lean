/- The law's own walk of Vacuum. -/
import Derived.Test.YtkafanjfjplakaaGreatDoorVacX
import Derived.Test.YtkafanjfjplakaaGreatDoorColX
import Derived.Deep.RegionHeld3
namespace Go.Proofs.YtkafanjfjplakaaGreatDoor.CollVacf
open Go.RowKit Tr Co
set_option linter.unusedVariables false

theorem bunder {w W W' : World} {base : Nat} {a b c : Value} (h : Boxed w W a b c) (hb : Below base W W') (hlt : w.heap.size < base) : Boxed w W' a b c :=
  ⟨h.bel.trans (hb.mono (Nat.le_of_lt hlt)), Nat.lt_of_lt_of_le h.lt hb.size, (hb.cell hlt).trans h.c0, (hb.cell hlt).trans h.c1, (hb.cell hlt).trans h.c2⟩
set_option maxRecDepth 8000 in
set_option maxHeartbeats 4000000 in
theorem walk (c : Col) (p q : Option Addr) (cp cq : Nat) (hm : MaxCol c) (t : Int) {P : Prop} (wid : P) (w : World) (hin : InCol w p q c) :
    Calls Tryz.prog 3 #[.agg #[.string c.name, .slice p c.chs.length cp, .slice q c.dfs.length cq], .int .i64 t] w fun e w' => e = .returned (.bool true) ∧ Below w.heap.size w w' := by
  have X0 := Boxed.start w (.string c.name) (.slice p c.chs.length cp) (.slice q c.dfs.length cq) 25
  have HIN : Hid (InCol w p q c) := hin
  have HZ : Hid (∀ W : World, InCol W p q c → Calls _ _ _ W _) := fun W hW => szColl_at c p q cp cq 1048576 W hW hm (by omega) (by omega)
  clear hin hm wid
  go_enter Tryz.func3, Tryz.ntmps3
  go_wp2_with fail
  refine (HZ.out _ (HIN.out.step X0.bel)).mono ?_
  rintro e w1 ⟨⟨r, rfl, hr⟩, hb⟩
  have X1 := X0.step hb
  clear hb HZ X0
  rcases hr with hneg | ⟨hr0, hr1, hsz⟩
  · have hbw := X1.bel
    go_wp2_with fail
    go_ret
    exact ⟨rfl, hbw⟩
  have hnn : ¬ r < 0 := by omega
  have HSZ : Hid (SzCol c) := hsz
  have HTO : Hid (∀ W : World, InCol W p q c → Calls _ _ _ W _) := fun W hW => toColl_any c p q cp cq W hW hsz
  have HS : Hid (∀ (g h : Nat) (W : World), RdC W g h c → Calls Tryz.prog 10 #[.agg #[.string c.name, .slice (some ⟨g, 0, none⟩) c.chs.length c.chs.length, .slice (some ⟨h, 0, none⟩) c.dfs.length c.dfs.length], .int .i64 t] W fun e w' => AnsC (vacP c t) W e w') := fun g h W hW => (specVacuum_any c t g h c.chs.length c.dfs.length W hW hsz).mono fun _ _ h => h.ans
  have HI : Hid (∀ (g h : Nat) (W : World), RdC W g h c → Calls Tryz.prog 12 #[.agg #[.string c.name, .slice (some ⟨g, 0, none⟩) c.chs.length c.chs.length, .slice (some ⟨h, 0, none⟩) c.dfs.length c.dfs.length], .int .i64 t] W fun e w' => AnsC (vacP c t) W e w') := fun g h W hW => (vacuum_any c t g h c.chs.length c.dfs.length W hW hsz).mono fun _ _ h => h.ans
  have hsm := vacP_small c t hsz
  obtain ⟨⟨R, code⟩, hL⟩ : ∃ L, L = vacP c t := ⟨_, rfl⟩
  rw [← hL] at HS HI hsm
  obtain ⟨rn, rc, rd⟩ := R
  simp only at hsm
  have HSM : Hid (SmCol ⟨rn, rc, rd⟩) := hsm
  have HSC : Hid (SmCol ⟨c.name, c.chs, c.dfs⟩) := ⟨hsz.chl, hsz.vs, hsz.dfl, hsz.ps⟩
  clear hL hsz hr1 hsm
  have c0 := X1.c0
  have c1 := X1.c1
  have c2 := X1.c2
  go_wp2_with fail
  refine (HTO.out _ (HIN.out.step X1.bel)).mono ?_
  rintro e w2 ⟨⟨g2, h2, mid2, rfl, O2, P2, m2a, m2b⟩, hb⟩
  have X2 := X1.step hb
  have HO2 : Hid (RdC _ _ _ _) := rdC_of O2 P2
  clear hb X1 c0 c1 c2 O2 P2 m2a m2b
  go_wp2_with fail
  refine (HS.out g2 h2 _ HO2.out).mono ?_
  rintro e w3' ⟨hb, ps, qs, cps, cqs, mids, rfl, ms1, ms2, os, ds⟩
  have hbA0 : Below w3'.heap.size w3' (w3'.alloc (.cells #[.string rn, .slice ps rc.length cps, .slice qs rd.length cqs] 30)) := (Below.refl _ _).alloc (Nat.le_refl _) _
  have X3 := (X2.step hb).step hbA0
  have S3 := BxC.made (nm := rn) os ds ms1 ms2 (Nat.le_refl _) 30
  have hlo0 : w.heap.size < w2.heap.size := X2.lt
  have c0 := (X2.step hb).c0
  have c1 := (X2.step hb).c1
  have c2 := (X2.step hb).c2
  have hlt3 := (X2.step hb).lt
  clear hb X2 HO2 hbA0 os ds
  go_wp2_with fail
  clear c0 c1 c2 hlt3
  generalize w3'.alloc (.cells #[.string rn, .slice ps rc.length cps, .slice qs rd.length cqs] 30) = w3 at X3 S3 ⊢
  obtain ⟨bs, hbs⟩ : ∃ bs, bs = w3'.heap.size := ⟨_, rfl⟩
  obtain ⟨ls, hls⟩ : ∃ ls, ls = w2.heap.size := ⟨_, rfl⟩
  rw [← hbs, ← hls] at S3
  rw [← hls] at hlo0
  try rw [← hbs]
  clear hbs hls ms1 ms2
  have hS1 : ls ≤ bs := Nat.le_trans S3.lm S3.mh
  refine (HTO.out _ (HIN.out.step X3.bel)).mono ?_
  rintro e w4 ⟨⟨g4, h4, mid4, rfl, O4, P4, m4a, m4b⟩, hb⟩
  have hbA : Below w4.heap.size w4 (w4.alloc (.cells #[.string c.name, .slice (some ⟨g4, 0, none⟩) c.chs.length c.chs.length, .slice (some ⟨h4, 0, none⟩) c.dfs.length c.dfs.length] 30)) := (Below.refl _ _).alloc (Nat.le_refl _) _
  have X5 := (X3.step hb).step hbA
  have S5 := (S3.next hb).next hbA
  have A5 := BxC.made (nm := c.name) O4 P4 m4a m4b (Nat.le_refl _) 30
  have hsA : bs < w3.heap.size := S3.lt
  have hsA2 := S3.hs
  clear hb X3 S3 O4 P4 hbA m4a m4b
  go_wp2_with fail
  generalize w4.alloc (.cells #[.string c.name, .slice (some ⟨g4, 0, none⟩) c.chs.length c.chs.length, .slice (some ⟨h4, 0, none⟩) c.dfs.length c.dfs.length] 30) = w5 at X5 S5 A5 ⊢
  obtain ⟨bx, hbx⟩ : ∃ bx, bx = w4.heap.size := ⟨_, rfl⟩
  obtain ⟨lx, hlx⟩ : ∃ lx, lx = w3.heap.size := ⟨_, rfl⟩
  rw [← hbx, ← hlx] at A5
  rw [← hlx] at hsA hsA2
  try rw [← hbx]
  clear hbx hlx
  have hA1 : lx ≤ bx := Nat.le_trans A5.lm A5.mh
  refine (HI.out g4 h4 _ A5.rd).mono ?_
  rintro e w6 ⟨hb, pg, qg, cpg, cqg, midg, rfl, mg1, mg2, og, dg⟩
  have hbA : Below w6.heap.size w6 (w6.alloc (.cells #[.string rn, .slice pg rc.length cpg, .slice qg rd.length cqg] 30)) := (Below.refl _ _).alloc (Nat.le_refl _) _
  have X6' := (X5.step hb).step hbA
  have S6' := (S5.next hb).next hbA
  have A6' := (A5.next hb).next hbA
  have G6' := BxC.made (nm := rn) og dg mg1 mg2 (Nat.le_refl _) 30
  have hAl := A5.lt
  have hAh := A5.hs
  have b0 := (S5.next hb).c0
  have b1 := (S5.next hb).c1
  have b2 := (S5.next hb).c2
  have hltS := (S5.next hb).lt
  clear hb X5 S5 A5 og dg hbA mg1 mg2
  go_wp2_with fail
  clear b0 b1 b2 hltS
  generalize w6.alloc (.cells #[.string rn, .slice pg rc.length cpg, .slice qg rd.length cqg] 30) = w6' at X6' S6' A6' G6' ⊢
  obtain ⟨bg, hbg⟩ : ∃ bg, bg = w6.heap.size := ⟨_, rfl⟩
  obtain ⟨lg, hlg⟩ : ∃ lg, lg = w5.heap.size := ⟨_, rfl⟩
  rw [← hbg, ← hlg] at G6'
  rw [← hlg] at hAl hAh
  try rw [← hbg]
  clear hbg hlg
  have hG1 : lg ≤ bg := Nat.le_trans G6'.lm G6'.mh
  refine (G6'.eqc S6' rfl rfl rfl rfl HSM.out).mono ?_
  rintro e w7 ⟨rfl, hb⟩
  have X7 := X6'.step hb
  have S7 := S6'.next hb
  have A7 := A6'.next hb
  have G7 := G6'.next hb
  have HA7 : Hid (BxC _ _ _ _ _ _ _ _ _ _ _ _ _ _) := A7
  have HS7 : Hid (BxC _ _ _ _ _ _ _ _ _ _ _ _ _ _) := S7
  have HG7 : Hid (BxC _ _ _ _ _ _ _ _ _ _ _ _ _ _) := G7
  clear hb X6' S6' A6' G6' S7 G7
  go_wp2_with fail
  go_region_held3 (fun w0 => w0.cell? ⟨w.heap.size, 0, none⟩ = some (.string c.name) ∧ w0.cell? ⟨w.heap.size, 1, none⟩ = some (.slice p c.chs.length cp) ∧ w0.cell? ⟨w.heap.size, 2, none⟩ = some (.slice q c.dfs.length cq) ∧ w0.cell? ⟨bx, 0, none⟩ = some (.string c.name) ∧ w0.cell? ⟨bx, 1, none⟩ = some (.slice (some ⟨g4, 0, none⟩) c.chs.length c.chs.length) ∧ w0.cell? ⟨bx, 2, none⟩ = some (.slice (some ⟨h4, 0, none⟩) c.dfs.length c.dfs.length)) ((refine keepC X7 A7.lt A7.c0 A7.c1 A7.c2 ?_; (repeat (first | (with_reducible exact Below.refl _ _) | (with_reducible assumption) | (with_reducible apply below_drewN) | (with_reducible apply Below.drew) | ((with_reducible refine Below.setCell ?_ ?_ _); rotate_left; focus (first | (simp; done) | (simp; omega) | omega)) | ((with_reducible refine Below.alloc ?_ ?_ _); rotate_left; focus (first | (simp; done) | (simp; omega) | omega)))))) (first | (go_at_call 11; refine (HTO.out _ (HIN.out.step (X7.bel.trans ((show Below w7.heap.size w7 _ by (repeat (first | (with_reducible exact Below.refl _ _) | (with_reducible assumption) | (with_reducible apply below_drewN) | (with_reducible apply Below.drew) | ((with_reducible refine Below.setCell ?_ ?_ _); rotate_left; focus (first | (simp; done) | (simp; omega) | omega)) | ((with_reducible refine Below.alloc ?_ ?_ _); rotate_left; focus (first | (simp; done) | (simp; omega) | omega))))).mono X7.bel.size)))).mono ?_; rintro e w8 ⟨⟨g8, h8, mid8, rfl, O8, P8, m8a, m8b⟩, hb⟩; have hB8 : Below w7.heap.size w7 w8 := (show Below w7.heap.size w7 _ by (repeat (first | (with_reducible exact Below.refl _ _) | (with_reducible assumption) | (with_reducible apply below_drewN) | (with_reducible apply Below.drew) | ((with_reducible refine Below.setCell ?_ ?_ _); rotate_left; focus (first | (simp; done) | (simp; omega) | omega)) | ((with_reducible refine Below.alloc ?_ ?_ _); rotate_left; focus (first | (simp; done) | (simp; omega) | omega))))).trans (hb.mono (by simp)); have HO8 : Hid (RdCol w8 g8 h8 c) := rdCol_of O8 P8; clear hb O8 P8 m8a m8b) | (go_at_call 13; refine (eqColl_same c.name _ _ _ _ _ _ _ _ c.chs c.dfs _ (HA7.out.next hB8).ch.row HO8.out.ch (HA7.out.next hB8).df.row HO8.out.df HSZ.out.chl HSZ.out.vs HSZ.out.dfl HSZ.out.ps).mono ?_; rintro e w9 ⟨rfl, hb⟩; have hB9 : Below w7.heap.size w7 w9 := hB8.trans (hb.mono hB8.size); clear hb))
  have X9 := X7.step hB9
  have S9 := HS7.out.next hB9
  have A9 := HA7.out.next hB9
  have G9 := HG7.out.next hB9
  clear hB8 hB9 HO8 X7 HS7 A7 HA7 HG7
  have a0 := A9.c0
  have a1 := A9.c1
  have a2 := A9.c2
  go_wp2_with fail
  refine (A9.mark HSC.out).mono ?_
  rintro e w10 ⟨rfl, _, hc⟩
  obtain ⟨E, hE⟩ : ∃ E, E = endC c.chs c.dfs := ⟨_, rfl⟩
  rw [← hE]
  have hE0 : ¬ ((E : Nat) : Int) < 0 := by omega
  have hlx : lx ≤ w9.heap.size := Nat.le_trans A9.lm (Nat.le_trans A9.mh A9.hs)
  have X10 := bunder X9 (hc.below (Nat.le_refl _) hlx) (by omega)
  have S10 := S9.chg hc (by omega) (by omega)
  have G10 := G9.chg hc (by omega) (by omega)
  clear hE hc X9 S9 G9 A9 a0 a1 a2
  have a0 := G10.c0
  have a1 := G10.c1
  have a2 := G10.c2
  have b0 := S10.c0
  have b1 := S10.c1
  have b2 := S10.c2
  go_wp2_with fail
  refine (G10.eqc S10 rfl rfl rfl rfl HSM.out).mono ?_
  rintro e w11 ⟨rfl, hb⟩
  have X11 := X10.step hb
  have S11 := S10.next hb
  have G11 := G10.next hb
  clear hb X10 S10 G10 a0 a1 a2 b0 b1 b2
  have a0 := G11.c0
  have a1 := G11.c1
  have a2 := G11.c2
  go_wp2_with fail
  refine (G11.mark HSM.out).mono ?_
  rintro e w12 ⟨rfl, G12, hc⟩
  obtain ⟨F, hF⟩ : ∃ F, F = endC rc rd := ⟨_, rfl⟩
  have HF : Hid (F = endC rc rd) := hF
  rw [← hF]
  have hF0 : ¬ ((F : Nat) : Int) < 0 := by omega
  have hlg2 : lg ≤ w11.heap.size := Nat.le_trans G11.lm (Nat.le_trans G11.mh G11.hs)
  have X12 := bunder X11 (hc.below (Nat.le_refl _) hlg2) (by omega)
  have S12 := S11.chg hc (by omega) (by omega)
  clear hF hc X11 S11 G11 a0 a1 a2
  have a0 := G12.c0
  have a1 := G12.c1
  have a2 := G12.c2
  go_wp2_with fail
  refine (G12.held rfl rfl HSM.out).mono ?_
  rintro e w13 ⟨rfl, hb⟩
  rw [← HF.out]
  have X13 := X12.step hb
  have S13 := S12.next hb
  have G13 := G12.next hb
  clear hb X12 S12 G12 a0 a1 a2
  have c0 := X13.c0
  have c1 := X13.c1
  have c2 := X13.c2
  go_wp2_with fail
  refine (HTO.out _ (HIN.out.step X13.bel)).mono ?_
  rintro e w14 ⟨⟨g14, h14, mid14, rfl, O14, P14, _, _⟩, hb⟩
  have X14 := X13.step hb
  have S14 := S13.next hb
  have G14 := G13.next hb
  have HO14 : Hid (RdC _ _ _ _) := rdC_of O14 P14
  clear hb X13 S13 G13 O14 P14 c0 c1 c2
  go_wp2_with fail
  refine (HI.out g14 h14 _ HO14.out).mono ?_
  rintro e w15' ⟨hb, ph, qh, cph, cqh, midh, rfl, mh1, mh2, oh, dh⟩
  have hbA : Below w15'.heap.size w15' (w15'.alloc (.cells #[.string rn, .slice ph rc.length cph, .slice qh rd.length cqh] 30)) := (Below.refl _ _).alloc (Nat.le_refl _) _
  have X15 := (X14.step hb).step hbA
  have S15 := (S14.next hb).next hbA
  have G15 := (G14.next hb).next hbA
  have H15 := BxC.made (nm := rn) oh dh mh1 mh2 (Nat.le_refl _) 30
  have b0 := (S14.next hb).c0
  have b1 := (S14.next hb).c1
  have b2 := (S14.next hb).c2
  have hltS := (S14.next hb).lt
  clear hb hbA X14 S14 G14 HO14 oh dh mh1 mh2
  go_wp2_with fail
  clear b0 b1 b2 hltS
  generalize w15'.alloc (.cells #[.string rn, .slice ph rc.length cph, .slice qh rd.length cqh] 30) = w15 at X15 S15 G15 H15 ⊢
  obtain ⟨bh, hbh⟩ : ∃ bh, bh = w15'.heap.size := ⟨_, rfl⟩
  rw [← hbh] at H15
  try rw [← hbh]
  clear hbh
  refine (H15.eqc S15 rfl rfl rfl rfl HSM.out).mono ?_
  rintro e w16 ⟨rfl, hb⟩
  have X16 := X15.step hb
  have G16 := G15.next hb
  clear hb X15 S15 G15 H15
  have a0 := G16.c0
  have a1 := G16.c1
  have a2 := G16.c2
  go_wp2_with fail
  refine (G16.held rfl rfl HSM.out).mono ?_
  rintro e w17 ⟨rfl, hb⟩
  rw [← HF.out]
  have hbw := (X16.step hb).bel
  clear hb X16 G16 a0 a1 a2
  go_wp2_with fail
  go_ret
  exact ⟨rfl, hbw⟩

end Go.Proofs.YtkafanjfjplakaaGreatDoor.CollVacf
