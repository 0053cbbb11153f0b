/- The specification's inner Install: a version more, and a new chain. -/
import Derived.Test.YtkafanjfjplakaaGreatDoorInsS
import Derived.Deep.DeepCutAuto
namespace Go.Proofs.YtkafanjfjplakaaGreatDoor.Co
open Go.RowKit Tr
set_option linter.unusedVariables false

theorem MkI.put {w W : World} {nm v u : Value} {x : Wrt} (h : MkI w W nm v u x) (nm' v' u' : Value) : MkI w (((W.setCell ⟨w.heap.size, 0, none⟩ nm').setCell ⟨w.heap.size, 1, none⟩ v').setCell ⟨w.heap.size, 2, none⟩ u') nm' v' u' x := by
  obtain ⟨mb, ml, mc0, mc1, mc2, ⟨wl, w0, w1, w2, w3, w4, w5⟩, ⟨r0, mr0⟩, ⟨r1, mr1⟩, ⟨r2, mr2⟩, my0⟩ := h
  exact ⟨((mb.setCell (by simp) _).setCell (by simp) _).setCell (by simp) _, by simpa [World.setCell] using ml, by simp [go_sem, *], by simp [go_sem, *], by simp [go_sem, *], ⟨by simpa [World.setCell] using wl, by simp [go_sem, *], by simp [go_sem, *], by simp [go_sem, *], by simp [go_sem, *], by simp [go_sem, *], by simp [go_sem, *]⟩, ⟨r0, by simp [go_sem, *]⟩, ⟨r1, by simp [go_sem, *]⟩, ⟨r2, by simp [go_sem, *]⟩, fun o => by simp [go_sem, *]⟩
theorem rowCh_low {w W : World} {b o : Nat} {p : Option Addr} {l : List Chn} {y : Value} (h : RowCh W p l) (hb : Below b W (W.setCell ⟨b, o, none⟩ y)) (hl : ∀ g, p = some ⟨g, 0, none⟩ → False) : True := trivial

set_option maxRecDepth 8000 in
set_option maxHeartbeats 8000000 in
theorem l08Install_more (c : Col) (t : Int) (x : Wrt) (k g1 g2 cq : Nat) (w : World) (hr : RdC w g1 g2 c) (hs : SzCol c) (hB : collB c = true) (hT : timeB t = true) (hp : PlaceC c.chs x.id k true) (ho : ∀ h : k < c.chs.length, ¬ t ≤ newT c.chs[k].vs ∧ ¬ c.chs[k].vs.length = 12) :
    Calls Tryz.prog 65 #[.agg #[.string c.name, .slice (some ⟨g1, 0, none⟩) c.chs.length c.chs.length, .slice (some ⟨g2, 0, none⟩) c.dfs.length cq], .int .i64 t, .agg #[.string x.coll, .int .i64 x.id, .bool x.gone, .int .i64 x.doc.k, .int .i64 x.doc.n, .string x.doc.t]] w fun e w' => InsA (insK c t x k true) w e w' := by
  have M0 := MkI.start w (.string c.name) (.slice (some ⟨g1, 0, none⟩) c.chs.length c.chs.length) (.slice (some ⟨g2, 0, none⟩) c.dfs.length cq) (.string em) (.slice none 0 0) (.slice none 0 0) x 30 45 30
  have hpt := collB_parts hB
  have hdf := collB_defs hB
  have HDF : Hid (_ ∧ _) := hdf
  have h20 := hpt.2.2.2.1
  have HPT : Hid (∀ x ∈ c.chs, topB x.id = true ∧ 1 ≤ x.vs.length ∧ x.vs.length ≤ 12 ∧ versB x.id 0 x.vs = true) := hpt.2.2.2.2.2
  have hrise : RiseC c.chs := riseC_of _ _ (by unfold collB at hB; simp only [Bool.and_eq_true] at hB; exact hB.2.2)
  have ht1 : 1 ≤ t ∧ t ≤ 10000 := of_decide_eq_true hT
  have HL : Hid (∀ W : World, RdC W g1 g2 c → Calls _ _ _ W _) := fun W hW => l08Last_any c.name (.slice (some ⟨g2, 0, none⟩) c.dfs.length cq) c.chs x.id g1 c.chs.length W hW.ch hs.chl hs.vs
  have HR : Hid (RdC _ _ _ _) := hr
  have HPL : Hid (PlaceC _ _ _ _) := hp
  obtain ⟨L, hL⟩ : ∃ L, L = lastS c.chs x.id := ⟨_, rfl⟩
  rw [← hL] at HL
  have d0 := M0.c0
  have d1 := M0.c1
  have d2 := M0.c2
  have hfld : ∀ W : World, (Instr.field 96 (.agg #[.int .i64 L.tm, .bool L.gone, .int .i64 L.doc.k, .int .i64 L.doc.n, .string L.doc.t]) 0).run Tryz.prog W = .ok (.int .i64 L.tm) W := fun _ => by kernel_rfl
  obtain ⟨hk, hid, hnt⟩ := lastS_at HPT.out HPL.out
  rw [← hL] at hnt
  have hlt : ¬ t ≤ L.tm := by rw [hnt]; exact (ho hk).1
  have H12 : Hid (¬ c.chs[k].vs.length = 12) := (ho hk).2
  have HRS : Hid (insK c t x k true = (⟨c.name, c.chs.set k ⟨c.chs[k].id, c.chs[k].vs ++ [verW t x]⟩, c.dfs⟩, 0)) := by
    have ha : addC c.chs[k].vs (verW t x) = 0 := by unfold addC; rw [if_neg (ho hk).1, if_neg (ho hk).2]
    exact insK_some hk ha
  clear hL hnt ho hrise
  clear hr hp hB hpt hdf hs hT
  go_enter Tryz.func65, Tryz.ntmps65
  go_wp2_with fail
  have fz : ∀ o, (((w.alloc (.cells #[.string c.name, .slice (some ⟨g1, 0, none⟩) c.chs.length c.chs.length, .slice (some ⟨g2, 0, none⟩) c.dfs.length cq] 30)).alloc (.cells #[.string x.coll, .int .i64 x.id, .bool x.gone, .int .i64 x.doc.k, .int .i64 x.doc.n, .string x.doc.t] 45)).alloc (.cells #[.string em, .slice none 0 0, .slice none 0 0] 30)).frozen? ⟨w.heap.size, o, none⟩ = false := fun o => by simp [go_sem]
  generalize ((w.alloc (.cells #[.string c.name, .slice (some ⟨g1, 0, none⟩) c.chs.length c.chs.length, .slice (some ⟨g2, 0, none⟩) c.dfs.length cq] 30)).alloc (.cells #[.string x.coll, .int .i64 x.id, .bool x.gone, .int .i64 x.doc.k, .int .i64 x.doc.n, .string x.doc.t] 45)).alloc (.cells #[.string em, .slice none 0 0, .slice none 0 0] 30) = W0 at M0 d0 d1 d2 fz ⊢
  refine (HL.out _ (HR.out.next M0.bel)).mono ?_
  rintro e w1 ⟨rfl, hb⟩
  have M1 := M0.next hb
  have n0 := M1.c0
  have n1 := M1.c1
  have n2 := M1.c2
  have a1 := M1.wr.c1
  have a2 := M1.wr.c2
  have a3 := M1.wr.c3
  have a4 := M1.wr.c4
  have a5 := M1.wr.c5
  have hl1 := M1.lt
  have fz1 : ∀ o, w1.frozen? ⟨w.heap.size, o, none⟩ = false := fun o => (hb.frozen (p := ⟨w.heap.size, o, none⟩) (by have := M0.lt; show w.heap.size < W0.heap.size; omega)).trans (fz o)
  clear fz
  have hbA : Below w1.heap.size w1 (w1.alloc (.cells #[.int .i64 t, .bool x.gone, .int .i64 x.doc.k, .int .i64 x.doc.n, .string x.doc.t] 96)) := (Below.refl _ _).alloc (Nat.le_refl _) _
  have M2 := M1.next hbA
  have fz2 : ∀ o, (w1.alloc (.cells #[.int .i64 t, .bool x.gone, .int .i64 x.doc.k, .int .i64 x.doc.n, .string x.doc.t] 96)).frozen? ⟨w.heap.size, o, none⟩ = false := fun o => (hbA.frozen (p := ⟨w.heap.size, o, none⟩) (by show w.heap.size < w1.heap.size; omega)).trans (fz1 o)
  have V2 := V5.new w1 (verW t x)
  have hltv : ¬ t ≤ L.tm := by omega
  clear hb M0 d0 d1 d2 HL M1
  go_wp2_with fail
  generalize w1.alloc (.cells #[.int .i64 t, .bool x.gone, .int .i64 x.doc.k, .int .i64 x.doc.n, .string x.doc.t] 96) = WV at M2 V2 hbA fz2 ⊢
  obtain ⟨bv, hbv⟩ : ∃ bv, bv = w1.heap.size := ⟨_, rfl⟩
  rw [← hbv] at V2 ⊢
  have hbv3 : w.heap.size + 3 ≤ bv := by omega
  clear n0 n1 n2 a1 a2 a3 a4 a5 hbv hbA
  go_loopw [9] (fun i wr => ∃ j : Nat, j ≤ k ∧ i = .int .i64 j ∧ Below WV.heap.size WV wr) (fun i _ => k - (intOf i).toNat)
  case atStart => exact ⟨0, Nat.zero_le _, rfl, Below.refl _ _⟩
  case round =>
    obtain ⟨j, hj, rfl, hbr⟩ := hrel
    have M3 := M2.next hbr
    have fz3 : ∀ o, wr.frozen? ⟨w.heap.size, o, none⟩ = false := fun o => (hbr.frozen (p := ⟨w.heap.size, o, none⟩) (by have := M2.lt; show w.heap.size < WV.heap.size; omega)).trans (fz2 o)
    have V3 := V2.step hbr
    have R3 := HR.out.next M3.bel
    have n1 := M3.c1
    have a1 := M3.wr.c1
    have hl3 := M3.lt
    have hgl := R3.ch.lt
    by_cases hjk : j < k
    · have hjn : j < c.chs.length := by have := HPL.out.le; omega
      have x0 := (R3.ch.cells j hjn).1
      have hlt3 : c.chs[j].id < x.id := HPL.out.lo j hjn hjk
      have e1 : decide ((j : Int) < (c.chs.length : Int)) = true := decide_eq_true (by omega)
      have e2 : decide (j < c.chs.length) = true := decide_eq_true hjn
      have e3 : decide (c.chs[j].id < x.id) = true := decide_eq_true hlt3
      have hjI : (j : Int) < (c.chs.length : Int) := by omega
      obtain ⟨I, hI⟩ : ∃ I, I = c.chs[j].id := ⟨_, rfl⟩
      rw [← hI] at x0 hlt3 e3
      clear hI R3 V3 M3
      go_wp2_with fail
      go_quiet (fail)
      go_wp2_with fail
      go_roundw
      case rel => exact ⟨j + 1, by omega, by go_num, below_drewN hbr _⟩
      case measure => simp [intOf]; omega
    · obtain rfl : j = k := by omega
      have x0 := (R3.ch.cells j hk).1
      obtain ⟨y0, pv, cv, x1, hcv, hTv⟩ := R3.ch.cells j hk
      have e1 : decide ((j : Int) < (c.chs.length : Int)) = true := decide_eq_true (by omega)
      have e2 : decide (j < c.chs.length) = true := decide_eq_true hk
      have hjI : (j : Int) < (c.chs.length : Int) := by omega
      rw [hid] at x0 y0
      have e3 : decide (x.id < x.id) = false := decide_eq_false (by omega)
      have e4 : ¬ x.id < x.id := by omega
      clear hjk hTv hcv
      go_wp2_with fail
      go_quiet (fail)
      go_wp2_with fail
      go_quiet (fail)
      have h12 : ¬ ((c.chs[j].vs.length : Nat) : Int) = 12 := by have := H12.out; omega
      have h12' : (((c.chs[j].vs.length : Nat) : Int) == 12) = false := beq_eq_false_iff_ne.mpr h12
      have n0 := M3.c0
      have n2 := M3.c2
      go_wp2_with fail
      have hSZ := HPT.out
      refine (specOwnC_any c.name (some ⟨g1, 0, none⟩) (some ⟨g2, 0, none⟩) c.chs.length cq c.chs c.dfs _ (R3.next (below_drewN (Below.refl _ _) _)).rd.ch (R3.next (below_drewN (Below.refl _ _) _)).df (by omega) (fun p hp => ⟨by have := (hSZ p hp).2.2.1; omega, (hSZ p hp).2.1⟩) (by have := HDF.out.1; omega) (fun p hp => ⟨by have := (HDF.out.2 p hp).2; omega, (HDF.out.2 p hp).1⟩)).mono ?_
      rintro e w5 ⟨⟨v9, u9, mid, rfl, hm1, hm2, hCh, hDf⟩, hb9⟩
      obtain ⟨pc9, cc, rfl⟩ := hCh.slice
      obtain ⟨pd, cd, rfl⟩ := hDf.slice
      have hb9' : Below wr.heap.size wr w5 := (below_drewN (Below.refl wr.heap.size wr) _).trans hb9
      have M5 := M3.next hb9'
      have V5' := V3.step hb9'
      have fz5 : ∀ o, w5.frozen? ⟨w.heap.size, o, none⟩ = false := fun o => (hb9'.frozen (p := ⟨w.heap.size, o, none⟩) (by show w.heap.size < wr.heap.size; omega)).trans (fz3 o)
      obtain ⟨lo, hlo⟩ : ∃ lo, lo = wr.heap.size := ⟨_, rfl⟩
      have hm1' : lo ≤ mid := by rw [hlo]; exact hm1
      have hCh' : OwnChH w5 lo mid (.slice pc9 c.chs.length cc) c.chs := by rw [hlo]; exact hCh
      have hbvl : bv < lo := by have := V3.lt; omega
      have hwl : w.heap.size + 2 < lo := by omega
      obtain ⟨q0, q1, q2, ⟨_⟩, ⟨y0', my0'⟩, ⟨y1', my1'⟩, ⟨y2', my2'⟩, _⟩ : w5.cell? ⟨w.heap.size, 0, none⟩ = some (.string c.name) ∧ w5.cell? ⟨w.heap.size, 1, none⟩ = some (.slice (some ⟨g1, 0, none⟩) c.chs.length c.chs.length) ∧ w5.cell? ⟨w.heap.size, 2, none⟩ = some (.slice (some ⟨g2, 0, none⟩) c.dfs.length cq) ∧ True ∧ (∃ y, w5.cell? ⟨w.heap.size + 2, 0, none⟩ = some y) ∧ (∃ y, w5.cell? ⟨w.heap.size + 2, 1, none⟩ = some y) ∧ (∃ y, w5.cell? ⟨w.heap.size + 2, 2, none⟩ = some y) ∧ True := ⟨M5.c0, M5.c1, M5.c2, trivial, M5.r0, M5.r1, M5.r2, trivial⟩
      have M6 := M5.put (.string c.name) (.slice pc9 c.chs.length cc) (.slice pd c.dfs.length cd)
      have B56 : Below lo w5 (((w5.setCell ⟨w.heap.size, 0, none⟩ (.string c.name)).setCell ⟨w.heap.size, 1, none⟩ (.slice pc9 c.chs.length cc)).setCell ⟨w.heap.size, 2, none⟩ (.slice pd c.dfs.length cd)) → True := fun _ => trivial
      have C6 : OwnChH (((w5.setCell ⟨w.heap.size, 0, none⟩ (.string c.name)).setCell ⟨w.heap.size, 1, none⟩ (.slice pc9 c.chs.length cc)).setCell ⟨w.heap.size, 2, none⟩ (.slice pd c.dfs.length cd)) lo mid (.slice pc9 c.chs.length cc) c.chs := chH_at (chH_at (chH_at hCh' _ _ _ (by omega)) _ _ _ (by omega)) _ _ _ (by omega)
      have D6 : OwnDfH (((w5.setCell ⟨w.heap.size, 0, none⟩ (.string c.name)).setCell ⟨w.heap.size, 1, none⟩ (.slice pc9 c.chs.length cc)).setCell ⟨w.heap.size, 2, none⟩ (.slice pd c.dfs.length cd)) mid w5.heap.size (.slice pd c.dfs.length cd) c.dfs := dfH_at (dfH_at (dfH_at hDf _ _ _ (by omega)) _ _ _ (by omega)) _ _ _ (by omega)
      have V6 : V5 (((w5.setCell ⟨w.heap.size, 0, none⟩ (.string c.name)).setCell ⟨w.heap.size, 1, none⟩ (.slice pc9 c.chs.length cc)).setCell ⟨w.heap.size, 2, none⟩ (.slice pd c.dfs.length cd)) bv (verW t x) := ⟨by simpa [World.setCell] using V5'.lt, by rw [set_other (by omega), set_other (by omega), set_other (by omega)]; exact V5'.cb⟩
      have hsz6 : (((w5.setCell ⟨w.heap.size, 0, none⟩ (.string c.name)).setCell ⟨w.heap.size, 1, none⟩ (.slice pc9 c.chs.length cc)).setCell ⟨w.heap.size, 2, none⟩ (.slice pd c.dfs.length cd)).heap.size = w5.heap.size := by simp [World.setCell]
      obtain ⟨vs, xs, hP, hVb, hinB⟩ := C6
      obtain ⟨gc, cc', hgv, hgl2, hgl3, _, _⟩ := rowForm hP.row (by omega)
      injection hgv with e1' e2' e3'
      subst e1'
      obtain rfl : cc = cc' := e3'
      have HP : Hid (PartCh _ _ _ _ _ _ _ _) := hP
      have HD : Hid (OwnDfH _ _ _ _ _) := D6
      have HM6 : Hid (MkI _ _ _ _ _ _) := M6
      have hm2' : mid ≤ w5.heap.size := hm2
      have hgm : gc < mid := hVb gc rfl
      clear hsz6
      have hfz0 := fz5 0
      have hfz1 := fz5 1
      have hfz2 := fz5 2
      have hl5 := M5.lt
      clear hCh hDf hCh' hP D6 M6 hb9 hb9' R3 V3 M3 V5' n0 n1 n2 a1 x0 y0 x1 e1 e2 e3 e4 fz3 fz5 hm1 hm2 B56 hSZ M5 hgl hl3
      go_wp2_with fail
      generalize ((w5.setCell ⟨w.heap.size, 0, none⟩ (.string c.name)).setCell ⟨w.heap.size, 1, none⟩ (.slice (some ⟨gc, 0, none⟩) c.chs.length cc)).setCell ⟨w.heap.size, 2, none⟩ (.slice pd c.dfs.length cd) = WX at *
      clear hfz0 hfz1 hfz2 q0 q1 q2 my0' my1' my2'
      have hw6 := HM6.out.lt
      have hgw : gc < WX.heap.size := (HP.out.row.lt gc rfl).2
      have hloX : lo ≤ WX.heap.size := by omega
      have hent := HP.out.ents j hk hk
      obtain ⟨pu, cu, hpu, hcu, hinu⟩ := OwnVr.room hent
      have hat := HP.out.at_ j hk hk
      have HU : Hid (WX.ownsRow lo 96 5 (.slice pu c.chs[j].vs.length cu) c.chs[j].vs.length (flatVr c.chs[j].vs)) := by rw [← hpu]; exact hent
      have m1 : WX.cell? ⟨gc, j * 2 + 1, none⟩ = some (.slice pu c.chs[j].vs.length cu) := by rw [← hpu]; exact owns_cell HP.out.row _ _ hat.2
      have mf : WX.frozen? ⟨gc, j * 2 + 1, none⟩ = false := World.ownsRow.frozenAt HP.out.row _
      have r1 := HM6.out.c1
      have hgu : (Value.slice pu c.chs[j].vs.length cu).ownBlock = none ∨ (Value.slice pu c.chs[j].vs.length cu).ownBlock ≠ some gc := by rw [← hpu]; exact HP.out.aside j hk hk
      obtain ⟨p0, p1, p2, p3, p4⟩ := five V6.cb
      have hvl := V6.lt
      have hul : ∀ b, (Value.slice pu c.chs[j].vs.length cu).ownBlock = some b → lo ≤ b := fun b e => (World.ownsRow.lt HU.out b e).1
      have HKB : Hid (∀ w', Below WX.heap.size WX w' → (w'.cell? ⟨w.heap.size, 1, none⟩ = some (.slice (some ⟨gc, 0, none⟩) c.chs.length cc) ∧ w'.cell? ⟨gc, j * 2 + 1, none⟩ = some (.slice pu c.chs[j].vs.length cu) ∧ w'.cell? ⟨bv, 0, none⟩ = some (.int .i64 t) ∧ w'.cell? ⟨bv, 1, none⟩ = some (.bool x.gone) ∧ w'.cell? ⟨bv, 2, none⟩ = some (.int .i64 x.doc.k) ∧ w'.cell? ⟨bv, 3, none⟩ = some (.int .i64 x.doc.n) ∧ w'.cell? ⟨bv, 4, none⟩ = some (.string x.doc.t))) := fun w' b => ⟨(b.cell (p := ⟨w.heap.size, 1, none⟩) (by show w.heap.size < WX.heap.size; omega)).trans r1, (b.cell (p := ⟨gc, j * 2 + 1, none⟩) hgw).trans m1, (b.cell (p := ⟨bv, 0, none⟩) hvl).trans p0, (b.cell (p := ⟨bv, 1, none⟩) hvl).trans p1, (b.cell (p := ⟨bv, 2, none⟩) hvl).trans p2, (b.cell (p := ⟨bv, 3, none⟩) hvl).trans p3, (b.cell (p := ⟨bv, 4, none⟩) hvl).trans p4⟩
      have hlow : ∀ (w' : World), WX.grownBy w' (Value.slice pu c.chs[j].vs.length cu).ownBlock → ∀ b o, b < lo → w'.cell? ⟨b, o, none⟩ = WX.cell? ⟨b, o, none⟩ := fun w' hg b o hb => World.cell?_of_block (a := ⟨b, o, none⟩) (hg.block b (by omega) (fun e => by have := hul b e.symm; omega))
      have hgcb : ∀ (w' : World), WX.grownBy w' (Value.slice pu c.chs[j].vs.length cu).ownBlock → w'.heap[gc]? = WX.heap[gc]? := fun w' hg => hg.block gc hgw (ne_of_or hgu)
      have HKP : Hid (∀ w', WX.grownBy w' (Value.slice pu c.chs[j].vs.length cu).ownBlock → (w'.cell? ⟨w.heap.size, 1, none⟩ = some (.slice (some ⟨gc, 0, none⟩) c.chs.length cc) ∧ w'.cell? ⟨gc, j * 2 + 1, none⟩ = some (.slice pu c.chs[j].vs.length cu) ∧ w'.cell? ⟨bv, 0, none⟩ = some (.int .i64 t) ∧ w'.cell? ⟨bv, 1, none⟩ = some (.bool x.gone) ∧ w'.cell? ⟨bv, 2, none⟩ = some (.int .i64 x.doc.k) ∧ w'.cell? ⟨bv, 3, none⟩ = some (.int .i64 x.doc.n) ∧ w'.cell? ⟨bv, 4, none⟩ = some (.string x.doc.t))) := fun w' hg => ⟨(hlow w' hg _ _ (by omega)).trans r1, (World.cell?_of_block (a := ⟨gc, j * 2 + 1, none⟩) (hgcb w' hg)).trans m1, (hlow w' hg _ _ hbvl).trans p0, (hlow w' hg _ _ hbvl).trans p1, (hlow w' hg _ _ hbvl).trans p2, (hlow w' hg _ _ hbvl).trans p3, (hlow w' hg _ _ hbvl).trans p4⟩
      have HFZ : Hid (∀ w', WX.grownBy w' (Value.slice pu c.chs[j].vs.length cu).ownBlock → w'.frozen? ⟨gc, j * 2 + 1, none⟩ = false) := fun w' hg => (frozen_of_block (hgcb w' hg)).trans mf
      have hvs12 : c.chs[j].vs.length ≤ 12 := (HPT.out c.chs[j] (List.getElem_mem _)).2.2.1
      clear hlow hgcb hent hat hinu
      go_cut [] (fun wx => ∃ w7 u', WX.grownBy w7 (Value.slice pu c.chs[j].vs.length cu).ownBlock ∧ OwnVr w7 lo u' (c.chs[j].vs ++ [verW t x]) ∧ (u'.ownBlock = (Value.slice pu c.chs[j].vs.length cu).ownBlock ∨ ∃ b, WX.heap.size ≤ b ∧ u'.ownBlock = some b) ∧ wx = w7.setCell ⟨gc, j * 2 + 1, none⟩ u')
      case first =>
        have kp : ∀ w', Below WX.heap.size WX w' → (w'.cell? ⟨w.heap.size, 1, none⟩ = some (.slice (some ⟨gc, 0, none⟩) c.chs.length cc) ∧ w'.cell? ⟨gc, j * 2 + 1, none⟩ = some (.slice pu c.chs[j].vs.length cu) ∧ w'.cell? ⟨bv, 0, none⟩ = some (.int .i64 t) ∧ w'.cell? ⟨bv, 1, none⟩ = some (.bool x.gone) ∧ w'.cell? ⟨bv, 2, none⟩ = some (.int .i64 x.doc.k) ∧ w'.cell? ⟨bv, 3, none⟩ = some (.int .i64 x.doc.n) ∧ w'.cell? ⟨bv, 4, none⟩ = some (.string x.doc.t)) := HKB.out
        refine wp_region_last2 (S := fun w0 => w0.cell? ⟨w.heap.size, 1, none⟩ = some (.slice (some ⟨gc, 0, none⟩) c.chs.length cc) ∧ w0.cell? ⟨gc, j * 2 + 1, none⟩ = some (.slice pu c.chs[j].vs.length cu) ∧ w0.cell? ⟨bv, 0, none⟩ = some (.int .i64 t) ∧ w0.cell? ⟨bv, 1, none⟩ = some (.bool x.gone) ∧ w0.cell? ⟨bv, 2, none⟩ = some (.int .i64 x.doc.k) ∧ w0.cell? ⟨bv, 3, none⟩ = some (.int .i64 x.doc.n) ∧ w0.cell? ⟨bv, 4, none⟩ = some (.string x.doc.t)) 14 (by kernel_rfl) rfl (by kernel_rfl) (kp _ (Below.refl _ _).drew) (fun hHeld => ?_)
        simp only [List.take_succ_cons, List.take_zero]
        refine take_at (i := 0) (v := ?_) .zero (by kernel_rfl) (by kernel_rfl) (by kernel_rfl) (fun _ _ _ h => h) (Or.inl ⟨by rfl, ?_⟩) (by assumption) ?_
        rotate_left
        focus (intro w' hSw; (try dsimp only at hSw); go_simp; try (with_reducible rfl))
        try simp only [Act.put, List.setIfInBounds_toArray, List.set_cons_zero, List.set_cons_succ]
        refine take_at (i := 1) (v := ?_) (.succ (.zero)) (by kernel_rfl) (by kernel_rfl) (by kernel_rfl) (fun _ _ _ h => h) (Or.inl ⟨by rfl, ?_⟩) (by assumption) ?_
        rotate_left
        focus (intro w' hSw; (try dsimp only at hSw); go_simp; try (with_reducible rfl))
        try simp only [Act.put, List.setIfInBounds_toArray, List.set_cons_zero, List.set_cons_succ]
        refine take_at (i := 2) (v := ?_) (.succ (.succ (.zero))) (by kernel_rfl) (by kernel_rfl) (by kernel_rfl) (fun _ _ _ h => h) (Or.inl ⟨by rfl, ?_⟩) (by assumption) ?_
        rotate_left
        focus (intro w' hSw; (try dsimp only at hSw); go_simp; try (with_reducible rfl))
        try simp only [Act.put, List.setIfInBounds_toArray, List.set_cons_zero, List.set_cons_succ]
        refine take_at (i := 3) (v := ?_) (.succ (.succ (.succ (.zero)))) (by kernel_rfl) (by kernel_rfl) (by kernel_rfl) (fun _ _ _ h => h) (Or.inl ⟨by rfl, ?_⟩) (by assumption) ?_
        rotate_left
        focus (intro w' hSw; (try dsimp only at hSw); go_simp; try (with_reducible rfl))
        try simp only [Act.put, List.setIfInBounds_toArray, List.set_cons_zero, List.set_cons_succ]
        refine take_at (i := 4) (v := ?_) (.succ (.succ (.succ (.succ (.zero))))) (by kernel_rfl) (by kernel_rfl) (by kernel_rfl) (fun _ _ _ h => h) (Or.inl ⟨by rfl, ?_⟩) (by assumption) ?_
        rotate_left
        focus (intro w' hSw; (try dsimp only at hSw); go_simp; try (with_reducible rfl))
        try simp only [Act.put, List.setIfInBounds_toArray, List.set_cons_zero, List.set_cons_succ]
        refine take_at (i := 5) (v := ?_) (.succ (.succ (.succ (.succ (.succ (.zero)))))) (by kernel_rfl) (by kernel_rfl) (by kernel_rfl) (fun _ _ _ h => h) (Or.inl ⟨by rfl, ?_⟩) (by assumption) ?_
        rotate_left
        focus (intro w' hSw; (try dsimp only at hSw); go_simp; try (with_reducible rfl))
        try simp only [Act.put, List.setIfInBounds_toArray, List.set_cons_zero, List.set_cons_succ]
        refine take_at (i := 6) (v := ?_) (.succ (.succ (.succ (.succ (.succ (.succ (.zero))))))) (by kernel_rfl) (by kernel_rfl) (by kernel_rfl) (fun _ _ _ h => h) (Or.inl ⟨by rfl, ?_⟩) (by assumption) ?_
        rotate_left
        focus (intro w' hSw; (try dsimp only at hSw); go_simp; try (with_reducible rfl))
        try simp only [Act.put, List.setIfInBounds_toArray, List.set_cons_zero, List.set_cons_succ]
        refine take_at (i := 7) (v := ?_) (.succ (.succ (.succ (.succ (.succ (.succ (.succ (.zero)))))))) (by kernel_rfl) (by kernel_rfl) (by kernel_rfl) (fun _ _ _ h => h) (Or.inl ⟨by rfl, ?_⟩) (by assumption) ?_
        rotate_left
        focus (intro w' hSw; (try dsimp only at hSw); go_simp; try (with_reducible rfl))
        try simp only [Act.put, List.setIfInBounds_toArray, List.set_cons_zero, List.set_cons_succ]
        refine take_at (i := 8) (v := ?_) (.succ (.succ (.succ (.succ (.succ (.succ (.succ (.succ (.zero))))))))) (by kernel_rfl) (by kernel_rfl) (by kernel_rfl) (fun _ _ _ h => h) (Or.inl ⟨by rfl, ?_⟩) (by assumption) ?_
        rotate_left
        focus (intro w' hSw; (try dsimp only at hSw); go_simp; try (with_reducible rfl))
        try simp only [Act.put, List.setIfInBounds_toArray, List.set_cons_zero, List.set_cons_succ]
        refine take_at (i := 9) (v := ?_) (.succ (.succ (.succ (.succ (.succ (.succ (.succ (.succ (.succ (.zero)))))))))) (by kernel_rfl) (by kernel_rfl) (by kernel_rfl) (fun _ _ _ h => h) (Or.inl ⟨by rfl, ?_⟩) (by assumption) ?_
        rotate_left
        focus (intro w' hSw; (try dsimp only at hSw); go_simp; try (with_reducible rfl))
        try simp only [Act.put, List.setIfInBounds_toArray, List.set_cons_zero, List.set_cons_succ]
        refine wpAnyH_ready (rs := [10]) (by kernel_rfl) (by simp) ?_
        refine (cons_at (i := 10) (.succ (.succ (.succ (.succ (.succ (.succ (.succ (.succ (.succ (.succ (.zero))))))))))) (fun K hK => ?_) AllReadyH.nil)
        go_simp
        refine hK.out _ _ ?_ ?_
        focus exact kp _ (by (repeat (first | (with_reducible exact Below.refl _ _) | (with_reducible assumption) | (with_reducible apply below_drewN) | (with_reducible apply Below.drew) | ((with_reducible refine Below.alloc ?_ ?_ _); rotate_left; focus (first | (simp; done) | (simp; omega) | omega)))))
        clear hK K hHeld
        intro hHeld
        try simp only [Act.put, List.setIfInBounds_toArray, List.set_cons_zero, List.set_cons_succ]
        refine wpAnyH_ready (rs := [11]) (by kernel_rfl) (by simp) ?_
        refine (cons_at (i := 11) (.succ (.succ (.succ (.succ (.succ (.succ (.succ (.succ (.succ (.succ (.succ (.zero)))))))))))) (fun K hK => ?_) AllReadyH.nil)
        (refine step_appVr rfl (.tmp 78) (.tmp 80) rfl lo c.chs[j].vs.length (.slice pu c.chs[j].vs.length cu) (flatVr c.chs[j].vs) rfl (by first | exact HU.out.alloc _ | exact (owns_drew HU.out).alloc _) _ 1 1 (rowVr (verW t x)) rfl rfl (five_new _ (verW t x) _) (five_one _) (by omega) (by omega) (by simp; omega) ?_; intro v'' w7 o7 g7 at7; obtain ⟨gv, cw, hvv, hgv, _, _, _⟩ := rowForm o7 (by omega); subst hvv; have HG7 : Hid (WX.grownBy w7 (Value.slice pu c.chs[j].vs.length cu).ownBlock) := grown_trans (grown_below (show Below WX.heap.size WX _ by (repeat (first | (with_reducible exact Below.refl _ _) | (with_reducible assumption) | (with_reducible apply below_drewN) | (with_reducible apply Below.drew) | ((with_reducible refine Below.setCell ?_ ?_ _); rotate_left; focus (first | (simp; done) | (simp; omega) | omega)) | ((with_reducible refine Below.alloc ?_ ?_ _); rotate_left; focus (first | (simp; done) | (simp; omega) | omega)))))) g7; have hkp7 := HKP.out w7 HG7.out; have hz7 := HG7.out.size; have HO7 : Hid (OwnVr w7 lo (.slice (some ⟨gv, 0, none⟩) (c.chs[j].vs.length + 1) cw) (c.chs[j].vs ++ [verW t x])) := (by show w7.ownsRow lo 96 5 _ (c.chs[j].vs ++ [verW t x]).length (flatVr (c.chs[j].vs ++ [verW t x])); rw [flatVr_snoc, List.length_append]; exact o7); have HA7 : Hid ((Value.slice (some ⟨gv, 0, none⟩) (c.chs[j].vs.length + 1) cw).ownBlock = (Value.slice pu c.chs[j].vs.length cu).ownBlock ∨ ∃ b, WX.heap.size ≤ b ∧ (Value.slice (some ⟨gv, 0, none⟩) (c.chs[j].vs.length + 1) cw).ownBlock = some b) := (by rcases at7 with h | h; exact .inl h; exact .inr ⟨_, by simp, h⟩); have m2 : w7.frozen? ⟨gc, j * 2 + 1, none⟩ = false := HFZ.out w7 HG7.out; clear o7 g7 at7)
        refine hK.out _ _ ?_ ?_
        focus exact hkp7
        clear hK K hHeld
        intro hHeld
        try simp only [Act.put, List.setIfInBounds_toArray, List.set_cons_zero, List.set_cons_succ]
        refine take_at (i := 12) (v := ?_) (.succ (.succ (.succ (.succ (.succ (.succ (.succ (.succ (.succ (.succ (.succ (.succ (.zero))))))))))))) (by kernel_rfl) (by kernel_rfl) (by kernel_rfl) (fun _ _ _ h => h) (Or.inl ⟨by rfl, ?_⟩) (by assumption) ?_
        rotate_left
        focus (intro w' hSw; (try dsimp only at hSw); go_simp; try (with_reducible rfl))
        try simp only [Act.put, List.setIfInBounds_toArray, List.set_cons_zero, List.set_cons_succ]
        refine take_at (i := 13) (v := ?_) (.succ (.succ (.succ (.succ (.succ (.succ (.succ (.succ (.succ (.succ (.succ (.succ (.succ (.zero)))))))))))))) (by kernel_rfl) (by kernel_rfl) (by kernel_rfl) (fun _ _ _ h => h) (Or.inl ⟨by rfl, ?_⟩) (by assumption) ?_
        rotate_left
        focus (intro w' hSw; (try dsimp only at hSw); go_simp; try (with_reducible rfl))
        try simp only [Act.put, List.setIfInBounds_toArray, List.set_cons_zero, List.set_cons_succ]
        refine wpAnyH_done (by kernel_rfl) ?_ _
        refine last_at (.succ (.succ (.succ (.succ (.succ (.succ (.succ (.succ (.succ (.succ (.succ (.succ (.succ (.succ (.zero))))))))))))))) (fun K hK => ?_)
        go_simp
        refine hK.out _ _ ?_
        try go_wp2_with fail
        go_meet
        exact ⟨w7, _, HG7.out, HO7.out, HA7.out, rfl⟩
      case rest =>
      obtain ⟨w7, u', hg7, ho7, hat7, rfl⟩ := hcut
      rw [← hpu] at hg7 hat7
      have P8 := HP.out.addAt rfl hk hg7 ho7 hat7
      have B8 : Below lo WX (w7.setCell ⟨gc, j * 2 + 1, none⟩ u') := (Below.grown (Below.refl lo WX) hg7 (by omega) (fun b e => by rw [hpu] at e; exact hul b e)).setCell hgl2 _
      have hinV := (World.ownsRow.lt (HP.out.ents j hk hk))
      have M8 := HM6.out.step B8 (by omega)
      obtain ⟨mb, ml, mc0, mc1, mc2, mwr, ⟨r0, mr0⟩, ⟨r1', mr1⟩, ⟨r2, mr2⟩, my0⟩ := M8
      have hP9 := ((P8.ofSet (o := 0) (x := .string c.name) (show w.heap.size + 2 < lo by omega)).ofSet (o := 1) (x := .slice (some ⟨gc, 0, none⟩) c.chs.length cc) (show w.heap.size + 2 < lo by omega)).ofSet (o := 2) (x := .slice pd c.dfs.length cd) (show w.heap.size + 2 < lo by omega)
      have hin9 : ∀ b, (vs j).ownBlock = some b → b < mid := hinB j hk
      have D8 : OwnDfH (w7.setCell ⟨gc, j * 2 + 1, none⟩ u') mid w5.heap.size (.slice pd c.dfs.length cd) c.dfs := (HD.out.far hg7 (fun b e => .inl (hin9 b e))).far grown_set (fun b e => by injection e with e; omega)
      have D9 := dfH_at (dfH_at (dfH_at D8 0 (w.heap.size + 2) (.string c.name) (by omega)) 1 (w.heap.size + 2) (.slice (some ⟨gc, 0, none⟩) c.chs.length cc) (by omega)) 2 (w.heap.size + 2) (.slice pd c.dfs.length cd) (by omega)
      have HR9 : Hid (RowCh _ (some ⟨gc, 0, none⟩) (c.chs.set j ⟨c.chs[j].id, c.chs[j].vs ++ [verW t x]⟩)) := OwnCh.rowCh (n := c.chs.length) ⟨_, _, by rw [List.length_set]; exact hP9⟩
      have HD9 : Hid (RowDf _ pd c.dfs) := D9.row
      clear hP9 D8 D9 P8 hg7 ho7 hat7 HP HD HM6 B8
      generalize w7.setCell ⟨gc, j * 2 + 1, none⟩ u' = W8 at *
      go_wp2_with fail
      refine bodyPost_ret (v := .tuple #[.agg #[.string c.name, .slice (some ⟨gc, 0, none⟩) c.chs.length cc, .slice pd c.dfs.length cd], .int .i64 0]) (by simp [results, Tryz.results65, go_sem, *]) rfl ?_
      rw [HRS.out]
      refine ⟨by (repeat (first | (with_reducible exact Below.refl _ _) | (with_reducible assumption) | (with_reducible apply below_drewN) | (with_reducible apply Below.drew) | ((with_reducible refine Below.setCell ?_ ?_ _); rotate_left; focus (first | (simp; done) | (simp; omega) | omega)) | ((with_reducible refine Below.alloc ?_ ?_ _); rotate_left; focus (first | (simp; done) | (simp; omega) | omega)))), some ⟨gc, 0, none⟩, pd, cc, cd, by rw [List.length_set], HR9.out, HD9.out⟩

end Go.Proofs.YtkafanjfjplakaaGreatDoor.Co
