/- The specification's inner Install: its walk. -/
import Derived.Test.YtkafanjfjplakaaGreatDoorInsR
import Derived.Test.YtkafanjfjplakaaGreatDoorCopS
namespace Go.Proofs.YtkafanjfjplakaaGreatDoor.Co
open Go.RowKit Tr
set_option linter.unusedVariables false

theorem lies2_grow {w w' : World} {vb : Nat} {row : Option Nat} {f : P2} (hg : w.grownBy w' row) (h : Lies2 w vb f) (hne : some vb ≠ row) (hlt : vb < w.heap.size) : Lies2 w' vb f := (hg.block vb hlt hne).trans h
theorem InsA.same {c : Col} {code : Int} {w W : World} {e : Ending} {g1 g2 cp cq : Nat} (hr : RdC w g1 g2 c) (hb : Below w.heap.size w W) (he : e = .returned (.tuple #[.agg #[.string c.name, .slice (some ⟨g1, 0, none⟩) c.chs.length cp, .slice (some ⟨g2, 0, none⟩) c.dfs.length cq], .int .i64 code])) : InsA (c, code) w e W :=
  ⟨hb, _, _, _, _, he, (hr.next hb).rd.ch, (hr.next hb).df⟩
set_option maxRecDepth 8000 in
set_option maxHeartbeats 8000000 in
theorem l08Install_old (c : Col) (t : Int) (x : Wrt) (k g1 g2 cq : Nat) (w : World) (hr : RdC w g1 g2 c) (hs : SzCol c) (hB : collB c = true) (hT : timeB t = true) (hp : PlaceC c.chs x.id k true) (ho : ∀ h : k < c.chs.length, t ≤ newT c.chs[k].vs) :
    Calls Tryz.prog 65 #[.agg #[.string c.name, .slice (some ⟨g1, 0, none⟩) c.chs.length c.chs.length, .slice (some ⟨g2, 0, none⟩) c.dfs.length cq], .int .i64 t, .agg #[.string x.coll, .int .i64 x.id, .bool x.gone, .int .i64 x.doc.k, .int .i64 x.doc.n, .string x.doc.t]] w fun e w' => InsA (insK c t x k true) w e w' := by
  have M0 := MkI.start w (.string c.name) (.slice (some ⟨g1, 0, none⟩) c.chs.length c.chs.length) (.slice (some ⟨g2, 0, none⟩) c.dfs.length cq) (.string em) (.slice none 0 0) (.slice none 0 0) x 30 45 30
  have hpt := collB_parts hB
  have hdf := collB_defs hB
  have HDF : Hid (_ ∧ _) := hdf
  have h20 := hpt.2.2.2.1
  have HPT : Hid (∀ x ∈ c.chs, topB x.id = true ∧ 1 ≤ x.vs.length ∧ x.vs.length ≤ 12 ∧ versB x.id 0 x.vs = true) := hpt.2.2.2.2.2
  have hrise : RiseC c.chs := riseC_of _ _ (by unfold collB at hB; simp only [Bool.and_eq_true] at hB; exact hB.2.2)
  have ht1 : 1 ≤ t ∧ t ≤ 10000 := of_decide_eq_true hT
  have HL : Hid (∀ W : World, RdC W g1 g2 c → Calls _ _ _ W _) := fun W hW => l08Last_any c.name (.slice (some ⟨g2, 0, none⟩) c.dfs.length cq) c.chs x.id g1 c.chs.length W hW.ch hs.chl hs.vs
  have HR : Hid (RdC _ _ _ _) := hr
  have HPL : Hid (PlaceC _ _ _ _) := hp
  obtain ⟨L, hL⟩ : ∃ L, L = lastS c.chs x.id := ⟨_, rfl⟩
  rw [← hL] at HL
  have d0 := M0.c0
  have d1 := M0.c1
  have d2 := M0.c2
  have hfld : ∀ W : World, (Instr.field 96 (.agg #[.int .i64 L.tm, .bool L.gone, .int .i64 L.doc.k, .int .i64 L.doc.n, .string L.doc.t]) 0).run Tryz.prog W = .ok (.int .i64 L.tm) W := fun _ => by kernel_rfl
  obtain ⟨hk, hid, hnt⟩ := lastS_at HPT.out HPL.out
  rw [← hL] at hnt
  have hle : t ≤ L.tm := by rw [hnt]; exact ho hk
  have HRS : Hid (insK c t x k true = (c, 19)) := by
    have ha : addC c.chs[k].vs (verW t x) = 19 := by unfold addC; rw [if_pos (ho hk)]
    show insK c t x k true = (c, 19)
    rw [insK_code hk (by rw [ha]; decide), ha]
  clear hL hnt ho hid hrise
  clear hr hp hB hpt hdf hs hT
  go_enter Tryz.func65, Tryz.ntmps65
  go_wp2_with fail
  generalize ((w.alloc (.cells #[.string c.name, .slice (some ⟨g1, 0, none⟩) c.chs.length c.chs.length, .slice (some ⟨g2, 0, none⟩) c.dfs.length cq] 30)).alloc (.cells #[.string x.coll, .int .i64 x.id, .bool x.gone, .int .i64 x.doc.k, .int .i64 x.doc.n, .string x.doc.t] 45)).alloc (.cells #[.string em, .slice none 0 0, .slice none 0 0] 30) = W0 at M0 d0 d1 d2 ⊢
  refine (HL.out _ (HR.out.next M0.bel)).mono ?_
  rintro e w1 ⟨rfl, hb⟩
  have M1 := M0.next hb
  have n0 := M1.c0
  have n1 := M1.c1
  have n2 := M1.c2
  have a1 := M1.wr.c1
  have a2 := M1.wr.c2
  have a3 := M1.wr.c3
  have a4 := M1.wr.c4
  have a5 := M1.wr.c5
  have hl1 := M1.lt
  obtain ⟨mb, ml, mc0, mc1, mc2, mwr, ⟨r0, mr0⟩, ⟨r1, mr1⟩, ⟨r2, mr2⟩, my0⟩ := M1
  clear hb M0 d0 d1 d2 HL a2 a3 a4 a5
  go_wp2_with fail
  refine bodyPost_ret (v := .tuple #[.agg #[.string c.name, .slice (some ⟨g1, 0, none⟩) c.chs.length c.chs.length, .slice (some ⟨g2, 0, none⟩) c.dfs.length cq], .int .i64 19]) (by simp [results, Tryz.results65, go_sem, *]) rfl ?_
  rw [HRS.out]
  exact InsA.same HR.out (by (repeat (first | (with_reducible exact Below.refl _ _) | (with_reducible assumption) | (with_reducible apply below_drewN) | (with_reducible apply Below.drew) | ((with_reducible refine Below.setCell ?_ ?_ _); rotate_left; focus (first | (simp; done) | (simp; omega) | omega)) | ((with_reducible refine Below.alloc ?_ ?_ _); rotate_left; focus (first | (simp; done) | (simp; omega) | omega))))) rfl

set_option maxRecDepth 8000 in
set_option maxHeartbeats 8000000 in
theorem l08Install_full (c : Col) (t : Int) (x : Wrt) (k g1 g2 cq : Nat) (w : World) (hr : RdC w g1 g2 c) (hs : SzCol c) (hB : collB c = true) (hT : timeB t = true) (hp : PlaceC c.chs x.id k true) (ho : ∀ h : k < c.chs.length, ¬ t ≤ newT c.chs[k].vs ∧ c.chs[k].vs.length = 12) :
    Calls Tryz.prog 65 #[.agg #[.string c.name, .slice (some ⟨g1, 0, none⟩) c.chs.length c.chs.length, .slice (some ⟨g2, 0, none⟩) c.dfs.length cq], .int .i64 t, .agg #[.string x.coll, .int .i64 x.id, .bool x.gone, .int .i64 x.doc.k, .int .i64 x.doc.n, .string x.doc.t]] w fun e w' => InsA (insK c t x k true) w e w' := by
  have M0 := MkI.start w (.string c.name) (.slice (some ⟨g1, 0, none⟩) c.chs.length c.chs.length) (.slice (some ⟨g2, 0, none⟩) c.dfs.length cq) (.string em) (.slice none 0 0) (.slice none 0 0) x 30 45 30
  have hpt := collB_parts hB
  have hdf := collB_defs hB
  have HDF : Hid (_ ∧ _) := hdf
  have h20 := hpt.2.2.2.1
  have HPT : Hid (∀ x ∈ c.chs, topB x.id = true ∧ 1 ≤ x.vs.length ∧ x.vs.length ≤ 12 ∧ versB x.id 0 x.vs = true) := hpt.2.2.2.2.2
  have hrise : RiseC c.chs := riseC_of _ _ (by unfold collB at hB; simp only [Bool.and_eq_true] at hB; exact hB.2.2)
  have ht1 : 1 ≤ t ∧ t ≤ 10000 := of_decide_eq_true hT
  have HL : Hid (∀ W : World, RdC W g1 g2 c → Calls _ _ _ W _) := fun W hW => l08Last_any c.name (.slice (some ⟨g2, 0, none⟩) c.dfs.length cq) c.chs x.id g1 c.chs.length W hW.ch hs.chl hs.vs
  have HR : Hid (RdC _ _ _ _) := hr
  have HPL : Hid (PlaceC _ _ _ _) := hp
  obtain ⟨L, hL⟩ : ∃ L, L = lastS c.chs x.id := ⟨_, rfl⟩
  rw [← hL] at HL
  have d0 := M0.c0
  have d1 := M0.c1
  have d2 := M0.c2
  have hfld : ∀ W : World, (Instr.field 96 (.agg #[.int .i64 L.tm, .bool L.gone, .int .i64 L.doc.k, .int .i64 L.doc.n, .string L.doc.t]) 0).run Tryz.prog W = .ok (.int .i64 L.tm) W := fun _ => by kernel_rfl
  obtain ⟨hk, hid, hnt⟩ := lastS_at HPT.out HPL.out
  rw [← hL] at hnt
  have hlt : ¬ t ≤ L.tm := by rw [hnt]; exact (ho hk).1
  have H12 : Hid (c.chs[k].vs.length = 12) := (ho hk).2
  have HRS : Hid (insK c t x k true = (c, 7)) := by
    have ha : addC c.chs[k].vs (verW t x) = 7 := by unfold addC; rw [if_neg (ho hk).1, if_pos (ho hk).2]
    show insK c t x k true = (c, 7)
    rw [insK_code hk (by rw [ha]; decide), ha]
  clear hL hnt ho hrise
  clear hr hp hB hpt hdf hs hT
  go_enter Tryz.func65, Tryz.ntmps65
  go_wp2_with fail
  generalize ((w.alloc (.cells #[.string c.name, .slice (some ⟨g1, 0, none⟩) c.chs.length c.chs.length, .slice (some ⟨g2, 0, none⟩) c.dfs.length cq] 30)).alloc (.cells #[.string x.coll, .int .i64 x.id, .bool x.gone, .int .i64 x.doc.k, .int .i64 x.doc.n, .string x.doc.t] 45)).alloc (.cells #[.string em, .slice none 0 0, .slice none 0 0] 30) = W0 at M0 d0 d1 d2 ⊢
  refine (HL.out _ (HR.out.next M0.bel)).mono ?_
  rintro e w1 ⟨rfl, hb⟩
  have M1 := M0.next hb
  have n0 := M1.c0
  have n1 := M1.c1
  have n2 := M1.c2
  have a1 := M1.wr.c1
  have a2 := M1.wr.c2
  have a3 := M1.wr.c3
  have a4 := M1.wr.c4
  have a5 := M1.wr.c5
  have hl1 := M1.lt
  have hbA : Below w1.heap.size w1 (w1.alloc (.cells #[.int .i64 t, .bool x.gone, .int .i64 x.doc.k, .int .i64 x.doc.n, .string x.doc.t] 96)) := (Below.refl _ _).alloc (Nat.le_refl _) _
  have M2 := M1.next hbA
  have V2 := V5.new w1 (verW t x)
  have hltv : ¬ t ≤ L.tm := by omega
  clear hb M0 d0 d1 d2 HL M1
  go_wp2_with fail
  generalize w1.alloc (.cells #[.int .i64 t, .bool x.gone, .int .i64 x.doc.k, .int .i64 x.doc.n, .string x.doc.t] 96) = WV at M2 V2 hbA ⊢
  obtain ⟨bv, hbv⟩ : ∃ bv, bv = w1.heap.size := ⟨_, rfl⟩
  rw [← hbv] at V2 ⊢
  have hbv3 : w.heap.size + 3 ≤ bv := by omega
  clear n0 n1 n2 a1 a2 a3 a4 a5 hbv hbA
  go_loopw [9] (fun i wr => ∃ j : Nat, j ≤ k ∧ i = .int .i64 j ∧ Below WV.heap.size WV wr) (fun i _ => k - (intOf i).toNat)
  case atStart => exact ⟨0, Nat.zero_le _, rfl, Below.refl _ _⟩
  case round =>
    obtain ⟨j, hj, rfl, hbr⟩ := hrel
    have M3 := M2.next hbr
    have V3 := V2.step hbr
    have R3 := HR.out.next M3.bel
    have n1 := M3.c1
    have a1 := M3.wr.c1
    have hl3 := M3.lt
    have hgl := R3.ch.lt
    by_cases hjk : j < k
    · have hjn : j < c.chs.length := by have := HPL.out.le; omega
      have x0 := (R3.ch.cells j hjn).1
      have hlt3 : c.chs[j].id < x.id := HPL.out.lo j hjn hjk
      have e1 : decide ((j : Int) < (c.chs.length : Int)) = true := decide_eq_true (by omega)
      have e2 : decide (j < c.chs.length) = true := decide_eq_true hjn
      have e3 : decide (c.chs[j].id < x.id) = true := decide_eq_true hlt3
      have hjI : (j : Int) < (c.chs.length : Int) := by omega
      obtain ⟨I, hI⟩ : ∃ I, I = c.chs[j].id := ⟨_, rfl⟩
      rw [← hI] at x0 hlt3 e3
      clear hI R3 V3 M3
      go_wp2_with fail
      go_quiet (fail)
      go_wp2_with fail
      go_roundw
      case rel => exact ⟨j + 1, by omega, by go_num, below_drewN hbr _⟩
      case measure => simp [intOf]; omega
    · obtain rfl : j = k := by omega
      have x0 := (R3.ch.cells j hk).1
      obtain ⟨y0, pv, cv, x1, hcv, hTv⟩ := R3.ch.cells j hk
      have e1 : decide ((j : Int) < (c.chs.length : Int)) = true := decide_eq_true (by omega)
      have e2 : decide (j < c.chs.length) = true := decide_eq_true hk
      have hjI : (j : Int) < (c.chs.length : Int) := by omega
      rw [hid] at x0 y0
      have e3 : decide (x.id < x.id) = false := decide_eq_false (by omega)
      have e4 : ¬ x.id < x.id := by omega
      clear hjk hTv hcv
      go_wp2_with fail
      go_quiet (fail)
      go_wp2_with fail
      go_quiet (fail)
      have h12 : ((c.chs[j].vs.length : Nat) : Int) = 12 := by have := H12.out; omega
      obtain ⟨mb, ml, mc0, mc1, mc2, mwr, ⟨r0, mr0⟩, ⟨r1, mr1⟩, ⟨r2, mr2⟩, my0⟩ := M3
      go_wp2_with fail
      refine bodyPost_ret (v := .tuple #[.agg #[.string c.name, .slice (some ⟨g1, 0, none⟩) c.chs.length c.chs.length, .slice (some ⟨g2, 0, none⟩) c.dfs.length cq], .int .i64 7]) (by simp [results, Tryz.results65, go_sem, *]) rfl ?_
      rw [HRS.out]
      exact InsA.same HR.out (by (repeat (first | (with_reducible exact Below.refl _ _) | (with_reducible assumption) | (with_reducible apply below_drewN) | (with_reducible apply Below.drew) | ((with_reducible refine Below.setCell ?_ ?_ _); rotate_left; focus (first | (simp; done) | (simp; omega) | omega)) | ((with_reducible refine Below.alloc ?_ ?_ _); rotate_left; focus (first | (simp; done) | (simp; omega) | omega))))) rfl

end Go.Proofs.YtkafanjfjplakaaGreatDoor.Co
