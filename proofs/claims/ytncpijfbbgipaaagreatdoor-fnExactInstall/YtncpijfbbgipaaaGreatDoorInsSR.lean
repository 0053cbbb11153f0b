/- The specification's inner Install: its walk. -/
import Derived.Test.YtncpijfbbgipaaaGreatDoorWrtMR
import Derived.Test.YtncpijfbbgipaaaGreatDoorColQR
import Derived.Deep.DeepCutAuto
import Derived.Test.YtncpijfbbgipaaaGreatDoorColCR
import Derived.Deep.RegionHeld3
import Derived.Test.YtncpijfbbgipaaaGreatDoorRows
import Derived.Test.YtncpijfbbgipaaaGreatDoorTie
import Derived.Test.YtncpijfbbgipaaaGreatDoorCards
import Derived.LaidMore
import Derived.Lay
import Derived.Stop.Joined
import Derived.SevenTiedAt
import Derived.ProofKit
import Derived.OpenShut
import Derived.ShutString
import Derived.ChangeOld
import Derived.Below
import Derived.Lib.SmallJoins
namespace Go.Proofs.YtncpijfbbgipaaaGreatDoor.Co
open Go.RowKit Tr
set_option linter.unusedVariables false

theorem lies2_grow {w w' : World} {vb : Nat} {row : Option Nat} {f : P2} (hg : w.grownBy w' row) (h : Lies2 w vb f) (hne : some vb ≠ row) (hlt : vb < w.heap.size) : Lies2 w' vb f := (hg.block vb hlt hne).trans h
theorem InsA.same {c : Col} {code : Int} {w W : World} {e : Ending} {g1 g2 cp cq : Nat} (hr : RdC w g1 g2 c) (hb : Below w.heap.size w W) (he : e = .returned (.tuple #[.agg #[.string c.name, .slice (some ⟨g1, 0, none⟩) c.chs.length cp, .slice (some ⟨g2, 0, none⟩) c.dfs.length cq], .int .i64 code])) : InsA (c, code) w e W :=
  ⟨hb, _, _, _, _, he, (hr.next hb).rd.ch, (hr.next hb).df⟩
set_option maxRecDepth 8000 in
set_option maxHeartbeats 8000000 in
theorem l08Install_old (c : Col) (t : Int) (x : Wrt) (k g1 g2 cq : Nat) (w : World) (hr : RdC w g1 g2 c) (hs : SzCol c) (hB : collB c = true) (hT : timeB t = true) (hp : PlaceC c.chs x.id k true) (ho : ∀ h : k < c.chs.length, t ≤ newT c.chs[k].vs) :
    Calls Tryz.prog 22 #[.agg #[.string c.name, .slice (some ⟨g1, 0, none⟩) c.chs.length c.chs.length, .slice (some ⟨g2, 0, none⟩) c.dfs.length cq], .int .i64 t, .agg #[.string x.coll, .int .i64 x.id, .bool x.gone, .int .i64 x.doc.k, .int .i64 x.doc.n, .string x.doc.t]] w fun e w' => InsA (insK c t x k true) w e w' := by
  have M0 := MkI.start w (.string c.name) (.slice (some ⟨g1, 0, none⟩) c.chs.length c.chs.length) (.slice (some ⟨g2, 0, none⟩) c.dfs.length cq) (.string em) (.slice none 0 0) (.slice none 0 0) x 35 41 35
  have hpt := collB_parts hB
  have hdf := collB_defs hB
  have HDF : Hid (_ ∧ _) := hdf
  have h20 := hpt.2.2.2.1
  have HPT : Hid (∀ x ∈ c.chs, topB x.id = true ∧ 1 ≤ x.vs.length ∧ x.vs.length ≤ 12 ∧ versB x.id 0 x.vs = true) := hpt.2.2.2.2.2
  have hrise : RiseC c.chs := riseC_of _ _ (by unfold collB at hB; simp only [Bool.and_eq_true] at hB; exact hB.2.2)
  have ht1 : 1 ≤ t ∧ t ≤ 10000 := of_decide_eq_true hT
  have HL : Hid (∀ W : World, RdC W g1 g2 c → Calls _ _ _ W _) := fun W hW => l08Last_any c.name (.slice (some ⟨g2, 0, none⟩) c.dfs.length cq) c.chs x.id g1 c.chs.length W hW.ch hs.chl hs.vs
  have HR : Hid (RdC _ _ _ _) := hr
  have HPL : Hid (PlaceC _ _ _ _) := hp
  obtain ⟨L, hL⟩ : ∃ L, L = lastS c.chs x.id := ⟨_, rfl⟩
  rw [← hL] at HL
  have d0 := M0.c0
  have d1 := M0.c1
  have d2 := M0.c2
  have hfld : ∀ W : World, (Instr.field 69 (.agg #[.int .i64 L.tm, .bool L.gone, .int .i64 L.doc.k, .int .i64 L.doc.n, .string L.doc.t]) 0).run Tryz.prog W = .ok (.int .i64 L.tm) W := fun _ => by kernel_rfl
  obtain ⟨hk, hid, hnt⟩ := lastS_at HPT.out HPL.out
  rw [← hL] at hnt
  have hle : t ≤ L.tm := by rw [hnt]; exact ho hk
  have HRS : Hid (insK c t x k true = (c, 19)) := by
    have ha : addC c.chs[k].vs (verW t x) = 19 := by unfold addC; rw [if_pos (ho hk)]
    show insK c t x k true = (c, 19)
    rw [insK_code hk (by rw [ha]; decide), ha]
  clear hL hnt ho hid hrise
  clear hr hp hB hpt hdf hs hT
  go_enter Tryz.func22, Tryz.ntmps22
  go_wp2_with fail
  generalize ((w.alloc (.cells #[.string c.name, .slice (some ⟨g1, 0, none⟩) c.chs.length c.chs.length, .slice (some ⟨g2, 0, none⟩) c.dfs.length cq] 35)).alloc (.cells #[.string x.coll, .int .i64 x.id, .bool x.gone, .int .i64 x.doc.k, .int .i64 x.doc.n, .string x.doc.t] 41)).alloc (.cells #[.string em, .slice none 0 0, .slice none 0 0] 35) = W0 at M0 d0 d1 d2 ⊢
  refine (HL.out _ (HR.out.next M0.bel)).mono ?_
  rintro e w1 ⟨rfl, hb⟩
  have M1 := M0.next hb
  have n0 := M1.c0
  have n1 := M1.c1
  have n2 := M1.c2
  have a1 := M1.wr.c1
  have a2 := M1.wr.c2
  have a3 := M1.wr.c3
  have a4 := M1.wr.c4
  have a5 := M1.wr.c5
  have hl1 := M1.lt
  obtain ⟨mb, ml, mc0, mc1, mc2, mwr, ⟨r0, mr0⟩, ⟨r1, mr1⟩, ⟨r2, mr2⟩, my0⟩ := M1
  clear hb M0 d0 d1 d2 HL a2 a3 a4 a5
  go_wp2_with fail
  refine bodyPost_ret (v := .tuple #[.agg #[.string c.name, .slice (some ⟨g1, 0, none⟩) c.chs.length c.chs.length, .slice (some ⟨g2, 0, none⟩) c.dfs.length cq], .int .i64 19]) (by simp [results, Tryz.results22, go_sem, *]) rfl ?_
  rw [HRS.out]
  exact InsA.same HR.out (by (repeat (first | (with_reducible exact Below.refl _ _) | (with_reducible assumption) | (with_reducible apply below_drewN) | (with_reducible apply Below.drew) | ((with_reducible refine Below.setCell ?_ ?_ _); rotate_left; focus (first | (simp; done) | (simp; omega) | omega)) | ((with_reducible refine Below.alloc ?_ ?_ _); rotate_left; focus (first | (simp; done) | (simp; omega) | omega))))) rfl

set_option maxRecDepth 8000 in
set_option maxHeartbeats 8000000 in
theorem l08Install_full (c : Col) (t : Int) (x : Wrt) (k g1 g2 cq : Nat) (w : World) (hr : RdC w g1 g2 c) (hs : SzCol c) (hB : collB c = true) (hT : timeB t = true) (hp : PlaceC c.chs x.id k true) (ho : ∀ h : k < c.chs.length, ¬ t ≤ newT c.chs[k].vs ∧ c.chs[k].vs.length = 12) :
    Calls Tryz.prog 22 #[.agg #[.string c.name, .slice (some ⟨g1, 0, none⟩) c.chs.length c.chs.length, .slice (some ⟨g2, 0, none⟩) c.dfs.length cq], .int .i64 t, .agg #[.string x.coll, .int .i64 x.id, .bool x.gone, .int .i64 x.doc.k, .int .i64 x.doc.n, .string x.doc.t]] w fun e w' => InsA (insK c t x k true) w e w' := by
  have M0 := MkI.start w (.string c.name) (.slice (some ⟨g1, 0, none⟩) c.chs.length c.chs.length) (.slice (some ⟨g2, 0, none⟩) c.dfs.length cq) (.string em) (.slice none 0 0) (.slice none 0 0) x 35 41 35
  have hpt := collB_parts hB
  have hdf := collB_defs hB
  have HDF : Hid (_ ∧ _) := hdf
  have h20 := hpt.2.2.2.1
  have HPT : Hid (∀ x ∈ c.chs, topB x.id = true ∧ 1 ≤ x.vs.length ∧ x.vs.length ≤ 12 ∧ versB x.id 0 x.vs = true) := hpt.2.2.2.2.2
  have hrise : RiseC c.chs := riseC_of _ _ (by unfold collB at hB; simp only [Bool.and_eq_true] at hB; exact hB.2.2)
  have ht1 : 1 ≤ t ∧ t ≤ 10000 := of_decide_eq_true hT
  have HL : Hid (∀ W : World, RdC W g1 g2 c → Calls _ _ _ W _) := fun W hW => l08Last_any c.name (.slice (some ⟨g2, 0, none⟩) c.dfs.length cq) c.chs x.id g1 c.chs.length W hW.ch hs.chl hs.vs
  have HR : Hid (RdC _ _ _ _) := hr
  have HPL : Hid (PlaceC _ _ _ _) := hp
  obtain ⟨L, hL⟩ : ∃ L, L = lastS c.chs x.id := ⟨_, rfl⟩
  rw [← hL] at HL
  have d0 := M0.c0
  have d1 := M0.c1
  have d2 := M0.c2
  have hfld : ∀ W : World, (Instr.field 69 (.agg #[.int .i64 L.tm, .bool L.gone, .int .i64 L.doc.k, .int .i64 L.doc.n, .string L.doc.t]) 0).run Tryz.prog W = .ok (.int .i64 L.tm) W := fun _ => by kernel_rfl
  obtain ⟨hk, hid, hnt⟩ := lastS_at HPT.out HPL.out
  rw [← hL] at hnt
  have hlt : ¬ t ≤ L.tm := by rw [hnt]; exact (ho hk).1
  have H12 : Hid (c.chs[k].vs.length = 12) := (ho hk).2
  have HRS : Hid (insK c t x k true = (c, 7)) := by
    have ha : addC c.chs[k].vs (verW t x) = 7 := by unfold addC; rw [if_neg (ho hk).1, if_pos (ho hk).2]
    show insK c t x k true = (c, 7)
    rw [insK_code hk (by rw [ha]; decide), ha]
  clear hL hnt ho hrise
  clear hr hp hB hpt hdf hs hT
  go_enter Tryz.func22, Tryz.ntmps22
  go_wp2_with fail
  generalize ((w.alloc (.cells #[.string c.name, .slice (some ⟨g1, 0, none⟩) c.chs.length c.chs.length, .slice (some ⟨g2, 0, none⟩) c.dfs.length cq] 35)).alloc (.cells #[.string x.coll, .int .i64 x.id, .bool x.gone, .int .i64 x.doc.k, .int .i64 x.doc.n, .string x.doc.t] 41)).alloc (.cells #[.string em, .slice none 0 0, .slice none 0 0] 35) = W0 at M0 d0 d1 d2 ⊢
  refine (HL.out _ (HR.out.next M0.bel)).mono ?_
  rintro e w1 ⟨rfl, hb⟩
  have M1 := M0.next hb
  have n0 := M1.c0
  have n1 := M1.c1
  have n2 := M1.c2
  have a1 := M1.wr.c1
  have a2 := M1.wr.c2
  have a3 := M1.wr.c3
  have a4 := M1.wr.c4
  have a5 := M1.wr.c5
  have hl1 := M1.lt
  have hbA : Below w1.heap.size w1 (w1.alloc (.cells #[.int .i64 t, .bool x.gone, .int .i64 x.doc.k, .int .i64 x.doc.n, .string x.doc.t] 69)) := (Below.refl _ _).alloc (Nat.le_refl _) _
  have M2 := M1.next hbA
  have V2 := V5.new w1 (verW t x)
  have hltv : ¬ t ≤ L.tm := by omega
  clear hb M0 d0 d1 d2 HL M1
  go_wp2_with fail
  generalize w1.alloc (.cells #[.int .i64 t, .bool x.gone, .int .i64 x.doc.k, .int .i64 x.doc.n, .string x.doc.t] 69) = WV at M2 V2 hbA ⊢
  obtain ⟨bv, hbv⟩ : ∃ bv, bv = w1.heap.size := ⟨_, rfl⟩
  rw [← hbv] at V2 ⊢
  have hbv3 : w.heap.size + 3 ≤ bv := by omega
  clear n0 n1 n2 a1 a2 a3 a4 a5 hbv hbA
  go_loopw [9] (fun i wr => ∃ j : Nat, j ≤ k ∧ i = .int .i64 j ∧ Below WV.heap.size WV wr) (fun i _ => k - (intOf i).toNat)
  case atStart => exact ⟨0, Nat.zero_le _, rfl, Below.refl _ _⟩
  case round =>
    obtain ⟨j, hj, rfl, hbr⟩ := hrel
    have M3 := M2.next hbr
    have V3 := V2.step hbr
    have R3 := HR.out.next M3.bel
    have n1 := M3.c1
    have a1 := M3.wr.c1
    have hl3 := M3.lt
    have hgl := R3.ch.lt
    by_cases hjk : j < k
    · have hjn : j < c.chs.length := by have := HPL.out.le; omega
      have x0 := (R3.ch.cells j hjn).1
      have hlt3 : c.chs[j].id < x.id := HPL.out.lo j hjn hjk
      have e1 : decide ((j : Int) < (c.chs.length : Int)) = true := decide_eq_true (by omega)
      have e2 : decide (j < c.chs.length) = true := decide_eq_true hjn
      have e3 : decide (c.chs[j].id < x.id) = true := decide_eq_true hlt3
      have hjI : (j : Int) < (c.chs.length : Int) := by omega
      obtain ⟨I, hI⟩ : ∃ I, I = c.chs[j].id := ⟨_, rfl⟩
      rw [← hI] at x0 hlt3 e3
      clear hI R3 V3 M3
      go_wp2_with fail
      go_quiet (fail)
      go_wp2_with fail
      go_roundw
      case rel => exact ⟨j + 1, by omega, by go_num, below_drewN hbr _⟩
      case measure => simp [intOf]; omega
    · obtain rfl : j = k := by omega
      have x0 := (R3.ch.cells j hk).1
      obtain ⟨y0, pv, cv, x1, hcv, hTv⟩ := R3.ch.cells j hk
      have e1 : decide ((j : Int) < (c.chs.length : Int)) = true := decide_eq_true (by omega)
      have e2 : decide (j < c.chs.length) = true := decide_eq_true hk
      have hjI : (j : Int) < (c.chs.length : Int) := by omega
      rw [hid] at x0 y0
      have e3 : decide (x.id < x.id) = false := decide_eq_false (by omega)
      have e4 : ¬ x.id < x.id := by omega
      clear hjk hTv hcv
      go_wp2_with fail
      go_quiet (fail)
      go_wp2_with fail
      go_quiet (fail)
      have h12 : ((c.chs[j].vs.length : Nat) : Int) = 12 := by have := H12.out; omega
      obtain ⟨mb, ml, mc0, mc1, mc2, mwr, ⟨r0, mr0⟩, ⟨r1, mr1⟩, ⟨r2, mr2⟩, my0⟩ := M3
      go_wp2_with fail
      refine bodyPost_ret (v := .tuple #[.agg #[.string c.name, .slice (some ⟨g1, 0, none⟩) c.chs.length c.chs.length, .slice (some ⟨g2, 0, none⟩) c.dfs.length cq], .int .i64 7]) (by simp [results, Tryz.results22, go_sem, *]) rfl ?_
      rw [HRS.out]
      exact InsA.same HR.out (by (repeat (first | (with_reducible exact Below.refl _ _) | (with_reducible assumption) | (with_reducible apply below_drewN) | (with_reducible apply Below.drew) | ((with_reducible refine Below.setCell ?_ ?_ _); rotate_left; focus (first | (simp; done) | (simp; omega) | omega)) | ((with_reducible refine Below.alloc ?_ ?_ _); rotate_left; focus (first | (simp; done) | (simp; omega) | omega))))) rfl

end Go.Proofs.YtncpijfbbgipaaaGreatDoor.Co

/- The specification's inner Install: a version more, and a new chain. -/
namespace Go.Proofs.YtncpijfbbgipaaaGreatDoor.Co
open Go.RowKit Tr
set_option linter.unusedVariables false

theorem MkI.put {w W : World} {nm v u : Value} {x : Wrt} (h : MkI w W nm v u x) (nm' v' u' : Value) : MkI w (((W.setCell ⟨w.heap.size, 0, none⟩ nm').setCell ⟨w.heap.size, 1, none⟩ v').setCell ⟨w.heap.size, 2, none⟩ u') nm' v' u' x := by
  obtain ⟨mb, ml, mc0, mc1, mc2, ⟨wl, w0, w1, w2, w3, w4, w5⟩, ⟨r0, mr0⟩, ⟨r1, mr1⟩, ⟨r2, mr2⟩, my0⟩ := h
  exact ⟨((mb.setCell (by simp) _).setCell (by simp) _).setCell (by simp) _, by simpa [World.setCell] using ml, by simp [go_sem, *], by simp [go_sem, *], by simp [go_sem, *], ⟨by simpa [World.setCell] using wl, by simp [go_sem, *], by simp [go_sem, *], by simp [go_sem, *], by simp [go_sem, *], by simp [go_sem, *], by simp [go_sem, *]⟩, ⟨r0, by simp [go_sem, *]⟩, ⟨r1, by simp [go_sem, *]⟩, ⟨r2, by simp [go_sem, *]⟩, fun o => by simp [go_sem, *]⟩
theorem rowCh_low {w W : World} {b o : Nat} {p : Option Addr} {l : List Chn} {y : Value} (h : RowCh W p l) (hb : Below b W (W.setCell ⟨b, o, none⟩ y)) (hl : ∀ g, p = some ⟨g, 0, none⟩ → False) : True := trivial

set_option maxRecDepth 8000 in
set_option maxHeartbeats 8000000 in
theorem l08Install_more (c : Col) (t : Int) (x : Wrt) (k g1 g2 cq : Nat) (w : World) (hr : RdC w g1 g2 c) (hs : SzCol c) (hB : collB c = true) (hT : timeB t = true) (hp : PlaceC c.chs x.id k true) (ho : ∀ h : k < c.chs.length, ¬ t ≤ newT c.chs[k].vs ∧ ¬ c.chs[k].vs.length = 12) :
    Calls Tryz.prog 22 #[.agg #[.string c.name, .slice (some ⟨g1, 0, none⟩) c.chs.length c.chs.length, .slice (some ⟨g2, 0, none⟩) c.dfs.length cq], .int .i64 t, .agg #[.string x.coll, .int .i64 x.id, .bool x.gone, .int .i64 x.doc.k, .int .i64 x.doc.n, .string x.doc.t]] w fun e w' => InsA (insK c t x k true) w e w' := by
  have M0 := MkI.start w (.string c.name) (.slice (some ⟨g1, 0, none⟩) c.chs.length c.chs.length) (.slice (some ⟨g2, 0, none⟩) c.dfs.length cq) (.string em) (.slice none 0 0) (.slice none 0 0) x 35 41 35
  have hpt := collB_parts hB
  have hdf := collB_defs hB
  have HDF : Hid (_ ∧ _) := hdf
  have h20 := hpt.2.2.2.1
  have HPT : Hid (∀ x ∈ c.chs, topB x.id = true ∧ 1 ≤ x.vs.length ∧ x.vs.length ≤ 12 ∧ versB x.id 0 x.vs = true) := hpt.2.2.2.2.2
  have hrise : RiseC c.chs := riseC_of _ _ (by unfold collB at hB; simp only [Bool.and_eq_true] at hB; exact hB.2.2)
  have ht1 : 1 ≤ t ∧ t ≤ 10000 := of_decide_eq_true hT
  have HL : Hid (∀ W : World, RdC W g1 g2 c → Calls _ _ _ W _) := fun W hW => l08Last_any c.name (.slice (some ⟨g2, 0, none⟩) c.dfs.length cq) c.chs x.id g1 c.chs.length W hW.ch hs.chl hs.vs
  have HR : Hid (RdC _ _ _ _) := hr
  have HPL : Hid (PlaceC _ _ _ _) := hp
  obtain ⟨L, hL⟩ : ∃ L, L = lastS c.chs x.id := ⟨_, rfl⟩
  rw [← hL] at HL
  have d0 := M0.c0
  have d1 := M0.c1
  have d2 := M0.c2
  have hfld : ∀ W : World, (Instr.field 69 (.agg #[.int .i64 L.tm, .bool L.gone, .int .i64 L.doc.k, .int .i64 L.doc.n, .string L.doc.t]) 0).run Tryz.prog W = .ok (.int .i64 L.tm) W := fun _ => by kernel_rfl
  obtain ⟨hk, hid, hnt⟩ := lastS_at HPT.out HPL.out
  rw [← hL] at hnt
  have hlt : ¬ t ≤ L.tm := by rw [hnt]; exact (ho hk).1
  have H12 : Hid (¬ c.chs[k].vs.length = 12) := (ho hk).2
  have HRS : Hid (insK c t x k true = (⟨c.name, c.chs.set k ⟨c.chs[k].id, c.chs[k].vs ++ [verW t x]⟩, c.dfs⟩, 0)) := by
    have ha : addC c.chs[k].vs (verW t x) = 0 := by unfold addC; rw [if_neg (ho hk).1, if_neg (ho hk).2]
    exact insK_some hk ha
  clear hL hnt ho hrise
  clear hr hp hB hpt hdf hs hT
  go_enter Tryz.func22, Tryz.ntmps22
  go_wp2_with fail
  have fz : ∀ o, (((w.alloc (.cells #[.string c.name, .slice (some ⟨g1, 0, none⟩) c.chs.length c.chs.length, .slice (some ⟨g2, 0, none⟩) c.dfs.length cq] 35)).alloc (.cells #[.string x.coll, .int .i64 x.id, .bool x.gone, .int .i64 x.doc.k, .int .i64 x.doc.n, .string x.doc.t] 41)).alloc (.cells #[.string em, .slice none 0 0, .slice none 0 0] 35)).frozen? ⟨w.heap.size, o, none⟩ = false := fun o => by simp [go_sem]
  generalize ((w.alloc (.cells #[.string c.name, .slice (some ⟨g1, 0, none⟩) c.chs.length c.chs.length, .slice (some ⟨g2, 0, none⟩) c.dfs.length cq] 35)).alloc (.cells #[.string x.coll, .int .i64 x.id, .bool x.gone, .int .i64 x.doc.k, .int .i64 x.doc.n, .string x.doc.t] 41)).alloc (.cells #[.string em, .slice none 0 0, .slice none 0 0] 35) = W0 at M0 d0 d1 d2 fz ⊢
  refine (HL.out _ (HR.out.next M0.bel)).mono ?_
  rintro e w1 ⟨rfl, hb⟩
  have M1 := M0.next hb
  have n0 := M1.c0
  have n1 := M1.c1
  have n2 := M1.c2
  have a1 := M1.wr.c1
  have a2 := M1.wr.c2
  have a3 := M1.wr.c3
  have a4 := M1.wr.c4
  have a5 := M1.wr.c5
  have hl1 := M1.lt
  have fz1 : ∀ o, w1.frozen? ⟨w.heap.size, o, none⟩ = false := fun o => (hb.frozen (p := ⟨w.heap.size, o, none⟩) (by have := M0.lt; show w.heap.size < W0.heap.size; omega)).trans (fz o)
  clear fz
  have hbA : Below w1.heap.size w1 (w1.alloc (.cells #[.int .i64 t, .bool x.gone, .int .i64 x.doc.k, .int .i64 x.doc.n, .string x.doc.t] 69)) := (Below.refl _ _).alloc (Nat.le_refl _) _
  have M2 := M1.next hbA
  have fz2 : ∀ o, (w1.alloc (.cells #[.int .i64 t, .bool x.gone, .int .i64 x.doc.k, .int .i64 x.doc.n, .string x.doc.t] 69)).frozen? ⟨w.heap.size, o, none⟩ = false := fun o => (hbA.frozen (p := ⟨w.heap.size, o, none⟩) (by show w.heap.size < w1.heap.size; omega)).trans (fz1 o)
  have V2 := V5.new w1 (verW t x)
  have hltv : ¬ t ≤ L.tm := by omega
  clear hb M0 d0 d1 d2 HL M1
  go_wp2_with fail
  generalize w1.alloc (.cells #[.int .i64 t, .bool x.gone, .int .i64 x.doc.k, .int .i64 x.doc.n, .string x.doc.t] 69) = WV at M2 V2 hbA fz2 ⊢
  obtain ⟨bv, hbv⟩ : ∃ bv, bv = w1.heap.size := ⟨_, rfl⟩
  rw [← hbv] at V2 ⊢
  have hbv3 : w.heap.size + 3 ≤ bv := by omega
  clear n0 n1 n2 a1 a2 a3 a4 a5 hbv hbA
  go_loopw [9] (fun i wr => ∃ j : Nat, j ≤ k ∧ i = .int .i64 j ∧ Below WV.heap.size WV wr) (fun i _ => k - (intOf i).toNat)
  case atStart => exact ⟨0, Nat.zero_le _, rfl, Below.refl _ _⟩
  case round =>
    obtain ⟨j, hj, rfl, hbr⟩ := hrel
    have M3 := M2.next hbr
    have fz3 : ∀ o, wr.frozen? ⟨w.heap.size, o, none⟩ = false := fun o => (hbr.frozen (p := ⟨w.heap.size, o, none⟩) (by have := M2.lt; show w.heap.size < WV.heap.size; omega)).trans (fz2 o)
    have V3 := V2.step hbr
    have R3 := HR.out.next M3.bel
    have n1 := M3.c1
    have a1 := M3.wr.c1
    have hl3 := M3.lt
    have hgl := R3.ch.lt
    by_cases hjk : j < k
    · have hjn : j < c.chs.length := by have := HPL.out.le; omega
      have x0 := (R3.ch.cells j hjn).1
      have hlt3 : c.chs[j].id < x.id := HPL.out.lo j hjn hjk
      have e1 : decide ((j : Int) < (c.chs.length : Int)) = true := decide_eq_true (by omega)
      have e2 : decide (j < c.chs.length) = true := decide_eq_true hjn
      have e3 : decide (c.chs[j].id < x.id) = true := decide_eq_true hlt3
      have hjI : (j : Int) < (c.chs.length : Int) := by omega
      obtain ⟨I, hI⟩ : ∃ I, I = c.chs[j].id := ⟨_, rfl⟩
      rw [← hI] at x0 hlt3 e3
      clear hI R3 V3 M3
      go_wp2_with fail
      go_quiet (fail)
      go_wp2_with fail
      go_roundw
      case rel => exact ⟨j + 1, by omega, by go_num, below_drewN hbr _⟩
      case measure => simp [intOf]; omega
    · obtain rfl : j = k := by omega
      have x0 := (R3.ch.cells j hk).1
      obtain ⟨y0, pv, cv, x1, hcv, hTv⟩ := R3.ch.cells j hk
      have e1 : decide ((j : Int) < (c.chs.length : Int)) = true := decide_eq_true (by omega)
      have e2 : decide (j < c.chs.length) = true := decide_eq_true hk
      have hjI : (j : Int) < (c.chs.length : Int) := by omega
      rw [hid] at x0 y0
      have e3 : decide (x.id < x.id) = false := decide_eq_false (by omega)
      have e4 : ¬ x.id < x.id := by omega
      clear hjk hTv hcv
      go_wp2_with fail
      go_quiet (fail)
      go_wp2_with fail
      go_quiet (fail)
      have h12 : ¬ ((c.chs[j].vs.length : Nat) : Int) = 12 := by have := H12.out; omega
      have h12' : (((c.chs[j].vs.length : Nat) : Int) == 12) = false := beq_eq_false_iff_ne.mpr h12
      have n0 := M3.c0
      have n2 := M3.c2
      go_wp2_with fail
      have hSZ := HPT.out
      refine (specOwnC_any c.name (some ⟨g1, 0, none⟩) (some ⟨g2, 0, none⟩) c.chs.length cq c.chs c.dfs _ (R3.next (below_drewN (Below.refl _ _) _)).rd.ch (R3.next (below_drewN (Below.refl _ _) _)).df (by omega) (fun p hp => ⟨by have := (hSZ p hp).2.2.1; omega, (hSZ p hp).2.1⟩) (by have := HDF.out.1; omega) (fun p hp => ⟨by have := (HDF.out.2 p hp).2; omega, (HDF.out.2 p hp).1⟩)).mono ?_
      rintro e w5 ⟨⟨v9, u9, mid, rfl, hm1, hm2, hCh, hDf⟩, hb9⟩
      obtain ⟨pc9, cc, rfl⟩ := hCh.slice
      obtain ⟨pd, cd, rfl⟩ := hDf.slice
      have hb9' : Below wr.heap.size wr w5 := (below_drewN (Below.refl wr.heap.size wr) _).trans hb9
      have M5 := M3.next hb9'
      have V5' := V3.step hb9'
      have fz5 : ∀ o, w5.frozen? ⟨w.heap.size, o, none⟩ = false := fun o => (hb9'.frozen (p := ⟨w.heap.size, o, none⟩) (by show w.heap.size < wr.heap.size; omega)).trans (fz3 o)
      obtain ⟨lo, hlo⟩ : ∃ lo, lo = wr.heap.size := ⟨_, rfl⟩
      have hm1' : lo ≤ mid := by rw [hlo]; exact hm1
      have hCh' : OwnChH w5 lo mid (.slice pc9 c.chs.length cc) c.chs := by rw [hlo]; exact hCh
      have hbvl : bv < lo := by have := V3.lt; omega
      have hwl : w.heap.size + 2 < lo := by omega
      obtain ⟨q0, q1, q2, ⟨_⟩, ⟨y0', my0'⟩, ⟨y1', my1'⟩, ⟨y2', my2'⟩, _⟩ : w5.cell? ⟨w.heap.size, 0, none⟩ = some (.string c.name) ∧ w5.cell? ⟨w.heap.size, 1, none⟩ = some (.slice (some ⟨g1, 0, none⟩) c.chs.length c.chs.length) ∧ w5.cell? ⟨w.heap.size, 2, none⟩ = some (.slice (some ⟨g2, 0, none⟩) c.dfs.length cq) ∧ True ∧ (∃ y, w5.cell? ⟨w.heap.size + 2, 0, none⟩ = some y) ∧ (∃ y, w5.cell? ⟨w.heap.size + 2, 1, none⟩ = some y) ∧ (∃ y, w5.cell? ⟨w.heap.size + 2, 2, none⟩ = some y) ∧ True := ⟨M5.c0, M5.c1, M5.c2, trivial, M5.r0, M5.r1, M5.r2, trivial⟩
      have M6 := M5.put (.string c.name) (.slice pc9 c.chs.length cc) (.slice pd c.dfs.length cd)
      have B56 : Below lo w5 (((w5.setCell ⟨w.heap.size, 0, none⟩ (.string c.name)).setCell ⟨w.heap.size, 1, none⟩ (.slice pc9 c.chs.length cc)).setCell ⟨w.heap.size, 2, none⟩ (.slice pd c.dfs.length cd)) → True := fun _ => trivial
      have C6 : OwnChH (((w5.setCell ⟨w.heap.size, 0, none⟩ (.string c.name)).setCell ⟨w.heap.size, 1, none⟩ (.slice pc9 c.chs.length cc)).setCell ⟨w.heap.size, 2, none⟩ (.slice pd c.dfs.length cd)) lo mid (.slice pc9 c.chs.length cc) c.chs := chH_at (chH_at (chH_at hCh' _ _ _ (by omega)) _ _ _ (by omega)) _ _ _ (by omega)
      have D6 : OwnDfH (((w5.setCell ⟨w.heap.size, 0, none⟩ (.string c.name)).setCell ⟨w.heap.size, 1, none⟩ (.slice pc9 c.chs.length cc)).setCell ⟨w.heap.size, 2, none⟩ (.slice pd c.dfs.length cd)) mid w5.heap.size (.slice pd c.dfs.length cd) c.dfs := dfH_at (dfH_at (dfH_at hDf _ _ _ (by omega)) _ _ _ (by omega)) _ _ _ (by omega)
      have V6 : V5 (((w5.setCell ⟨w.heap.size, 0, none⟩ (.string c.name)).setCell ⟨w.heap.size, 1, none⟩ (.slice pc9 c.chs.length cc)).setCell ⟨w.heap.size, 2, none⟩ (.slice pd c.dfs.length cd)) bv (verW t x) := ⟨by simpa [World.setCell] using V5'.lt, by rw [set_other (by omega), set_other (by omega), set_other (by omega)]; exact V5'.cb⟩
      have hsz6 : (((w5.setCell ⟨w.heap.size, 0, none⟩ (.string c.name)).setCell ⟨w.heap.size, 1, none⟩ (.slice pc9 c.chs.length cc)).setCell ⟨w.heap.size, 2, none⟩ (.slice pd c.dfs.length cd)).heap.size = w5.heap.size := by simp [World.setCell]
      obtain ⟨vs, xs, hP, hVb, hinB⟩ := C6
      obtain ⟨gc, cc', hgv, hgl2, hgl3, _, _⟩ := rowForm hP.row (by omega)
      injection hgv with e1' e2' e3'
      subst e1'
      obtain rfl : cc = cc' := e3'
      have HP : Hid (PartCh _ _ _ _ _ _ _ _) := hP
      have HD : Hid (OwnDfH _ _ _ _ _) := D6
      have HM6 : Hid (MkI _ _ _ _ _ _) := M6
      have hm2' : mid ≤ w5.heap.size := hm2
      have hgm : gc < mid := hVb gc rfl
      clear hsz6
      have hfz0 := fz5 0
      have hfz1 := fz5 1
      have hfz2 := fz5 2
      have hl5 := M5.lt
      clear hCh hDf hCh' hP D6 M6 hb9 hb9' R3 V3 M3 V5' n0 n1 n2 a1 x0 y0 x1 e1 e2 e3 e4 fz3 fz5 hm1 hm2 B56 hSZ M5 hgl hl3
      go_wp2_with fail
      generalize ((w5.setCell ⟨w.heap.size, 0, none⟩ (.string c.name)).setCell ⟨w.heap.size, 1, none⟩ (.slice (some ⟨gc, 0, none⟩) c.chs.length cc)).setCell ⟨w.heap.size, 2, none⟩ (.slice pd c.dfs.length cd) = WX at *
      clear hfz0 hfz1 hfz2 q0 q1 q2 my0' my1' my2'
      have hw6 := HM6.out.lt
      have hgw : gc < WX.heap.size := (HP.out.row.lt gc rfl).2
      have hloX : lo ≤ WX.heap.size := by omega
      have hent := HP.out.ents j hk hk
      obtain ⟨pu, cu, hpu, hcu, hinu⟩ := OwnVr.room hent
      have hat := HP.out.at_ j hk hk
      have HU : Hid (WX.ownsRow lo 69 5 (.slice pu c.chs[j].vs.length cu) c.chs[j].vs.length (flatVr c.chs[j].vs)) := by rw [← hpu]; exact hent
      have m1 : WX.cell? ⟨gc, j * 2 + 1, none⟩ = some (.slice pu c.chs[j].vs.length cu) := by rw [← hpu]; exact owns_cell HP.out.row _ _ hat.2
      have mf : WX.frozen? ⟨gc, j * 2 + 1, none⟩ = false := World.ownsRow.frozenAt HP.out.row _
      have r1 := HM6.out.c1
      have hgu : (Value.slice pu c.chs[j].vs.length cu).ownBlock = none ∨ (Value.slice pu c.chs[j].vs.length cu).ownBlock ≠ some gc := by rw [← hpu]; exact HP.out.aside j hk hk
      obtain ⟨p0, p1, p2, p3, p4⟩ := five V6.cb
      have hvl := V6.lt
      have hul : ∀ b, (Value.slice pu c.chs[j].vs.length cu).ownBlock = some b → lo ≤ b := fun b e => (World.ownsRow.lt HU.out b e).1
      have HKB : Hid (∀ w', Below WX.heap.size WX w' → (w'.cell? ⟨w.heap.size, 1, none⟩ = some (.slice (some ⟨gc, 0, none⟩) c.chs.length cc) ∧ w'.cell? ⟨gc, j * 2 + 1, none⟩ = some (.slice pu c.chs[j].vs.length cu) ∧ w'.cell? ⟨bv, 0, none⟩ = some (.int .i64 t) ∧ w'.cell? ⟨bv, 1, none⟩ = some (.bool x.gone) ∧ w'.cell? ⟨bv, 2, none⟩ = some (.int .i64 x.doc.k) ∧ w'.cell? ⟨bv, 3, none⟩ = some (.int .i64 x.doc.n) ∧ w'.cell? ⟨bv, 4, none⟩ = some (.string x.doc.t))) := fun w' b => ⟨(b.cell (p := ⟨w.heap.size, 1, none⟩) (by show w.heap.size < WX.heap.size; omega)).trans r1, (b.cell (p := ⟨gc, j * 2 + 1, none⟩) hgw).trans m1, (b.cell (p := ⟨bv, 0, none⟩) hvl).trans p0, (b.cell (p := ⟨bv, 1, none⟩) hvl).trans p1, (b.cell (p := ⟨bv, 2, none⟩) hvl).trans p2, (b.cell (p := ⟨bv, 3, none⟩) hvl).trans p3, (b.cell (p := ⟨bv, 4, none⟩) hvl).trans p4⟩
      have hlow : ∀ (w' : World), WX.grownBy w' (Value.slice pu c.chs[j].vs.length cu).ownBlock → ∀ b o, b < lo → w'.cell? ⟨b, o, none⟩ = WX.cell? ⟨b, o, none⟩ := fun w' hg b o hb => World.cell?_of_block (a := ⟨b, o, none⟩) (hg.block b (by omega) (fun e => by have := hul b e.symm; omega))
      have hgcb : ∀ (w' : World), WX.grownBy w' (Value.slice pu c.chs[j].vs.length cu).ownBlock → w'.heap[gc]? = WX.heap[gc]? := fun w' hg => hg.block gc hgw (ne_of_or hgu)
      have HKP : Hid (∀ w', WX.grownBy w' (Value.slice pu c.chs[j].vs.length cu).ownBlock → (w'.cell? ⟨w.heap.size, 1, none⟩ = some (.slice (some ⟨gc, 0, none⟩) c.chs.length cc) ∧ w'.cell? ⟨gc, j * 2 + 1, none⟩ = some (.slice pu c.chs[j].vs.length cu) ∧ w'.cell? ⟨bv, 0, none⟩ = some (.int .i64 t) ∧ w'.cell? ⟨bv, 1, none⟩ = some (.bool x.gone) ∧ w'.cell? ⟨bv, 2, none⟩ = some (.int .i64 x.doc.k) ∧ w'.cell? ⟨bv, 3, none⟩ = some (.int .i64 x.doc.n) ∧ w'.cell? ⟨bv, 4, none⟩ = some (.string x.doc.t))) := fun w' hg => ⟨(hlow w' hg _ _ (by omega)).trans r1, (World.cell?_of_block (a := ⟨gc, j * 2 + 1, none⟩) (hgcb w' hg)).trans m1, (hlow w' hg _ _ hbvl).trans p0, (hlow w' hg _ _ hbvl).trans p1, (hlow w' hg _ _ hbvl).trans p2, (hlow w' hg _ _ hbvl).trans p3, (hlow w' hg _ _ hbvl).trans p4⟩
      have HFZ : Hid (∀ w', WX.grownBy w' (Value.slice pu c.chs[j].vs.length cu).ownBlock → w'.frozen? ⟨gc, j * 2 + 1, none⟩ = false) := fun w' hg => (frozen_of_block (hgcb w' hg)).trans mf
      have hvs12 : c.chs[j].vs.length ≤ 12 := (HPT.out c.chs[j] (List.getElem_mem _)).2.2.1
      clear hlow hgcb hent hat hinu
      go_cut [] (fun wx => ∃ w7 u', WX.grownBy w7 (Value.slice pu c.chs[j].vs.length cu).ownBlock ∧ OwnVr w7 lo u' (c.chs[j].vs ++ [verW t x]) ∧ (u'.ownBlock = (Value.slice pu c.chs[j].vs.length cu).ownBlock ∨ ∃ b, WX.heap.size ≤ b ∧ u'.ownBlock = some b) ∧ wx = w7.setCell ⟨gc, j * 2 + 1, none⟩ u')
      case first =>
        have kp : ∀ w', Below WX.heap.size WX w' → (w'.cell? ⟨w.heap.size, 1, none⟩ = some (.slice (some ⟨gc, 0, none⟩) c.chs.length cc) ∧ w'.cell? ⟨gc, j * 2 + 1, none⟩ = some (.slice pu c.chs[j].vs.length cu) ∧ w'.cell? ⟨bv, 0, none⟩ = some (.int .i64 t) ∧ w'.cell? ⟨bv, 1, none⟩ = some (.bool x.gone) ∧ w'.cell? ⟨bv, 2, none⟩ = some (.int .i64 x.doc.k) ∧ w'.cell? ⟨bv, 3, none⟩ = some (.int .i64 x.doc.n) ∧ w'.cell? ⟨bv, 4, none⟩ = some (.string x.doc.t)) := HKB.out
        refine wp_region_last2 (S := fun w0 => w0.cell? ⟨w.heap.size, 1, none⟩ = some (.slice (some ⟨gc, 0, none⟩) c.chs.length cc) ∧ w0.cell? ⟨gc, j * 2 + 1, none⟩ = some (.slice pu c.chs[j].vs.length cu) ∧ w0.cell? ⟨bv, 0, none⟩ = some (.int .i64 t) ∧ w0.cell? ⟨bv, 1, none⟩ = some (.bool x.gone) ∧ w0.cell? ⟨bv, 2, none⟩ = some (.int .i64 x.doc.k) ∧ w0.cell? ⟨bv, 3, none⟩ = some (.int .i64 x.doc.n) ∧ w0.cell? ⟨bv, 4, none⟩ = some (.string x.doc.t)) 14 (by kernel_rfl) rfl (by kernel_rfl) (kp _ (Below.refl _ _).drew) (fun hHeld => ?_)
        simp only [List.take_succ_cons, List.take_zero]
        refine take_at (i := 0) (v := ?_) .zero (by kernel_rfl) (by kernel_rfl) (by kernel_rfl) (fun _ _ _ h => h) (Or.inl ⟨by rfl, ?_⟩) (by assumption) ?_
        rotate_left
        focus (intro w' hSw; (try dsimp only at hSw); go_simp; try (with_reducible rfl))
        try simp only [Act.put, List.setIfInBounds_toArray, List.set_cons_zero, List.set_cons_succ]
        refine take_at (i := 1) (v := ?_) (.succ (.zero)) (by kernel_rfl) (by kernel_rfl) (by kernel_rfl) (fun _ _ _ h => h) (Or.inl ⟨by rfl, ?_⟩) (by assumption) ?_
        rotate_left
        focus (intro w' hSw; (try dsimp only at hSw); go_simp; try (with_reducible rfl))
        try simp only [Act.put, List.setIfInBounds_toArray, List.set_cons_zero, List.set_cons_succ]
        refine take_at (i := 2) (v := ?_) (.succ (.succ (.zero))) (by kernel_rfl) (by kernel_rfl) (by kernel_rfl) (fun _ _ _ h => h) (Or.inl ⟨by rfl, ?_⟩) (by assumption) ?_
        rotate_left
        focus (intro w' hSw; (try dsimp only at hSw); go_simp; try (with_reducible rfl))
        try simp only [Act.put, List.setIfInBounds_toArray, List.set_cons_zero, List.set_cons_succ]
        refine take_at (i := 3) (v := ?_) (.succ (.succ (.succ (.zero)))) (by kernel_rfl) (by kernel_rfl) (by kernel_rfl) (fun _ _ _ h => h) (Or.inl ⟨by rfl, ?_⟩) (by assumption) ?_
        rotate_left
        focus (intro w' hSw; (try dsimp only at hSw); go_simp; try (with_reducible rfl))
        try simp only [Act.put, List.setIfInBounds_toArray, List.set_cons_zero, List.set_cons_succ]
        refine take_at (i := 4) (v := ?_) (.succ (.succ (.succ (.succ (.zero))))) (by kernel_rfl) (by kernel_rfl) (by kernel_rfl) (fun _ _ _ h => h) (Or.inl ⟨by rfl, ?_⟩) (by assumption) ?_
        rotate_left
        focus (intro w' hSw; (try dsimp only at hSw); go_simp; try (with_reducible rfl))
        try simp only [Act.put, List.setIfInBounds_toArray, List.set_cons_zero, List.set_cons_succ]
        refine take_at (i := 5) (v := ?_) (.succ (.succ (.succ (.succ (.succ (.zero)))))) (by kernel_rfl) (by kernel_rfl) (by kernel_rfl) (fun _ _ _ h => h) (Or.inl ⟨by rfl, ?_⟩) (by assumption) ?_
        rotate_left
        focus (intro w' hSw; (try dsimp only at hSw); go_simp; try (with_reducible rfl))
        try simp only [Act.put, List.setIfInBounds_toArray, List.set_cons_zero, List.set_cons_succ]
        refine take_at (i := 6) (v := ?_) (.succ (.succ (.succ (.succ (.succ (.succ (.zero))))))) (by kernel_rfl) (by kernel_rfl) (by kernel_rfl) (fun _ _ _ h => h) (Or.inl ⟨by rfl, ?_⟩) (by assumption) ?_
        rotate_left
        focus (intro w' hSw; (try dsimp only at hSw); go_simp; try (with_reducible rfl))
        try simp only [Act.put, List.setIfInBounds_toArray, List.set_cons_zero, List.set_cons_succ]
        refine take_at (i := 7) (v := ?_) (.succ (.succ (.succ (.succ (.succ (.succ (.succ (.zero)))))))) (by kernel_rfl) (by kernel_rfl) (by kernel_rfl) (fun _ _ _ h => h) (Or.inl ⟨by rfl, ?_⟩) (by assumption) ?_
        rotate_left
        focus (intro w' hSw; (try dsimp only at hSw); go_simp; try (with_reducible rfl))
        try simp only [Act.put, List.setIfInBounds_toArray, List.set_cons_zero, List.set_cons_succ]
        refine take_at (i := 8) (v := ?_) (.succ (.succ (.succ (.succ (.succ (.succ (.succ (.succ (.zero))))))))) (by kernel_rfl) (by kernel_rfl) (by kernel_rfl) (fun _ _ _ h => h) (Or.inl ⟨by rfl, ?_⟩) (by assumption) ?_
        rotate_left
        focus (intro w' hSw; (try dsimp only at hSw); go_simp; try (with_reducible rfl))
        try simp only [Act.put, List.setIfInBounds_toArray, List.set_cons_zero, List.set_cons_succ]
        refine take_at (i := 9) (v := ?_) (.succ (.succ (.succ (.succ (.succ (.succ (.succ (.succ (.succ (.zero)))))))))) (by kernel_rfl) (by kernel_rfl) (by kernel_rfl) (fun _ _ _ h => h) (Or.inl ⟨by rfl, ?_⟩) (by assumption) ?_
        rotate_left
        focus (intro w' hSw; (try dsimp only at hSw); go_simp; try (with_reducible rfl))
        try simp only [Act.put, List.setIfInBounds_toArray, List.set_cons_zero, List.set_cons_succ]
        refine wpAnyH_ready (rs := [10]) (by kernel_rfl) (by simp) ?_
        refine (cons_at (i := 10) (.succ (.succ (.succ (.succ (.succ (.succ (.succ (.succ (.succ (.succ (.zero))))))))))) (fun K hK => ?_) AllReadyH.nil)
        go_simp
        refine hK.out _ _ ?_ ?_
        focus exact kp _ (by (repeat (first | (with_reducible exact Below.refl _ _) | (with_reducible assumption) | (with_reducible apply below_drewN) | (with_reducible apply Below.drew) | ((with_reducible refine Below.alloc ?_ ?_ _); rotate_left; focus (first | (simp; done) | (simp; omega) | omega)))))
        clear hK K hHeld
        intro hHeld
        try simp only [Act.put, List.setIfInBounds_toArray, List.set_cons_zero, List.set_cons_succ]
        refine wpAnyH_ready (rs := [11]) (by kernel_rfl) (by simp) ?_
        refine (cons_at (i := 11) (.succ (.succ (.succ (.succ (.succ (.succ (.succ (.succ (.succ (.succ (.succ (.zero)))))))))))) (fun K hK => ?_) AllReadyH.nil)
        (refine step_appVr rfl (.tmp 78) (.tmp 80) rfl lo c.chs[j].vs.length (.slice pu c.chs[j].vs.length cu) (flatVr c.chs[j].vs) rfl (by first | exact HU.out.alloc _ | exact (owns_drew HU.out).alloc _) _ 1 1 (rowVr (verW t x)) rfl rfl (five_new _ (verW t x) _) (five_one _) (by omega) (by omega) (by simp; omega) ?_; intro v'' w7 o7 g7 at7; obtain ⟨gv, cw, hvv, hgv, _, _, _⟩ := rowForm o7 (by omega); subst hvv; have HG7 : Hid (WX.grownBy w7 (Value.slice pu c.chs[j].vs.length cu).ownBlock) := grown_trans (grown_below (show Below WX.heap.size WX _ by (repeat (first | (with_reducible exact Below.refl _ _) | (with_reducible assumption) | (with_reducible apply below_drewN) | (with_reducible apply Below.drew) | ((with_reducible refine Below.setCell ?_ ?_ _); rotate_left; focus (first | (simp; done) | (simp; omega) | omega)) | ((with_reducible refine Below.alloc ?_ ?_ _); rotate_left; focus (first | (simp; done) | (simp; omega) | omega)))))) g7; have hkp7 := HKP.out w7 HG7.out; have hz7 := HG7.out.size; have HO7 : Hid (OwnVr w7 lo (.slice (some ⟨gv, 0, none⟩) (c.chs[j].vs.length + 1) cw) (c.chs[j].vs ++ [verW t x])) := (by show w7.ownsRow lo 69 5 _ (c.chs[j].vs ++ [verW t x]).length (flatVr (c.chs[j].vs ++ [verW t x])); rw [flatVr_snoc, List.length_append]; exact o7); have HA7 : Hid ((Value.slice (some ⟨gv, 0, none⟩) (c.chs[j].vs.length + 1) cw).ownBlock = (Value.slice pu c.chs[j].vs.length cu).ownBlock ∨ ∃ b, WX.heap.size ≤ b ∧ (Value.slice (some ⟨gv, 0, none⟩) (c.chs[j].vs.length + 1) cw).ownBlock = some b) := (by rcases at7 with h | h; exact .inl h; exact .inr ⟨_, by simp, h⟩); have m2 : w7.frozen? ⟨gc, j * 2 + 1, none⟩ = false := HFZ.out w7 HG7.out; clear o7 g7 at7)
        refine hK.out _ _ ?_ ?_
        focus exact hkp7
        clear hK K hHeld
        intro hHeld
        try simp only [Act.put, List.setIfInBounds_toArray, List.set_cons_zero, List.set_cons_succ]
        refine take_at (i := 12) (v := ?_) (.succ (.succ (.succ (.succ (.succ (.succ (.succ (.succ (.succ (.succ (.succ (.succ (.zero))))))))))))) (by kernel_rfl) (by kernel_rfl) (by kernel_rfl) (fun _ _ _ h => h) (Or.inl ⟨by rfl, ?_⟩) (by assumption) ?_
        rotate_left
        focus (intro w' hSw; (try dsimp only at hSw); go_simp; try (with_reducible rfl))
        try simp only [Act.put, List.setIfInBounds_toArray, List.set_cons_zero, List.set_cons_succ]
        refine take_at (i := 13) (v := ?_) (.succ (.succ (.succ (.succ (.succ (.succ (.succ (.succ (.succ (.succ (.succ (.succ (.succ (.zero)))))))))))))) (by kernel_rfl) (by kernel_rfl) (by kernel_rfl) (fun _ _ _ h => h) (Or.inl ⟨by rfl, ?_⟩) (by assumption) ?_
        rotate_left
        focus (intro w' hSw; (try dsimp only at hSw); go_simp; try (with_reducible rfl))
        try simp only [Act.put, List.setIfInBounds_toArray, List.set_cons_zero, List.set_cons_succ]
        refine wpAnyH_done (by kernel_rfl) ?_ _
        refine last_at (.succ (.succ (.succ (.succ (.succ (.succ (.succ (.succ (.succ (.succ (.succ (.succ (.succ (.succ (.zero))))))))))))))) (fun K hK => ?_)
        go_simp
        refine hK.out _ _ ?_
        try go_wp2_with fail
        go_meet
        exact ⟨w7, _, HG7.out, HO7.out, HA7.out, rfl⟩
      case rest =>
      obtain ⟨w7, u', hg7, ho7, hat7, rfl⟩ := hcut
      rw [← hpu] at hg7 hat7
      have P8 := HP.out.addAt rfl hk hg7 ho7 hat7
      have B8 : Below lo WX (w7.setCell ⟨gc, j * 2 + 1, none⟩ u') := (Below.grown (Below.refl lo WX) hg7 (by omega) (fun b e => by rw [hpu] at e; exact hul b e)).setCell hgl2 _
      have hinV := (World.ownsRow.lt (HP.out.ents j hk hk))
      have M8 := HM6.out.step B8 (by omega)
      obtain ⟨mb, ml, mc0, mc1, mc2, mwr, ⟨r0, mr0⟩, ⟨r1', mr1⟩, ⟨r2, mr2⟩, my0⟩ := M8
      have hP9 := ((P8.ofSet (o := 0) (x := .string c.name) (show w.heap.size + 2 < lo by omega)).ofSet (o := 1) (x := .slice (some ⟨gc, 0, none⟩) c.chs.length cc) (show w.heap.size + 2 < lo by omega)).ofSet (o := 2) (x := .slice pd c.dfs.length cd) (show w.heap.size + 2 < lo by omega)
      have hin9 : ∀ b, (vs j).ownBlock = some b → b < mid := hinB j hk
      have D8 : OwnDfH (w7.setCell ⟨gc, j * 2 + 1, none⟩ u') mid w5.heap.size (.slice pd c.dfs.length cd) c.dfs := (HD.out.far hg7 (fun b e => .inl (hin9 b e))).far grown_set (fun b e => by injection e with e; omega)
      have D9 := dfH_at (dfH_at (dfH_at D8 0 (w.heap.size + 2) (.string c.name) (by omega)) 1 (w.heap.size + 2) (.slice (some ⟨gc, 0, none⟩) c.chs.length cc) (by omega)) 2 (w.heap.size + 2) (.slice pd c.dfs.length cd) (by omega)
      have HR9 : Hid (RowCh _ (some ⟨gc, 0, none⟩) (c.chs.set j ⟨c.chs[j].id, c.chs[j].vs ++ [verW t x]⟩)) := OwnCh.rowCh (n := c.chs.length) ⟨_, _, by rw [List.length_set]; exact hP9⟩
      have HD9 : Hid (RowDf _ pd c.dfs) := D9.row
      clear hP9 D8 D9 P8 hg7 ho7 hat7 HP HD HM6 B8
      generalize w7.setCell ⟨gc, j * 2 + 1, none⟩ u' = W8 at *
      go_wp2_with fail
      refine bodyPost_ret (v := .tuple #[.agg #[.string c.name, .slice (some ⟨gc, 0, none⟩) c.chs.length cc, .slice pd c.dfs.length cd], .int .i64 0]) (by simp [results, Tryz.results22, go_sem, *]) rfl ?_
      rw [HRS.out]
      refine ⟨by (repeat (first | (with_reducible exact Below.refl _ _) | (with_reducible assumption) | (with_reducible apply below_drewN) | (with_reducible apply Below.drew) | ((with_reducible refine Below.setCell ?_ ?_ _); rotate_left; focus (first | (simp; done) | (simp; omega) | omega)) | ((with_reducible refine Below.alloc ?_ ?_ _); rotate_left; focus (first | (simp; done) | (simp; omega) | omega)))), some ⟨gc, 0, none⟩, pd, cc, cd, by rw [List.length_set], HR9.out, HD9.out⟩

end Go.Proofs.YtncpijfbbgipaaaGreatDoor.Co

/- The specification's inner Install: a new chain. -/
namespace Go.Proofs.YtncpijfbbgipaaaGreatDoor.Co
open Go.RowKit Tr
set_option linter.unusedVariables false

theorem own_low {w : World} {base b o : Nat} {T : TypeId} {s m : Nat} {u x : Value} {ys : List Value} (ho : w.ownsRow base T s u m ys) (hb : b < base) : (w.setCell ⟨b, o, none⟩ x).ownsRow base T s u m ys :=
  ho.kept grown_set (by
    cases hu : u.ownBlock with
    | none => exact .inl rfl
    | some g => exact .inr (fun e => by injection e with e; have := (ho.lt g hu).1; omega))
theorem insF_len2 (l : List Chn) (y : Chn) (k : Nat) (hk : k ≤ l.length) : (l.take k ++ y :: l.drop k).length = l.length + 1 := by rw [List.length_append, List.length_take, List.length_cons, List.length_drop]; omega
theorem V5.inVr {W : World} {b : Nat} {v : Ver} (h : V5 W b v) : InVr W (some ⟨b, 0, none⟩) [v] := by
  refine .inr ⟨b, 0, rfl, h.lt, fun i hi => ?_⟩
  obtain ⟨h0, h1, h2, h3, h4⟩ := five h.cb
  have : i = 0 := by simp at hi; omega
  subst this
  simp only [Nat.zero_mul, Nat.zero_add, List.getElem_cons_zero]
  exact ⟨h0, h1, h2, h3, h4⟩

set_option maxRecDepth 8000 in
set_option maxHeartbeats 8000000 in
theorem l08Install_new (c : Col) (t : Int) (x : Wrt) (k g1 g2 cq : Nat) (w : World) (hr : RdC w g1 g2 c) (hs : SzCol c) (hB : collB c = true) (hT : timeB t = true) (hp : PlaceC c.chs x.id k false) :
    Calls Tryz.prog 22 #[.agg #[.string c.name, .slice (some ⟨g1, 0, none⟩) c.chs.length c.chs.length, .slice (some ⟨g2, 0, none⟩) c.dfs.length cq], .int .i64 t, .agg #[.string x.coll, .int .i64 x.id, .bool x.gone, .int .i64 x.doc.k, .int .i64 x.doc.n, .string x.doc.t]] w fun e w' => InsA (insK c t x k false) w e w' := by
  have M0 := MkI.start w (.string c.name) (.slice (some ⟨g1, 0, none⟩) c.chs.length c.chs.length) (.slice (some ⟨g2, 0, none⟩) c.dfs.length cq) (.string em) (.slice none 0 0) (.slice none 0 0) x 35 41 35
  have hpt := collB_parts hB
  have hdf := collB_defs hB
  have HDF : Hid (_ ∧ _) := hdf
  have h20 := hpt.2.2.2.1
  have HPT : Hid (∀ x ∈ c.chs, topB x.id = true ∧ 1 ≤ x.vs.length ∧ x.vs.length ≤ 12 ∧ versB x.id 0 x.vs = true) := hpt.2.2.2.2.2
  have hrise : RiseC c.chs := riseC_of _ _ (by unfold collB at hB; simp only [Bool.and_eq_true] at hB; exact hB.2.2)
  have ht1 : 1 ≤ t ∧ t ≤ 10000 := of_decide_eq_true hT
  have HL : Hid (∀ W : World, RdC W g1 g2 c → Calls _ _ _ W _) := fun W hW => l08Last_any c.name (.slice (some ⟨g2, 0, none⟩) c.dfs.length cq) c.chs x.id g1 c.chs.length W hW.ch hs.chl hs.vs
  have HR : Hid (RdC _ _ _ _) := hr
  have HPL : Hid (PlaceC _ _ _ _) := hp
  obtain ⟨L, hL⟩ : ∃ L, L = lastS c.chs x.id := ⟨_, rfl⟩
  rw [← hL] at HL
  have d0 := M0.c0
  have d1 := M0.c1
  have d2 := M0.c2
  have hfld : ∀ W : World, (Instr.field 69 (.agg #[.int .i64 L.tm, .bool L.gone, .int .i64 L.doc.k, .int .i64 L.doc.n, .string L.doc.t]) 0).run Tryz.prog W = .ok (.int .i64 L.tm) W := fun _ => by kernel_rfl
  have hnt := lastS_none hrise HPL.out
  rw [← hL] at hnt
  have hlt : ¬ t ≤ L.tm := by rw [hnt]; omega
  have HRS : Hid (insK c t x k false = (⟨c.name, c.chs.take k ++ ⟨x.id, [verW t x]⟩ :: c.chs.drop k, c.dfs⟩, 0)) := insK_new c t x k
  have HRI : Hid (RiseC c.chs) := hrise
  obtain ⟨xs, hraw⟩ := rawC_of hr.ch
  have HRW0 : Hid (RawC w g1 c.chs xs) := hraw
  clear hL hnt hrise hraw
  clear hr hp hB hpt hdf hs hT
  go_enter Tryz.func22, Tryz.ntmps22
  go_wp2_with fail
  have fz : ∀ o, (((w.alloc (.cells #[.string c.name, .slice (some ⟨g1, 0, none⟩) c.chs.length c.chs.length, .slice (some ⟨g2, 0, none⟩) c.dfs.length cq] 35)).alloc (.cells #[.string x.coll, .int .i64 x.id, .bool x.gone, .int .i64 x.doc.k, .int .i64 x.doc.n, .string x.doc.t] 41)).alloc (.cells #[.string em, .slice none 0 0, .slice none 0 0] 35)).frozen? ⟨w.heap.size, o, none⟩ = false := fun o => by simp [go_sem]
  generalize ((w.alloc (.cells #[.string c.name, .slice (some ⟨g1, 0, none⟩) c.chs.length c.chs.length, .slice (some ⟨g2, 0, none⟩) c.dfs.length cq] 35)).alloc (.cells #[.string x.coll, .int .i64 x.id, .bool x.gone, .int .i64 x.doc.k, .int .i64 x.doc.n, .string x.doc.t] 41)).alloc (.cells #[.string em, .slice none 0 0, .slice none 0 0] 35) = W0 at M0 d0 d1 d2 fz ⊢
  refine (HL.out _ (HR.out.next M0.bel)).mono ?_
  rintro e w1 ⟨rfl, hb⟩
  have M1 := M0.next hb
  have n0 := M1.c0
  have n1 := M1.c1
  have n2 := M1.c2
  have a1 := M1.wr.c1
  have a2 := M1.wr.c2
  have a3 := M1.wr.c3
  have a4 := M1.wr.c4
  have a5 := M1.wr.c5
  have hl1 := M1.lt
  have fz1 : ∀ o, w1.frozen? ⟨w.heap.size, o, none⟩ = false := fun o => (hb.frozen (p := ⟨w.heap.size, o, none⟩) (by have := M0.lt; show w.heap.size < W0.heap.size; omega)).trans (fz o)
  clear fz
  have hbA : Below w1.heap.size w1 (w1.alloc (.cells #[.int .i64 t, .bool x.gone, .int .i64 x.doc.k, .int .i64 x.doc.n, .string x.doc.t] 69)) := (Below.refl _ _).alloc (Nat.le_refl _) _
  have M2 := M1.next hbA
  have fz2 : ∀ o, (w1.alloc (.cells #[.int .i64 t, .bool x.gone, .int .i64 x.doc.k, .int .i64 x.doc.n, .string x.doc.t] 69)).frozen? ⟨w.heap.size, o, none⟩ = false := fun o => (hbA.frozen (p := ⟨w.heap.size, o, none⟩) (by show w.heap.size < w1.heap.size; omega)).trans (fz1 o)
  have V2 := V5.new w1 (verW t x)
  have hltv : ¬ t ≤ L.tm := by omega
  clear hb M0 d0 d1 d2 HL M1
  go_wp2_with fail
  generalize w1.alloc (.cells #[.int .i64 t, .bool x.gone, .int .i64 x.doc.k, .int .i64 x.doc.n, .string x.doc.t] 69) = WV at M2 V2 hbA fz2 ⊢
  obtain ⟨bv, hbv⟩ : ∃ bv, bv = w1.heap.size := ⟨_, rfl⟩
  rw [← hbv] at V2 ⊢
  have hbv3 : w.heap.size + 3 ≤ bv := by omega
  clear n0 n1 n2 a1 a2 a3 a4 a5 hbv hbA
  go_loopw [9] (fun i wr => ∃ j : Nat, j ≤ k ∧ i = .int .i64 j ∧ Below WV.heap.size WV wr) (fun i _ => k - (intOf i).toNat)
  case atStart => exact ⟨0, Nat.zero_le _, rfl, Below.refl _ _⟩
  case round =>
    obtain ⟨j, hj, rfl, hbr⟩ := hrel
    have M3 := M2.next hbr
    have fz3 : ∀ o, wr.frozen? ⟨w.heap.size, o, none⟩ = false := fun o => (hbr.frozen (p := ⟨w.heap.size, o, none⟩) (by have := M2.lt; show w.heap.size < WV.heap.size; omega)).trans (fz2 o)
    have V3 := V2.step hbr
    have R3 := HR.out.next M3.bel
    have n1 := M3.c1
    have a1 := M3.wr.c1
    have hl3 := M3.lt
    have hgl := R3.ch.lt
    by_cases hjk : j < k
    · have hjn : j < c.chs.length := by have := HPL.out.le; omega
      have x0 := (R3.ch.cells j hjn).1
      have hlt3 : c.chs[j].id < x.id := HPL.out.lo j hjn hjk
      have e1 : decide ((j : Int) < (c.chs.length : Int)) = true := decide_eq_true (by omega)
      have e2 : decide (j < c.chs.length) = true := decide_eq_true hjn
      have e3 : decide (c.chs[j].id < x.id) = true := decide_eq_true hlt3
      have hjI : (j : Int) < (c.chs.length : Int) := by omega
      obtain ⟨I, hI⟩ : ∃ I, I = c.chs[j].id := ⟨_, rfl⟩
      rw [← hI] at x0 hlt3 e3
      clear hI R3 V3 M3
      go_wp2_with fail
      go_quiet (fail)
      go_wp2_with fail
      go_roundw
      case rel => exact ⟨j + 1, by omega, by go_num, below_drewN hbr _⟩
      case measure => simp [intOf]; omega
    · obtain rfl : j = k := by omega
      by_cases hkn : j < c.chs.length
      · have hge := HPL.out.hi j hkn (Nat.le_refl _)
        have hne : ¬ c.chs[j].id = x.id := fun e => by have := HPL.out.at_.2 ⟨hkn, e⟩; cases this
        have x0 := (R3.ch.cells j hkn).1
        have e1 : decide ((j : Int) < (c.chs.length : Int)) = true := decide_eq_true (by omega)
        have e2 : decide (j < c.chs.length) = true := decide_eq_true hkn
        have hjI : (j : Int) < (c.chs.length : Int) := by omega
        obtain ⟨I, hI⟩ : ∃ I, I = c.chs[j].id := ⟨_, rfl⟩
        rw [← hI] at x0 hge hne
        have e3 : decide (I < x.id) = false := decide_eq_false (by omega)
        have e4 : ¬ I < x.id := by omega
        have e5 : (I == x.id) = false := beq_eq_false_iff_ne.mpr hne
        have e6 : decide (I = x.id) = false := decide_eq_false hne
        have Mwr := M3
        have Vwr := V3
        have Rwr := R3
        have fzwr := fz3
        clear hjk M3 V3 R3 fz3
        go_wp2_with fail
        go_quiet (fail)
        obtain ⟨WD, hWWD⟩ : ∃ W9, W9 = wr.drewN nq := ⟨_, rfl⟩
        have hbWD : Below wr.heap.size wr WD := by rw [hWWD]; exact below_drewN (Below.refl _ _) _
        rw [← hWWD]
        have MWD := Mwr.next hbWD
        have VWD := Vwr.step hbWD
        have RWD := Rwr.next hbWD
        have fzWD : ∀ o, WD.frozen? ⟨w.heap.size, o, none⟩ = false := fun o => (hbWD.frozen (p := ⟨w.heap.size, o, none⟩) (by have := Mwr.lt; show w.heap.size < wr.heap.size; omega)).trans (fzwr o)
        have n1WD := MWD.c1
        have a1WD := MWD.wr.c1
        have hlWD := MWD.lt
        have hglWD := RWD.ch.lt
        have x0WD := (RWD.ch.cells j hkn).1
        rw [← hI] at x0WD
        clear hWWD hbWD Mwr Vwr Rwr fzwr
        go_wp2_with fail
        go_quiet (fail)
        obtain ⟨WE, hWWE⟩ : ∃ W9, W9 = WD.drewN nq := ⟨_, rfl⟩
        have hbWE : Below WD.heap.size WD WE := by rw [hWWE]; exact below_drewN (Below.refl _ _) _
        rw [← hWWE]
        have MWE := MWD.next hbWE
        have VWE := VWD.step hbWE
        have RWE := RWD.next hbWE
        have fzWE : ∀ o, WE.frozen? ⟨w.heap.size, o, none⟩ = false := fun o => (hbWE.frozen (p := ⟨w.heap.size, o, none⟩) (by have := MWD.lt; show w.heap.size < WD.heap.size; omega)).trans (fzWD o)
        have n1WE := MWE.c1
        have a1WE := MWE.wr.c1
        have hlWE := MWE.lt
        have hglWE := RWE.ch.lt
        clear hWWE hbWE MWD VWD RWD fzWD
        obtain ⟨p0, p1, p2, p3, p4⟩ := five VWE.cb
        have hvl := VWE.lt
        have hk := HPL.out.le
        have hb1A : Below WE.heap.size WE (WE.alloc (.cells #[.int .i64 t, .bool x.gone, .int .i64 x.doc.k, .int .i64 x.doc.n, .string x.doc.t] 69)) := (Below.refl _ _).alloc (Nat.le_refl _) _
        have hb2A : Below (WE.alloc (.cells #[.int .i64 t, .bool x.gone, .int .i64 x.doc.k, .int .i64 x.doc.n, .string x.doc.t] 69)).heap.size (WE.alloc (.cells #[.int .i64 t, .bool x.gone, .int .i64 x.doc.k, .int .i64 x.doc.n, .string x.doc.t] 69)) ((WE.alloc (.cells #[.int .i64 t, .bool x.gone, .int .i64 x.doc.k, .int .i64 x.doc.n, .string x.doc.t] 69)).alloc (.cells #[.int .i64 x.id, .slice (some ⟨WE.heap.size, 0, none⟩) 1 1] 67)) := (Below.refl _ _).alloc (Nat.le_refl _) _
        have M4 := (MWE.next hb1A).next hb2A
        have G4 : V5 ((WE.alloc (.cells #[.int .i64 t, .bool x.gone, .int .i64 x.doc.k, .int .i64 x.doc.n, .string x.doc.t] 69)).alloc (.cells #[.int .i64 x.id, .slice (some ⟨WE.heap.size, 0, none⟩) 1 1] 67)) WE.heap.size (verW t x) := (V5.new WE (verW t x)).step hb2A
        have q0 : ((WE.alloc (.cells #[.int .i64 t, .bool x.gone, .int .i64 x.doc.k, .int .i64 x.doc.n, .string x.doc.t] 69)).alloc (.cells #[.int .i64 x.id, .slice (some ⟨WE.heap.size, 0, none⟩) 1 1] 67)).cell? ⟨WE.heap.size + 1, 0, none⟩ = some (.int .i64 x.id) := by simp [go_sem]
        have q1 : ((WE.alloc (.cells #[.int .i64 t, .bool x.gone, .int .i64 x.doc.k, .int .i64 x.doc.n, .string x.doc.t] 69)).alloc (.cells #[.int .i64 x.id, .slice (some ⟨WE.heap.size, 0, none⟩) 1 1] 67)).cell? ⟨WE.heap.size + 1, 1, none⟩ = some (.slice (some ⟨WE.heap.size, 0, none⟩) 1 1) := by simp [go_sem]
        have hbx : WE.heap.size + 1 < ((WE.alloc (.cells #[.int .i64 t, .bool x.gone, .int .i64 x.doc.k, .int .i64 x.doc.n, .string x.doc.t] 69)).alloc (.cells #[.int .i64 x.id, .slice (some ⟨WE.heap.size, 0, none⟩) 1 1] 67)).heap.size := by simp
        have rz1 : ((WE.alloc (.cells #[.int .i64 t, .bool x.gone, .int .i64 x.doc.k, .int .i64 x.doc.n, .string x.doc.t] 69)).alloc (.cells #[.int .i64 x.id, .slice (some ⟨WE.heap.size, 0, none⟩) 1 1] 67)).frozen? ⟨w.heap.size, 1, none⟩ = false := ((hb1A.trans (hb2A.mono hb1A.size)).frozen (p := ⟨w.heap.size, 1, none⟩) (by show w.heap.size < WE.heap.size; omega)).trans (fzWE 1)
        clear hb1A hb2A MWE VWE RWE fzWE
        go_wp2_with fail
        generalize (WE.alloc (.cells #[.int .i64 t, .bool x.gone, .int .i64 x.doc.k, .int .i64 x.doc.n, .string x.doc.t] 69)).alloc (.cells #[.int .i64 x.id, .slice (some ⟨WE.heap.size, 0, none⟩) 1 1] 67) = WX at *
        obtain ⟨gv, hgv⟩ : ∃ gv, gv = WE.heap.size := ⟨_, rfl⟩
        obtain ⟨bx, hbxe⟩ : ∃ bx, bx = WE.heap.size + 1 := ⟨_, rfl⟩
        rw [← hbxe] at q0 q1 hbx
        rw [← hgv] at G4 q1
        have hgvw : w.heap.size + 2 < gv := by omega
        have hbxw : w.heap.size + 2 < bx := by omega
        try rw [← hbxe]
        try rw [← hgv]
        have r1 := M4.c1
        have hwX : w.heap.size < WX.heap.size := by have := M4.lt; omega
        have hgvX := G4.lt
        clear hgv hbxe hvl p0 p1 p2 p3 p4
        have HM4 : Hid (MkI _ _ _ _ _ _) := M4
        have HG4 : Hid (V5 _ _ _) := G4
        have HRW : Hid (RawC WX g1 c.chs xs) := HRW0.out.next M4.bel
        have ps1 := cutHeadC g1 0 c.chs.length c.chs.length j hk
        have ps2 := cutTailC g1 0 c.chs.length c.chs.length j hk
        obtain ⟨off5, ho5⟩ : ∃ o, o = if c.chs.length = j then 0 else 0 + j * 2 := ⟨_, rfl⟩
        rw [← ho5] at ps2
        have hadd : ∀ (o i : Nat), (⟨g1, o, none⟩ : Addr).add i = ⟨g1, o + i, none⟩ := fun o i => by unfold Addr.add; split <;> simp_all
        have HSA : Hid (∀ w', Below WX.heap.size WX w' → ∀ i u, (xs.take (j * 2))[i]? = some u → w'.cell? ((⟨g1, 0, none⟩ : Addr).add i) = some u) := fun w' hb i u hi => by
          rw [hadd, Nat.zero_add]
          refine (hb.cell (p := ⟨g1, i, none⟩) HRW.out.lt).trans (HRW.out.cells i u ?_)
          rw [List.getElem?_take] at hi
          split at hi
          · exact hi
          · cases hi
        have HSB : Hid (∀ w', Below WX.heap.size WX w' → ∀ i u, (xs.drop (j * 2))[i]? = some u → w'.cell? ((⟨g1, off5, none⟩ : Addr).add i) = some u) := fun w' hb i u hi => by
          by_cases h : c.chs.length = j
          · rw [List.drop_eq_nil_of_le (by have := HRW.out.len; omega)] at hi; simp at hi
          · rw [ho5, if_neg h, Nat.zero_add, hadd]
            refine (hb.cell (p := ⟨g1, j * 2 + i, none⟩) HRW.out.lt).trans (HRW.out.cells _ u ?_)
            rw [List.getElem?_drop] at hi; exact hi
        have OA := World.ownsRow_made (base := WX.heap.size) (size := 2) (e := 67) WX #[] 0 (Nat.le_refl _) (by unfold maxLen; omega) rfl
        have OB := OA.alloc (.cells #[.int .i64 x.id, .slice (some ⟨gv, 0, none⟩) 1 1] 67)
        have OC := World.ownsRow_made (base := WX.heap.size) (size := 2) (e := 67) (WX.alloc (.cells #[.int .i64 x.id, .slice (some ⟨gv, 0, none⟩) 1 1] 67)) #[] 0 (by simp) (by unfold maxLen; omega) rfl
        simp only [heap_size_alloc] at OC
        have HOA : Hid (World.ownsRow _ _ _ _ _ _ _) := OA
        have HOB : Hid (World.ownsRow _ _ _ _ _ _ _) := OB
        have HOC : Hid (World.ownsRow _ _ _ _ _ _ _) := OC
        have HLB : Hid (Lies2 ((WX.alloc (.cells #[] 67)).alloc (.cells #[.int .i64 x.id, .slice (some ⟨gv, 0, none⟩) 1 1] 67)) (WX.heap.size + 1) ⟨.int .i64 x.id, .slice (some ⟨gv, 0, none⟩) 1 1, rfl, rfl⟩) := (by have h := heap_alloc_new (WX.alloc (.cells #[] 67)) (.cells #[.int .i64 x.id, .slice (some ⟨gv, 0, none⟩) 1 1] 67); rw [heap_size_alloc] at h; exact h)
        have HLC : Hid (Lies2 ((WX.alloc (.cells #[.int .i64 x.id, .slice (some ⟨gv, 0, none⟩) 1 1] 67)).alloc (.cells #[] 67)) WX.heap.size ⟨.int .i64 x.id, .slice (some ⟨gv, 0, none⟩) 1 1, rfl, rfl⟩) := (by show ((WX.alloc (.cells #[.int .i64 x.id, .slice (some ⟨gv, 0, none⟩) 1 1] 67)).alloc (.cells #[] 67)).heap[WX.heap.size]? = _; rw [heap_alloc_old _ _ (by simp)]; exact heap_alloc_new _ _)
        have HNN : Hid (0 + j + 1 + (c.chs.length - j) = c.chs.length + 1) := (by omega : 0 + j + 1 + (c.chs.length - j) = c.chs.length + 1)
        clear ho5 OA OB OC hadd M4 G4
        go_cut [] (fun wx => ∃ w3' g3 c3, w3'.ownsRow WX.heap.size 67 2 (.slice (some ⟨g3, 0, none⟩) (c.chs.length + 1) c3) (c.chs.length + 1) (xs.take (j * 2) ++ [.int .i64 x.id, .slice (some ⟨gv, 0, none⟩) 1 1] ++ xs.drop (j * 2)) ∧ Below WX.heap.size WX w3' ∧ wx = w3'.setCell ⟨w.heap.size, 1, none⟩ (.slice (some ⟨g3, 0, none⟩) (c.chs.length + 1) c3))
        case first =>
          have kp : ∀ w', Below WX.heap.size WX w' → (w'.cell? ⟨w.heap.size, 1, none⟩ = some (.slice (some ⟨g1, 0, none⟩) c.chs.length c.chs.length) ∧ w'.cell? ⟨bx, 0, none⟩ = some (.int .i64 x.id) ∧ w'.cell? ⟨bx, 1, none⟩ = some (.slice (some ⟨gv, 0, none⟩) 1 1)) := fun w' b => ⟨(b.cell (p := ⟨w.heap.size, 1, none⟩) hwX).trans r1, (b.cell (p := ⟨bx, 0, none⟩) hbx).trans q0, (b.cell (p := ⟨bx, 1, none⟩) hbx).trans q1⟩
          refine wp_region_last2 (S := fun w0 => w0.cell? ⟨w.heap.size, 1, none⟩ = some (.slice (some ⟨g1, 0, none⟩) c.chs.length c.chs.length) ∧ w0.cell? ⟨bx, 0, none⟩ = some (.int .i64 x.id) ∧ w0.cell? ⟨bx, 1, none⟩ = some (.slice (some ⟨gv, 0, none⟩) 1 1)) 15 (by kernel_rfl) rfl (by kernel_rfl) (kp _ (Below.refl _ _).drew) (fun hHeld => ?_)
          simp only [List.take_succ_cons, List.take_zero]
          refine take_at (i := 1) (v := ?_) (.succ (.zero)) (by kernel_rfl) (by kernel_rfl) (by kernel_rfl) (fun _ _ _ h => h) (Or.inl ⟨by rfl, ?_⟩) (by assumption) ?_
          rotate_left
          focus (intro w' hSw; (try dsimp only at hSw); go_simp; try (with_reducible rfl))
          try simp only [Act.put, List.setIfInBounds_toArray, List.set_cons_zero, List.set_cons_succ]
          refine take_at (i := 2) (v := ?_) (.succ (.succ (.zero))) (by kernel_rfl) (by kernel_rfl) (by kernel_rfl) (fun _ _ _ h => h) (Or.inl ⟨by rfl, ?_⟩) (by assumption) ?_
          rotate_left
          focus (intro w' hSw; (try dsimp only at hSw); go_simp; try (with_reducible rfl))
          try simp only [Act.put, List.setIfInBounds_toArray, List.set_cons_zero, List.set_cons_succ]
          refine take_at (i := 3) (v := ?_) (.succ (.succ (.succ (.zero)))) (by kernel_rfl) (by kernel_rfl) (by kernel_rfl) (fun _ _ _ h => h) (Or.inl ⟨by rfl, ?_⟩) (by assumption) ?_
          rotate_left
          focus (intro w' hSw; (try dsimp only at hSw); go_simp; try (with_reducible rfl))
          try simp only [Act.put, List.setIfInBounds_toArray, List.set_cons_zero, List.set_cons_succ]
          refine take_at (i := 4) (v := ?_) (.succ (.succ (.succ (.succ (.zero))))) (by kernel_rfl) (by kernel_rfl) (by kernel_rfl) (fun _ _ _ h => h) (Or.inl ⟨by rfl, ?_⟩) (by assumption) ?_
          rotate_left
          focus (intro w' hSw; (try dsimp only at hSw); go_simp; try (with_reducible rfl))
          try simp only [Act.put, List.setIfInBounds_toArray, List.set_cons_zero, List.set_cons_succ]
          refine take_at (i := 6) (v := ?_) (.succ (.succ (.succ (.succ (.succ (.succ (.zero))))))) (by kernel_rfl) (by kernel_rfl) (by kernel_rfl) (fun _ _ _ h => h) (Or.inl ⟨by rfl, ?_⟩) (by assumption) ?_
          rotate_left
          focus (intro w' hSw; (try dsimp only at hSw); go_simp; try (with_reducible rfl))
          try simp only [Act.put, List.setIfInBounds_toArray, List.set_cons_zero, List.set_cons_succ]
          refine take_at (i := 9) (v := ?_) (.succ (.succ (.succ (.succ (.succ (.succ (.succ (.succ (.succ (.zero)))))))))) (by kernel_rfl) (by kernel_rfl) (by kernel_rfl) (fun _ _ _ h => h) (Or.inl ⟨by rfl, ?_⟩) (by assumption) ?_
          rotate_left
          focus (intro w' hSw; (try dsimp only at hSw); go_simp; try (with_reducible rfl))
          try simp only [Act.put, List.setIfInBounds_toArray, List.set_cons_zero, List.set_cons_succ]
          refine take_at (i := 10) (v := ?_) (.succ (.succ (.succ (.succ (.succ (.succ (.succ (.succ (.succ (.succ (.zero))))))))))) (by kernel_rfl) (by kernel_rfl) (by kernel_rfl) (fun _ _ _ h => h) (Or.inl ⟨by rfl, ?_⟩) (by assumption) ?_
          rotate_left
          focus (intro w' hSw; (try dsimp only at hSw); go_simp; try (with_reducible rfl))
          try simp only [Act.put, List.setIfInBounds_toArray, List.set_cons_zero, List.set_cons_succ]
          refine take_at (i := 11) (v := ?_) (.succ (.succ (.succ (.succ (.succ (.succ (.succ (.succ (.succ (.succ (.succ (.zero)))))))))))) (by kernel_rfl) (by kernel_rfl) (by kernel_rfl) (fun _ _ _ h => h) (Or.inl ⟨by rfl, ?_⟩) (by assumption) ?_
          rotate_left
          focus (intro w' hSw; (try dsimp only at hSw); go_simp; try (with_reducible rfl))
          try simp only [Act.put, List.setIfInBounds_toArray, List.set_cons_zero, List.set_cons_succ]
          refine take_at (i := 12) (v := ?_) (.succ (.succ (.succ (.succ (.succ (.succ (.succ (.succ (.succ (.succ (.succ (.succ (.zero))))))))))))) (by kernel_rfl) (by kernel_rfl) (by kernel_rfl) (fun _ _ _ h => h) (Or.inl ⟨by rfl, ?_⟩) (by assumption) ?_
          rotate_left
          focus (intro w' hSw; (try dsimp only at hSw); go_simp; try (with_reducible rfl))
          try simp only [Act.put, List.setIfInBounds_toArray, List.set_cons_zero, List.set_cons_succ]
          refine wpAnyH_ready (rs := [0, 7]) (by kernel_rfl) (by simp) ?_
          refine (cons_at (i := 0) .zero (fun K hK => ?_) (cons_at (i := 7) (.succ (.succ (.succ (.succ (.succ (.succ (.succ (.zero)))))))) (fun K hK => ?_) AllReadyH.nil))
          · go_simp
            refine hK.out _ _ ?_ ?_
            focus exact kp _ (by first | exact (Below.refl _ _) | exact (Below.refl _ _).alloc (by omega) _ | (repeat (first | (with_reducible exact Below.refl _ _) | (with_reducible assumption) | (with_reducible apply below_drewN) | (with_reducible apply Below.drew) | ((with_reducible refine Below.alloc ?_ ?_ _); rotate_left; focus (first | (simp; done) | (simp; omega) | omega)))))
            clear hK K hHeld
            intro hHeld
            try simp only [Act.put, List.setIfInBounds_toArray, List.set_cons_zero, List.set_cons_succ]
            refine wpAnyH_ready (rs := [5, 7]) (by kernel_rfl) (by simp) ?_
            refine (cons_at (i := 5) (.succ (.succ (.succ (.succ (.succ (.zero)))))) (fun K hK => ?_) (cons_at (i := 7) (.succ (.succ (.succ (.succ (.succ (.succ (.succ (.zero)))))))) (fun K hK => ?_) AllReadyH.nil))
            · (refine step_appCh rfl (.tmp 90) (.tmp 94) rfl WX.heap.size 0 _ [] rfl (by first | exact HOA.out | exact HOB.out | exact HOC.out) ⟨g1, 0, none⟩ j c.chs.length (xs.take (j * 2)) rfl (by rw [List.length_take, HRW.out.len]; omega) (fun j u hj => HSA.out _ (by (repeat (first | (with_reducible exact Below.refl _ _) | (with_reducible assumption) | (with_reducible apply below_drewN) | (with_reducible apply Below.drew) | ((with_reducible refine Below.setCell ?_ ?_ _); rotate_left; focus (first | (simp; done) | (simp; omega) | omega)) | ((with_reducible refine Below.alloc ?_ ?_ _); rotate_left; focus (first | (simp; done) | (simp; omega) | omega))))) j u hj) (fun u hu => HRW.out.one u (List.mem_of_mem_take hu)) (by omega) (by omega) (by first | (simp; done) | (simp; omega)) ?_; intro v1 w1' o1 gr1 at1; have b1' : Below WX.heap.size WX w1' := Below.grown (by (repeat (first | (with_reducible exact Below.refl _ _) | (with_reducible assumption) | (with_reducible apply below_drewN) | (with_reducible apply Below.drew) | ((with_reducible refine Below.setCell ?_ ?_ _); rotate_left; focus (first | (simp; done) | (simp; omega) | omega)) | ((with_reducible refine Below.alloc ?_ ?_ _); rotate_left; focus (first | (simp; done) | (simp; omega) | omega))))) gr1 (by first | (simp; done) | (simp; omega)) (fun x hx => by first | exact (HOA.out.lt x hx).1 | exact (HOB.out.lt x hx).1 | exact (HOC.out.lt x hx).1); have hz1 := b1'.size; (first | have L1 : Hid (Lies2 w1' (WX.heap.size + 1) ⟨.int .i64 x.id, .slice (some ⟨gv, 0, none⟩) 1 1, rfl, rfl⟩) := lies2_grow gr1 HLB.out (fun e => by have e' := Option.some.inj (show some (WX.heap.size + 1) = some WX.heap.size from e); omega) (by first | (simp; done) | (simp; omega)) | have L1 : Hid (Lies2 w1' WX.heap.size ⟨.int .i64 x.id, .slice (some ⟨gv, 0, none⟩) 1 1, rfl, rfl⟩) := lies2_grow gr1 HLC.out (fun e => by have e' := Option.some.inj (show some WX.heap.size = some (WX.heap.size + 1) from e); omega) (by first | (simp; done) | (simp; omega)) | skip); have H1 : Hid (World.ownsRow _ _ _ _ _ _ _) := o1; have HB2 : Hid (Below WX.heap.size WX w1') := b1'; clear o1 gr1 at1 b1')
              refine hK.out _ _ ?_ ?_
              focus exact kp _ (by first | exact HB2.out | exact HB2.out.alloc (by omega) _ | (repeat (first | (with_reducible exact Below.refl _ _) | (with_reducible assumption) | (with_reducible apply below_drewN) | (with_reducible apply Below.drew) | ((with_reducible refine Below.alloc ?_ ?_ _); rotate_left; focus (first | (simp; done) | (simp; omega) | omega)))))
              clear hK K hHeld
              intro hHeld
              try simp only [Act.put, List.setIfInBounds_toArray, List.set_cons_zero, List.set_cons_succ]
              refine wpAnyH_ready (rs := [7]) (by kernel_rfl) (by simp) ?_
              refine (cons_at (i := 7) (.succ (.succ (.succ (.succ (.succ (.succ (.succ (.zero)))))))) (fun K hK => ?_) AllReadyH.nil)
              go_simp
              refine hK.out _ _ ?_ ?_
              focus exact kp _ (by first | exact HB2.out | exact HB2.out.alloc (by omega) _ | (repeat (first | (with_reducible exact Below.refl _ _) | (with_reducible assumption) | (with_reducible apply below_drewN) | (with_reducible apply Below.drew) | ((with_reducible refine Below.alloc ?_ ?_ _); rotate_left; focus (first | (simp; done) | (simp; omega) | omega)))))
              clear hK K hHeld
              intro hHeld
              try simp only [Act.put, List.setIfInBounds_toArray, List.set_cons_zero, List.set_cons_succ]
              refine wpAnyH_ready (rs := [8]) (by kernel_rfl) (by simp) ?_
              refine (cons_at (i := 8) (.succ (.succ (.succ (.succ (.succ (.succ (.succ (.succ (.zero))))))))) (fun K hK => ?_) AllReadyH.nil)
              (refine step_appCh rfl (.tmp 95) (.tmp 97) rfl WX.heap.size (0 + j) v1 ([] ++ xs.take (j * 2)) rfl (by first | exact H1.out | exact H1.out.alloc _) _ 1 1 [.int .i64 x.id, .slice (some ⟨gv, 0, none⟩) 1 1] rfl rfl (by first | exact lies2_cells (f := ⟨.int .i64 x.id, .slice (some ⟨gv, 0, none⟩) 1 1, rfl, rfl⟩) (heap_alloc_new _ _) | exact lies2_cells (f := ⟨.int .i64 x.id, .slice (some ⟨gv, 0, none⟩) 1 1, rfl, rfl⟩) L1.out) (two_oneA _ rfl _ _ _) (by omega) (by omega) (by first | exact hz1 | (simp; omega)) ?_; intro v2 w2' o2 gr2 at2; have b2' : Below WX.heap.size WX w2' := Below.grown (by first | exact HB2.out | exact HB2.out.alloc hz1 _) gr2 (by first | exact hz1 | (simp; omega)) (fun x hx => (H1.out.lt x hx).1); have hz2 := b2'.size; have H2 : Hid (World.ownsRow _ _ _ _ _ _ _) := o2; have HB3 : Hid (Below WX.heap.size WX w2') := b2'; clear o2 gr2 at2 b2')
              refine hK.out _ _ ?_ ?_
              focus exact kp _ (by first | exact HB3.out | exact HB3.out.alloc (by omega) _ | (repeat (first | (with_reducible exact Below.refl _ _) | (with_reducible assumption) | (with_reducible apply below_drewN) | (with_reducible apply Below.drew) | ((with_reducible refine Below.alloc ?_ ?_ _); rotate_left; focus (first | (simp; done) | (simp; omega) | omega)))))
              clear hK K hHeld
              intro hHeld
              try simp only [Act.put, List.setIfInBounds_toArray, List.set_cons_zero, List.set_cons_succ]
              refine wpAnyH_ready (rs := [13]) (by kernel_rfl) (by simp) ?_
              refine (cons_at (i := 13) (.succ (.succ (.succ (.succ (.succ (.succ (.succ (.succ (.succ (.succ (.succ (.succ (.succ (.zero)))))))))))))) (fun K hK => ?_) AllReadyH.nil)
              (refine step_appCh rfl (.tmp 98) (.tmp 102) rfl WX.heap.size (0 + j + 1) v2 ([] ++ xs.take (j * 2) ++ [.int .i64 x.id, .slice (some ⟨gv, 0, none⟩) 1 1]) rfl H2.out ⟨g1, off5, none⟩ (c.chs.length - j) (c.chs.length - j) (xs.drop (j * 2)) rfl (by rw [List.length_drop, HRW.out.len]; omega) (fun j u hj => HSB.out _ HB3.out j u hj) (fun u hu => HRW.out.one u (List.mem_of_mem_drop hu)) (by omega) (by omega) hz2 ?_; intro v3 w3' o3 gr3 at3; have b3' : Below WX.heap.size WX w3' := Below.grown HB3.out gr3 hz2 (fun x hx => (H2.out.lt x hx).1); have hz3 := b3'.size; obtain ⟨g3, c3, hv3, hg3, _, _, _⟩ := rowForm o3 (by omega); subst hv3; have H3 : Hid (w3'.ownsRow WX.heap.size 67 2 (.slice (some ⟨g3, 0, none⟩) (c.chs.length + 1) c3) (c.chs.length + 1) (xs.take (j * 2) ++ [.int .i64 x.id, .slice (some ⟨gv, 0, none⟩) 1 1] ++ xs.drop (j * 2))) := (by have h := o3; rw [HNN.out, List.nil_append] at h; exact h); rw [HNN.out]; have HB4 : Hid (Below WX.heap.size WX w3') := b3'; have f4 := (b3'.cell (p := ⟨w.heap.size, 1, none⟩) hwX).trans r1; have f5 := (b3'.frozen (p := ⟨w.heap.size, 1, none⟩) hwX).trans rz1; clear o3 gr3 at3 b3')
              refine hK.out _ _ ?_ ?_
              focus exact kp _ (by first | exact HB4.out | exact HB4.out.alloc (by omega) _ | (repeat (first | (with_reducible exact Below.refl _ _) | (with_reducible assumption) | (with_reducible apply below_drewN) | (with_reducible apply Below.drew) | ((with_reducible refine Below.alloc ?_ ?_ _); rotate_left; focus (first | (simp; done) | (simp; omega) | omega)))))
              clear hK K hHeld
              intro hHeld
              try simp only [Act.put, List.setIfInBounds_toArray, List.set_cons_zero, List.set_cons_succ]
              refine take_at (i := 14) (v := ?_) (.succ (.succ (.succ (.succ (.succ (.succ (.succ (.succ (.succ (.succ (.succ (.succ (.succ (.succ (.zero))))))))))))))) (by kernel_rfl) (by kernel_rfl) (by kernel_rfl) (fun _ _ _ h => h) (Or.inl ⟨by rfl, ?_⟩) (by assumption) ?_
              rotate_left
              focus (intro w' hSw; (try dsimp only at hSw); go_simp; try (with_reducible rfl))
              try simp only [Act.put, List.setIfInBounds_toArray, List.set_cons_zero, List.set_cons_succ]
              refine wpAnyH_done (by kernel_rfl) ?_ _
              refine last_at (.succ (.succ (.succ (.succ (.succ (.succ (.succ (.succ (.succ (.succ (.succ (.succ (.succ (.succ (.succ (.zero)))))))))))))))) (fun K hK => ?_)
              go_simp
              refine hK.out _ _ ?_
              try go_wp2_with fail
              go_meet
              exact ⟨w3', g3, c3, H3.out, HB4.out, rfl⟩
            · go_simp
              refine hK.out _ _ ?_ ?_
              focus exact kp _ (by first | exact (Below.refl _ _) | exact (Below.refl _ _).alloc (by omega) _ | (repeat (first | (with_reducible exact Below.refl _ _) | (with_reducible assumption) | (with_reducible apply below_drewN) | (with_reducible apply Below.drew) | ((with_reducible refine Below.alloc ?_ ?_ _); rotate_left; focus (first | (simp; done) | (simp; omega) | omega)))))
              clear hK K hHeld
              intro hHeld
              try simp only [Act.put, List.setIfInBounds_toArray, List.set_cons_zero, List.set_cons_succ]
              refine wpAnyH_ready (rs := [5]) (by kernel_rfl) (by simp) ?_
              refine (cons_at (i := 5) (.succ (.succ (.succ (.succ (.succ (.zero)))))) (fun K hK => ?_) AllReadyH.nil)
              (refine step_appCh rfl (.tmp 90) (.tmp 94) rfl WX.heap.size 0 _ [] rfl (by first | exact HOA.out | exact HOB.out | exact HOC.out) ⟨g1, 0, none⟩ j c.chs.length (xs.take (j * 2)) rfl (by rw [List.length_take, HRW.out.len]; omega) (fun j u hj => HSA.out _ (by (repeat (first | (with_reducible exact Below.refl _ _) | (with_reducible assumption) | (with_reducible apply below_drewN) | (with_reducible apply Below.drew) | ((with_reducible refine Below.setCell ?_ ?_ _); rotate_left; focus (first | (simp; done) | (simp; omega) | omega)) | ((with_reducible refine Below.alloc ?_ ?_ _); rotate_left; focus (first | (simp; done) | (simp; omega) | omega))))) j u hj) (fun u hu => HRW.out.one u (List.mem_of_mem_take hu)) (by omega) (by omega) (by first | (simp; done) | (simp; omega)) ?_; intro v1 w1' o1 gr1 at1; have b1' : Below WX.heap.size WX w1' := Below.grown (by (repeat (first | (with_reducible exact Below.refl _ _) | (with_reducible assumption) | (with_reducible apply below_drewN) | (with_reducible apply Below.drew) | ((with_reducible refine Below.setCell ?_ ?_ _); rotate_left; focus (first | (simp; done) | (simp; omega) | omega)) | ((with_reducible refine Below.alloc ?_ ?_ _); rotate_left; focus (first | (simp; done) | (simp; omega) | omega))))) gr1 (by first | (simp; done) | (simp; omega)) (fun x hx => by first | exact (HOA.out.lt x hx).1 | exact (HOB.out.lt x hx).1 | exact (HOC.out.lt x hx).1); have hz1 := b1'.size; (first | have L1 : Hid (Lies2 w1' (WX.heap.size + 1) ⟨.int .i64 x.id, .slice (some ⟨gv, 0, none⟩) 1 1, rfl, rfl⟩) := lies2_grow gr1 HLB.out (fun e => by have e' := Option.some.inj (show some (WX.heap.size + 1) = some WX.heap.size from e); omega) (by first | (simp; done) | (simp; omega)) | have L1 : Hid (Lies2 w1' WX.heap.size ⟨.int .i64 x.id, .slice (some ⟨gv, 0, none⟩) 1 1, rfl, rfl⟩) := lies2_grow gr1 HLC.out (fun e => by have e' := Option.some.inj (show some WX.heap.size = some (WX.heap.size + 1) from e); omega) (by first | (simp; done) | (simp; omega)) | skip); have H1 : Hid (World.ownsRow _ _ _ _ _ _ _) := o1; have HB2 : Hid (Below WX.heap.size WX w1') := b1'; clear o1 gr1 at1 b1')
              refine hK.out _ _ ?_ ?_
              focus exact kp _ (by first | exact HB2.out | exact HB2.out.alloc (by omega) _ | (repeat (first | (with_reducible exact Below.refl _ _) | (with_reducible assumption) | (with_reducible apply below_drewN) | (with_reducible apply Below.drew) | ((with_reducible refine Below.alloc ?_ ?_ _); rotate_left; focus (first | (simp; done) | (simp; omega) | omega)))))
              clear hK K hHeld
              intro hHeld
              try simp only [Act.put, List.setIfInBounds_toArray, List.set_cons_zero, List.set_cons_succ]
              refine wpAnyH_ready (rs := [8]) (by kernel_rfl) (by simp) ?_
              refine (cons_at (i := 8) (.succ (.succ (.succ (.succ (.succ (.succ (.succ (.succ (.zero))))))))) (fun K hK => ?_) AllReadyH.nil)
              (refine step_appCh rfl (.tmp 95) (.tmp 97) rfl WX.heap.size (0 + j) v1 ([] ++ xs.take (j * 2)) rfl (by first | exact H1.out | exact H1.out.alloc _) _ 1 1 [.int .i64 x.id, .slice (some ⟨gv, 0, none⟩) 1 1] rfl rfl (by first | exact lies2_cells (f := ⟨.int .i64 x.id, .slice (some ⟨gv, 0, none⟩) 1 1, rfl, rfl⟩) (heap_alloc_new _ _) | exact lies2_cells (f := ⟨.int .i64 x.id, .slice (some ⟨gv, 0, none⟩) 1 1, rfl, rfl⟩) L1.out) (two_oneA _ rfl _ _ _) (by omega) (by omega) (by first | exact hz1 | (simp; omega)) ?_; intro v2 w2' o2 gr2 at2; have b2' : Below WX.heap.size WX w2' := Below.grown (by first | exact HB2.out | exact HB2.out.alloc hz1 _) gr2 (by first | exact hz1 | (simp; omega)) (fun x hx => (H1.out.lt x hx).1); have hz2 := b2'.size; have H2 : Hid (World.ownsRow _ _ _ _ _ _ _) := o2; have HB3 : Hid (Below WX.heap.size WX w2') := b2'; clear o2 gr2 at2 b2')
              refine hK.out _ _ ?_ ?_
              focus exact kp _ (by first | exact HB3.out | exact HB3.out.alloc (by omega) _ | (repeat (first | (with_reducible exact Below.refl _ _) | (with_reducible assumption) | (with_reducible apply below_drewN) | (with_reducible apply Below.drew) | ((with_reducible refine Below.alloc ?_ ?_ _); rotate_left; focus (first | (simp; done) | (simp; omega) | omega)))))
              clear hK K hHeld
              intro hHeld
              try simp only [Act.put, List.setIfInBounds_toArray, List.set_cons_zero, List.set_cons_succ]
              refine wpAnyH_ready (rs := [13]) (by kernel_rfl) (by simp) ?_
              refine (cons_at (i := 13) (.succ (.succ (.succ (.succ (.succ (.succ (.succ (.succ (.succ (.succ (.succ (.succ (.succ (.zero)))))))))))))) (fun K hK => ?_) AllReadyH.nil)
              (refine step_appCh rfl (.tmp 98) (.tmp 102) rfl WX.heap.size (0 + j + 1) v2 ([] ++ xs.take (j * 2) ++ [.int .i64 x.id, .slice (some ⟨gv, 0, none⟩) 1 1]) rfl H2.out ⟨g1, off5, none⟩ (c.chs.length - j) (c.chs.length - j) (xs.drop (j * 2)) rfl (by rw [List.length_drop, HRW.out.len]; omega) (fun j u hj => HSB.out _ HB3.out j u hj) (fun u hu => HRW.out.one u (List.mem_of_mem_drop hu)) (by omega) (by omega) hz2 ?_; intro v3 w3' o3 gr3 at3; have b3' : Below WX.heap.size WX w3' := Below.grown HB3.out gr3 hz2 (fun x hx => (H2.out.lt x hx).1); have hz3 := b3'.size; obtain ⟨g3, c3, hv3, hg3, _, _, _⟩ := rowForm o3 (by omega); subst hv3; have H3 : Hid (w3'.ownsRow WX.heap.size 67 2 (.slice (some ⟨g3, 0, none⟩) (c.chs.length + 1) c3) (c.chs.length + 1) (xs.take (j * 2) ++ [.int .i64 x.id, .slice (some ⟨gv, 0, none⟩) 1 1] ++ xs.drop (j * 2))) := (by have h := o3; rw [HNN.out, List.nil_append] at h; exact h); rw [HNN.out]; have HB4 : Hid (Below WX.heap.size WX w3') := b3'; have f4 := (b3'.cell (p := ⟨w.heap.size, 1, none⟩) hwX).trans r1; have f5 := (b3'.frozen (p := ⟨w.heap.size, 1, none⟩) hwX).trans rz1; clear o3 gr3 at3 b3')
              refine hK.out _ _ ?_ ?_
              focus exact kp _ (by first | exact HB4.out | exact HB4.out.alloc (by omega) _ | (repeat (first | (with_reducible exact Below.refl _ _) | (with_reducible assumption) | (with_reducible apply below_drewN) | (with_reducible apply Below.drew) | ((with_reducible refine Below.alloc ?_ ?_ _); rotate_left; focus (first | (simp; done) | (simp; omega) | omega)))))
              clear hK K hHeld
              intro hHeld
              try simp only [Act.put, List.setIfInBounds_toArray, List.set_cons_zero, List.set_cons_succ]
              refine take_at (i := 14) (v := ?_) (.succ (.succ (.succ (.succ (.succ (.succ (.succ (.succ (.succ (.succ (.succ (.succ (.succ (.succ (.zero))))))))))))))) (by kernel_rfl) (by kernel_rfl) (by kernel_rfl) (fun _ _ _ h => h) (Or.inl ⟨by rfl, ?_⟩) (by assumption) ?_
              rotate_left
              focus (intro w' hSw; (try dsimp only at hSw); go_simp; try (with_reducible rfl))
              try simp only [Act.put, List.setIfInBounds_toArray, List.set_cons_zero, List.set_cons_succ]
              refine wpAnyH_done (by kernel_rfl) ?_ _
              refine last_at (.succ (.succ (.succ (.succ (.succ (.succ (.succ (.succ (.succ (.succ (.succ (.succ (.succ (.succ (.succ (.zero)))))))))))))))) (fun K hK => ?_)
              go_simp
              refine hK.out _ _ ?_
              try go_wp2_with fail
              go_meet
              exact ⟨w3', g3, c3, H3.out, HB4.out, rfl⟩
          · go_simp
            refine hK.out _ _ ?_ ?_
            focus exact kp _ (by first | exact (Below.refl _ _) | exact (Below.refl _ _).alloc (by omega) _ | (repeat (first | (with_reducible exact Below.refl _ _) | (with_reducible assumption) | (with_reducible apply below_drewN) | (with_reducible apply Below.drew) | ((with_reducible refine Below.alloc ?_ ?_ _); rotate_left; focus (first | (simp; done) | (simp; omega) | omega)))))
            clear hK K hHeld
            intro hHeld
            try simp only [Act.put, List.setIfInBounds_toArray, List.set_cons_zero, List.set_cons_succ]
            refine wpAnyH_ready (rs := [0]) (by kernel_rfl) (by simp) ?_
            refine (cons_at (i := 0) .zero (fun K hK => ?_) AllReadyH.nil)
            go_simp
            refine hK.out _ _ ?_ ?_
            focus exact kp _ (by first | exact (Below.refl _ _) | exact (Below.refl _ _).alloc (by omega) _ | (repeat (first | (with_reducible exact Below.refl _ _) | (with_reducible assumption) | (with_reducible apply below_drewN) | (with_reducible apply Below.drew) | ((with_reducible refine Below.alloc ?_ ?_ _); rotate_left; focus (first | (simp; done) | (simp; omega) | omega)))))
            clear hK K hHeld
            intro hHeld
            try simp only [Act.put, List.setIfInBounds_toArray, List.set_cons_zero, List.set_cons_succ]
            refine wpAnyH_ready (rs := [5]) (by kernel_rfl) (by simp) ?_
            refine (cons_at (i := 5) (.succ (.succ (.succ (.succ (.succ (.zero)))))) (fun K hK => ?_) AllReadyH.nil)
            (refine step_appCh rfl (.tmp 90) (.tmp 94) rfl WX.heap.size 0 _ [] rfl (by first | exact HOA.out | exact HOB.out | exact HOC.out) ⟨g1, 0, none⟩ j c.chs.length (xs.take (j * 2)) rfl (by rw [List.length_take, HRW.out.len]; omega) (fun j u hj => HSA.out _ (by (repeat (first | (with_reducible exact Below.refl _ _) | (with_reducible assumption) | (with_reducible apply below_drewN) | (with_reducible apply Below.drew) | ((with_reducible refine Below.setCell ?_ ?_ _); rotate_left; focus (first | (simp; done) | (simp; omega) | omega)) | ((with_reducible refine Below.alloc ?_ ?_ _); rotate_left; focus (first | (simp; done) | (simp; omega) | omega))))) j u hj) (fun u hu => HRW.out.one u (List.mem_of_mem_take hu)) (by omega) (by omega) (by first | (simp; done) | (simp; omega)) ?_; intro v1 w1' o1 gr1 at1; have b1' : Below WX.heap.size WX w1' := Below.grown (by (repeat (first | (with_reducible exact Below.refl _ _) | (with_reducible assumption) | (with_reducible apply below_drewN) | (with_reducible apply Below.drew) | ((with_reducible refine Below.setCell ?_ ?_ _); rotate_left; focus (first | (simp; done) | (simp; omega) | omega)) | ((with_reducible refine Below.alloc ?_ ?_ _); rotate_left; focus (first | (simp; done) | (simp; omega) | omega))))) gr1 (by first | (simp; done) | (simp; omega)) (fun x hx => by first | exact (HOA.out.lt x hx).1 | exact (HOB.out.lt x hx).1 | exact (HOC.out.lt x hx).1); have hz1 := b1'.size; (first | have L1 : Hid (Lies2 w1' (WX.heap.size + 1) ⟨.int .i64 x.id, .slice (some ⟨gv, 0, none⟩) 1 1, rfl, rfl⟩) := lies2_grow gr1 HLB.out (fun e => by have e' := Option.some.inj (show some (WX.heap.size + 1) = some WX.heap.size from e); omega) (by first | (simp; done) | (simp; omega)) | have L1 : Hid (Lies2 w1' WX.heap.size ⟨.int .i64 x.id, .slice (some ⟨gv, 0, none⟩) 1 1, rfl, rfl⟩) := lies2_grow gr1 HLC.out (fun e => by have e' := Option.some.inj (show some WX.heap.size = some (WX.heap.size + 1) from e); omega) (by first | (simp; done) | (simp; omega)) | skip); have H1 : Hid (World.ownsRow _ _ _ _ _ _ _) := o1; have HB2 : Hid (Below WX.heap.size WX w1') := b1'; clear o1 gr1 at1 b1')
            refine hK.out _ _ ?_ ?_
            focus exact kp _ (by first | exact HB2.out | exact HB2.out.alloc (by omega) _ | (repeat (first | (with_reducible exact Below.refl _ _) | (with_reducible assumption) | (with_reducible apply below_drewN) | (with_reducible apply Below.drew) | ((with_reducible refine Below.alloc ?_ ?_ _); rotate_left; focus (first | (simp; done) | (simp; omega) | omega)))))
            clear hK K hHeld
            intro hHeld
            try simp only [Act.put, List.setIfInBounds_toArray, List.set_cons_zero, List.set_cons_succ]
            refine wpAnyH_ready (rs := [8]) (by kernel_rfl) (by simp) ?_
            refine (cons_at (i := 8) (.succ (.succ (.succ (.succ (.succ (.succ (.succ (.succ (.zero))))))))) (fun K hK => ?_) AllReadyH.nil)
            (refine step_appCh rfl (.tmp 95) (.tmp 97) rfl WX.heap.size (0 + j) v1 ([] ++ xs.take (j * 2)) rfl (by first | exact H1.out | exact H1.out.alloc _) _ 1 1 [.int .i64 x.id, .slice (some ⟨gv, 0, none⟩) 1 1] rfl rfl (by first | exact lies2_cells (f := ⟨.int .i64 x.id, .slice (some ⟨gv, 0, none⟩) 1 1, rfl, rfl⟩) (heap_alloc_new _ _) | exact lies2_cells (f := ⟨.int .i64 x.id, .slice (some ⟨gv, 0, none⟩) 1 1, rfl, rfl⟩) L1.out) (two_oneA _ rfl _ _ _) (by omega) (by omega) (by first | exact hz1 | (simp; omega)) ?_; intro v2 w2' o2 gr2 at2; have b2' : Below WX.heap.size WX w2' := Below.grown (by first | exact HB2.out | exact HB2.out.alloc hz1 _) gr2 (by first | exact hz1 | (simp; omega)) (fun x hx => (H1.out.lt x hx).1); have hz2 := b2'.size; have H2 : Hid (World.ownsRow _ _ _ _ _ _ _) := o2; have HB3 : Hid (Below WX.heap.size WX w2') := b2'; clear o2 gr2 at2 b2')
            refine hK.out _ _ ?_ ?_
            focus exact kp _ (by first | exact HB3.out | exact HB3.out.alloc (by omega) _ | (repeat (first | (with_reducible exact Below.refl _ _) | (with_reducible assumption) | (with_reducible apply below_drewN) | (with_reducible apply Below.drew) | ((with_reducible refine Below.alloc ?_ ?_ _); rotate_left; focus (first | (simp; done) | (simp; omega) | omega)))))
            clear hK K hHeld
            intro hHeld
            try simp only [Act.put, List.setIfInBounds_toArray, List.set_cons_zero, List.set_cons_succ]
            refine wpAnyH_ready (rs := [13]) (by kernel_rfl) (by simp) ?_
            refine (cons_at (i := 13) (.succ (.succ (.succ (.succ (.succ (.succ (.succ (.succ (.succ (.succ (.succ (.succ (.succ (.zero)))))))))))))) (fun K hK => ?_) AllReadyH.nil)
            (refine step_appCh rfl (.tmp 98) (.tmp 102) rfl WX.heap.size (0 + j + 1) v2 ([] ++ xs.take (j * 2) ++ [.int .i64 x.id, .slice (some ⟨gv, 0, none⟩) 1 1]) rfl H2.out ⟨g1, off5, none⟩ (c.chs.length - j) (c.chs.length - j) (xs.drop (j * 2)) rfl (by rw [List.length_drop, HRW.out.len]; omega) (fun j u hj => HSB.out _ HB3.out j u hj) (fun u hu => HRW.out.one u (List.mem_of_mem_drop hu)) (by omega) (by omega) hz2 ?_; intro v3 w3' o3 gr3 at3; have b3' : Below WX.heap.size WX w3' := Below.grown HB3.out gr3 hz2 (fun x hx => (H2.out.lt x hx).1); have hz3 := b3'.size; obtain ⟨g3, c3, hv3, hg3, _, _, _⟩ := rowForm o3 (by omega); subst hv3; have H3 : Hid (w3'.ownsRow WX.heap.size 67 2 (.slice (some ⟨g3, 0, none⟩) (c.chs.length + 1) c3) (c.chs.length + 1) (xs.take (j * 2) ++ [.int .i64 x.id, .slice (some ⟨gv, 0, none⟩) 1 1] ++ xs.drop (j * 2))) := (by have h := o3; rw [HNN.out, List.nil_append] at h; exact h); rw [HNN.out]; have HB4 : Hid (Below WX.heap.size WX w3') := b3'; have f4 := (b3'.cell (p := ⟨w.heap.size, 1, none⟩) hwX).trans r1; have f5 := (b3'.frozen (p := ⟨w.heap.size, 1, none⟩) hwX).trans rz1; clear o3 gr3 at3 b3')
            refine hK.out _ _ ?_ ?_
            focus exact kp _ (by first | exact HB4.out | exact HB4.out.alloc (by omega) _ | (repeat (first | (with_reducible exact Below.refl _ _) | (with_reducible assumption) | (with_reducible apply below_drewN) | (with_reducible apply Below.drew) | ((with_reducible refine Below.alloc ?_ ?_ _); rotate_left; focus (first | (simp; done) | (simp; omega) | omega)))))
            clear hK K hHeld
            intro hHeld
            try simp only [Act.put, List.setIfInBounds_toArray, List.set_cons_zero, List.set_cons_succ]
            refine take_at (i := 14) (v := ?_) (.succ (.succ (.succ (.succ (.succ (.succ (.succ (.succ (.succ (.succ (.succ (.succ (.succ (.succ (.zero))))))))))))))) (by kernel_rfl) (by kernel_rfl) (by kernel_rfl) (fun _ _ _ h => h) (Or.inl ⟨by rfl, ?_⟩) (by assumption) ?_
            rotate_left
            focus (intro w' hSw; (try dsimp only at hSw); go_simp; try (with_reducible rfl))
            try simp only [Act.put, List.setIfInBounds_toArray, List.set_cons_zero, List.set_cons_succ]
            refine wpAnyH_done (by kernel_rfl) ?_ _
            refine last_at (.succ (.succ (.succ (.succ (.succ (.succ (.succ (.succ (.succ (.succ (.succ (.succ (.succ (.succ (.succ (.zero)))))))))))))))) (fun K hK => ?_)
            go_simp
            refine hK.out _ _ ?_
            try go_wp2_with fail
            go_meet
            exact ⟨w3', g3, c3, H3.out, HB4.out, rfl⟩
        case rest =>
        obtain ⟨w3', g3, c3, ho3, hb3, rfl⟩ := hcut
        have M5 := HM4.out.next hb3
        have G5 := HG4.out.step hb3
        obtain ⟨mb, ml, mc0, mc1, mc2, mwr, ⟨r0, mr0⟩, ⟨r1', mr1⟩, ⟨r2, mr2⟩, my0⟩ := M5
        have hgX : WX.heap.size ≤ w3'.heap.size := hb3.size
        have hO9 := own_low (own_low (own_low (own_low ho3 (b := w.heap.size) (o := 1) (x := .slice (some ⟨g3, 0, none⟩) (c.chs.length + 1) c3) (by omega)) (b := w.heap.size + 2) (o := 0) (x := .string c.name) (by omega)) (b := w.heap.size + 2) (o := 1) (x := .slice (some ⟨g3, 0, none⟩) (c.chs.length + 1) c3) (by omega)) (b := w.heap.size + 2) (o := 2) (x := .slice (some ⟨g2, 0, none⟩) c.dfs.length cq) (by omega)
        have hB9 : Below w.heap.size w ((((w3'.setCell ⟨w.heap.size, 1, none⟩ (.slice (some ⟨g3, 0, none⟩) (c.chs.length + 1) c3)).setCell ⟨w.heap.size + 2, 0, none⟩ (.string c.name)).setCell ⟨w.heap.size + 2, 1, none⟩ (.slice (some ⟨g3, 0, none⟩) (c.chs.length + 1) c3)).setCell ⟨w.heap.size + 2, 2, none⟩ (.slice (some ⟨g2, 0, none⟩) c.dfs.length cq)) := (((mb.setCell (by simp) _).setCell (by show w.heap.size ≤ w.heap.size + 2; omega) _).setCell (by show w.heap.size ≤ w.heap.size + 2; omega) _).setCell (by show w.heap.size ≤ w.heap.size + 2; omega) _
        have G9 : V5 ((((w3'.setCell ⟨w.heap.size, 1, none⟩ (.slice (some ⟨g3, 0, none⟩) (c.chs.length + 1) c3)).setCell ⟨w.heap.size + 2, 0, none⟩ (.string c.name)).setCell ⟨w.heap.size + 2, 1, none⟩ (.slice (some ⟨g3, 0, none⟩) (c.chs.length + 1) c3)).setCell ⟨w.heap.size + 2, 2, none⟩ (.slice (some ⟨g2, 0, none⟩) c.dfs.length cq)) gv (verW t x) := ⟨by simpa [World.setCell] using G5.lt, by rw [set_other (by omega), set_other (by omega), set_other (by omega), set_other (by omega)]; exact G5.cb⟩
        have HR9 : Hid (RowCh _ (some ⟨g3, 0, none⟩) (c.chs.take j ++ ⟨x.id, [verW t x]⟩ :: c.chs.drop j)) := rowCh_ins hk HRW0.out.len hO9 (HRW0.out.next hB9).at_ G9.inVr
        have HD9 : Hid (RowDf _ (some ⟨g2, 0, none⟩) c.dfs) := (HR.out.next hB9).df
        have HB9 : Hid (Below _ _ _) := hB9
        have hFl := insF_len2 c.chs ⟨x.id, [verW t x]⟩ j hk
        have HFL : Hid (_ = _) := hFl
        clear hO9 hB9 G9 ho3 HM4 HG4 hFl
        go_wp2_with fail
        refine bodyPost_ret (v := .tuple #[.agg #[.string c.name, .slice (some ⟨g3, 0, none⟩) (c.chs.length + 1) c3, .slice (some ⟨g2, 0, none⟩) c.dfs.length cq], .int .i64 0]) (by simp [results, Tryz.results22, go_sem, *]) rfl ?_
        rw [HRS.out]
        exact ⟨HB9.out, some ⟨g3, 0, none⟩, some ⟨g2, 0, none⟩, c3, cq, by rw [HFL.out], HR9.out, HD9.out⟩
      · have e1 : decide ((j : Int) < (c.chs.length : Int)) = false := decide_eq_false (by omega)
        have e2 : decide (j < c.chs.length) = false := decide_eq_false hkn
        have hjI : ¬ (j : Int) < (c.chs.length : Int) := by omega
        have Mwr := M3
        have Vwr := V3
        have Rwr := R3
        have fzwr := fz3
        clear hjk M3 V3 R3 fz3
        go_wp2_with fail
        go_quiet (fail)
        obtain ⟨WD, hWWD⟩ : ∃ W9, W9 = wr.drewN nq := ⟨_, rfl⟩
        have hbWD : Below wr.heap.size wr WD := by rw [hWWD]; exact below_drewN (Below.refl _ _) _
        rw [← hWWD]
        have MWD := Mwr.next hbWD
        have VWD := Vwr.step hbWD
        have RWD := Rwr.next hbWD
        have fzWD : ∀ o, WD.frozen? ⟨w.heap.size, o, none⟩ = false := fun o => (hbWD.frozen (p := ⟨w.heap.size, o, none⟩) (by have := Mwr.lt; show w.heap.size < wr.heap.size; omega)).trans (fzwr o)
        have n1WD := MWD.c1
        have a1WD := MWD.wr.c1
        have hlWD := MWD.lt
        have hglWD := RWD.ch.lt
        clear hWWD hbWD Mwr Vwr Rwr fzwr
        go_wp2_with fail
        go_quiet (fail)
        obtain ⟨WE, hWWE⟩ : ∃ W9, W9 = WD.drewN nq := ⟨_, rfl⟩
        have hbWE : Below WD.heap.size WD WE := by rw [hWWE]; exact below_drewN (Below.refl _ _) _
        rw [← hWWE]
        have MWE := MWD.next hbWE
        have VWE := VWD.step hbWE
        have RWE := RWD.next hbWE
        have fzWE : ∀ o, WE.frozen? ⟨w.heap.size, o, none⟩ = false := fun o => (hbWE.frozen (p := ⟨w.heap.size, o, none⟩) (by have := MWD.lt; show w.heap.size < WD.heap.size; omega)).trans (fzWD o)
        have n1WE := MWE.c1
        have a1WE := MWE.wr.c1
        have hlWE := MWE.lt
        have hglWE := RWE.ch.lt
        clear hWWE hbWE MWD VWD RWD fzWD
        obtain ⟨p0, p1, p2, p3, p4⟩ := five VWE.cb
        have hvl := VWE.lt
        have hk := HPL.out.le
        have hb1A : Below WE.heap.size WE (WE.alloc (.cells #[.int .i64 t, .bool x.gone, .int .i64 x.doc.k, .int .i64 x.doc.n, .string x.doc.t] 69)) := (Below.refl _ _).alloc (Nat.le_refl _) _
        have hb2A : Below (WE.alloc (.cells #[.int .i64 t, .bool x.gone, .int .i64 x.doc.k, .int .i64 x.doc.n, .string x.doc.t] 69)).heap.size (WE.alloc (.cells #[.int .i64 t, .bool x.gone, .int .i64 x.doc.k, .int .i64 x.doc.n, .string x.doc.t] 69)) ((WE.alloc (.cells #[.int .i64 t, .bool x.gone, .int .i64 x.doc.k, .int .i64 x.doc.n, .string x.doc.t] 69)).alloc (.cells #[.int .i64 x.id, .slice (some ⟨WE.heap.size, 0, none⟩) 1 1] 67)) := (Below.refl _ _).alloc (Nat.le_refl _) _
        have M4 := (MWE.next hb1A).next hb2A
        have G4 : V5 ((WE.alloc (.cells #[.int .i64 t, .bool x.gone, .int .i64 x.doc.k, .int .i64 x.doc.n, .string x.doc.t] 69)).alloc (.cells #[.int .i64 x.id, .slice (some ⟨WE.heap.size, 0, none⟩) 1 1] 67)) WE.heap.size (verW t x) := (V5.new WE (verW t x)).step hb2A
        have q0 : ((WE.alloc (.cells #[.int .i64 t, .bool x.gone, .int .i64 x.doc.k, .int .i64 x.doc.n, .string x.doc.t] 69)).alloc (.cells #[.int .i64 x.id, .slice (some ⟨WE.heap.size, 0, none⟩) 1 1] 67)).cell? ⟨WE.heap.size + 1, 0, none⟩ = some (.int .i64 x.id) := by simp [go_sem]
        have q1 : ((WE.alloc (.cells #[.int .i64 t, .bool x.gone, .int .i64 x.doc.k, .int .i64 x.doc.n, .string x.doc.t] 69)).alloc (.cells #[.int .i64 x.id, .slice (some ⟨WE.heap.size, 0, none⟩) 1 1] 67)).cell? ⟨WE.heap.size + 1, 1, none⟩ = some (.slice (some ⟨WE.heap.size, 0, none⟩) 1 1) := by simp [go_sem]
        have hbx : WE.heap.size + 1 < ((WE.alloc (.cells #[.int .i64 t, .bool x.gone, .int .i64 x.doc.k, .int .i64 x.doc.n, .string x.doc.t] 69)).alloc (.cells #[.int .i64 x.id, .slice (some ⟨WE.heap.size, 0, none⟩) 1 1] 67)).heap.size := by simp
        have rz1 : ((WE.alloc (.cells #[.int .i64 t, .bool x.gone, .int .i64 x.doc.k, .int .i64 x.doc.n, .string x.doc.t] 69)).alloc (.cells #[.int .i64 x.id, .slice (some ⟨WE.heap.size, 0, none⟩) 1 1] 67)).frozen? ⟨w.heap.size, 1, none⟩ = false := ((hb1A.trans (hb2A.mono hb1A.size)).frozen (p := ⟨w.heap.size, 1, none⟩) (by show w.heap.size < WE.heap.size; omega)).trans (fzWE 1)
        clear hb1A hb2A MWE VWE RWE fzWE
        go_wp2_with fail
        generalize (WE.alloc (.cells #[.int .i64 t, .bool x.gone, .int .i64 x.doc.k, .int .i64 x.doc.n, .string x.doc.t] 69)).alloc (.cells #[.int .i64 x.id, .slice (some ⟨WE.heap.size, 0, none⟩) 1 1] 67) = WX at *
        obtain ⟨gv, hgv⟩ : ∃ gv, gv = WE.heap.size := ⟨_, rfl⟩
        obtain ⟨bx, hbxe⟩ : ∃ bx, bx = WE.heap.size + 1 := ⟨_, rfl⟩
        rw [← hbxe] at q0 q1 hbx
        rw [← hgv] at G4 q1
        have hgvw : w.heap.size + 2 < gv := by omega
        have hbxw : w.heap.size + 2 < bx := by omega
        try rw [← hbxe]
        try rw [← hgv]
        have r1 := M4.c1
        have hwX : w.heap.size < WX.heap.size := by have := M4.lt; omega
        have hgvX := G4.lt
        clear hgv hbxe hvl p0 p1 p2 p3 p4
        have HM4 : Hid (MkI _ _ _ _ _ _) := M4
        have HG4 : Hid (V5 _ _ _) := G4
        have HRW : Hid (RawC WX g1 c.chs xs) := HRW0.out.next M4.bel
        have ps1 := cutHeadC g1 0 c.chs.length c.chs.length j hk
        have ps2 := cutTailC g1 0 c.chs.length c.chs.length j hk
        obtain ⟨off5, ho5⟩ : ∃ o, o = if c.chs.length = j then 0 else 0 + j * 2 := ⟨_, rfl⟩
        rw [← ho5] at ps2
        have hadd : ∀ (o i : Nat), (⟨g1, o, none⟩ : Addr).add i = ⟨g1, o + i, none⟩ := fun o i => by unfold Addr.add; split <;> simp_all
        have HSA : Hid (∀ w', Below WX.heap.size WX w' → ∀ i u, (xs.take (j * 2))[i]? = some u → w'.cell? ((⟨g1, 0, none⟩ : Addr).add i) = some u) := fun w' hb i u hi => by
          rw [hadd, Nat.zero_add]
          refine (hb.cell (p := ⟨g1, i, none⟩) HRW.out.lt).trans (HRW.out.cells i u ?_)
          rw [List.getElem?_take] at hi
          split at hi
          · exact hi
          · cases hi
        have HSB : Hid (∀ w', Below WX.heap.size WX w' → ∀ i u, (xs.drop (j * 2))[i]? = some u → w'.cell? ((⟨g1, off5, none⟩ : Addr).add i) = some u) := fun w' hb i u hi => by
          by_cases h : c.chs.length = j
          · rw [List.drop_eq_nil_of_le (by have := HRW.out.len; omega)] at hi; simp at hi
          · rw [ho5, if_neg h, Nat.zero_add, hadd]
            refine (hb.cell (p := ⟨g1, j * 2 + i, none⟩) HRW.out.lt).trans (HRW.out.cells _ u ?_)
            rw [List.getElem?_drop] at hi; exact hi
        have OA := World.ownsRow_made (base := WX.heap.size) (size := 2) (e := 67) WX #[] 0 (Nat.le_refl _) (by unfold maxLen; omega) rfl
        have OB := OA.alloc (.cells #[.int .i64 x.id, .slice (some ⟨gv, 0, none⟩) 1 1] 67)
        have OC := World.ownsRow_made (base := WX.heap.size) (size := 2) (e := 67) (WX.alloc (.cells #[.int .i64 x.id, .slice (some ⟨gv, 0, none⟩) 1 1] 67)) #[] 0 (by simp) (by unfold maxLen; omega) rfl
        simp only [heap_size_alloc] at OC
        have HOA : Hid (World.ownsRow _ _ _ _ _ _ _) := OA
        have HOB : Hid (World.ownsRow _ _ _ _ _ _ _) := OB
        have HOC : Hid (World.ownsRow _ _ _ _ _ _ _) := OC
        have HLB : Hid (Lies2 ((WX.alloc (.cells #[] 67)).alloc (.cells #[.int .i64 x.id, .slice (some ⟨gv, 0, none⟩) 1 1] 67)) (WX.heap.size + 1) ⟨.int .i64 x.id, .slice (some ⟨gv, 0, none⟩) 1 1, rfl, rfl⟩) := (by have h := heap_alloc_new (WX.alloc (.cells #[] 67)) (.cells #[.int .i64 x.id, .slice (some ⟨gv, 0, none⟩) 1 1] 67); rw [heap_size_alloc] at h; exact h)
        have HLC : Hid (Lies2 ((WX.alloc (.cells #[.int .i64 x.id, .slice (some ⟨gv, 0, none⟩) 1 1] 67)).alloc (.cells #[] 67)) WX.heap.size ⟨.int .i64 x.id, .slice (some ⟨gv, 0, none⟩) 1 1, rfl, rfl⟩) := (by show ((WX.alloc (.cells #[.int .i64 x.id, .slice (some ⟨gv, 0, none⟩) 1 1] 67)).alloc (.cells #[] 67)).heap[WX.heap.size]? = _; rw [heap_alloc_old _ _ (by simp)]; exact heap_alloc_new _ _)
        have HNN : Hid (0 + j + 1 + (c.chs.length - j) = c.chs.length + 1) := (by omega : 0 + j + 1 + (c.chs.length - j) = c.chs.length + 1)
        clear ho5 OA OB OC hadd M4 G4
        go_cut [] (fun wx => ∃ w3' g3 c3, w3'.ownsRow WX.heap.size 67 2 (.slice (some ⟨g3, 0, none⟩) (c.chs.length + 1) c3) (c.chs.length + 1) (xs.take (j * 2) ++ [.int .i64 x.id, .slice (some ⟨gv, 0, none⟩) 1 1] ++ xs.drop (j * 2)) ∧ Below WX.heap.size WX w3' ∧ wx = w3'.setCell ⟨w.heap.size, 1, none⟩ (.slice (some ⟨g3, 0, none⟩) (c.chs.length + 1) c3))
        case first =>
          have kp : ∀ w', Below WX.heap.size WX w' → (w'.cell? ⟨w.heap.size, 1, none⟩ = some (.slice (some ⟨g1, 0, none⟩) c.chs.length c.chs.length) ∧ w'.cell? ⟨bx, 0, none⟩ = some (.int .i64 x.id) ∧ w'.cell? ⟨bx, 1, none⟩ = some (.slice (some ⟨gv, 0, none⟩) 1 1)) := fun w' b => ⟨(b.cell (p := ⟨w.heap.size, 1, none⟩) hwX).trans r1, (b.cell (p := ⟨bx, 0, none⟩) hbx).trans q0, (b.cell (p := ⟨bx, 1, none⟩) hbx).trans q1⟩
          refine wp_region_last2 (S := fun w0 => w0.cell? ⟨w.heap.size, 1, none⟩ = some (.slice (some ⟨g1, 0, none⟩) c.chs.length c.chs.length) ∧ w0.cell? ⟨bx, 0, none⟩ = some (.int .i64 x.id) ∧ w0.cell? ⟨bx, 1, none⟩ = some (.slice (some ⟨gv, 0, none⟩) 1 1)) 15 (by kernel_rfl) rfl (by kernel_rfl) (kp _ (Below.refl _ _).drew) (fun hHeld => ?_)
          simp only [List.take_succ_cons, List.take_zero]
          refine take_at (i := 1) (v := ?_) (.succ (.zero)) (by kernel_rfl) (by kernel_rfl) (by kernel_rfl) (fun _ _ _ h => h) (Or.inl ⟨by rfl, ?_⟩) (by assumption) ?_
          rotate_left
          focus (intro w' hSw; (try dsimp only at hSw); go_simp; try (with_reducible rfl))
          try simp only [Act.put, List.setIfInBounds_toArray, List.set_cons_zero, List.set_cons_succ]
          refine take_at (i := 2) (v := ?_) (.succ (.succ (.zero))) (by kernel_rfl) (by kernel_rfl) (by kernel_rfl) (fun _ _ _ h => h) (Or.inl ⟨by rfl, ?_⟩) (by assumption) ?_
          rotate_left
          focus (intro w' hSw; (try dsimp only at hSw); go_simp; try (with_reducible rfl))
          try simp only [Act.put, List.setIfInBounds_toArray, List.set_cons_zero, List.set_cons_succ]
          refine take_at (i := 3) (v := ?_) (.succ (.succ (.succ (.zero)))) (by kernel_rfl) (by kernel_rfl) (by kernel_rfl) (fun _ _ _ h => h) (Or.inl ⟨by rfl, ?_⟩) (by assumption) ?_
          rotate_left
          focus (intro w' hSw; (try dsimp only at hSw); go_simp; try (with_reducible rfl))
          try simp only [Act.put, List.setIfInBounds_toArray, List.set_cons_zero, List.set_cons_succ]
          refine take_at (i := 4) (v := ?_) (.succ (.succ (.succ (.succ (.zero))))) (by kernel_rfl) (by kernel_rfl) (by kernel_rfl) (fun _ _ _ h => h) (Or.inl ⟨by rfl, ?_⟩) (by assumption) ?_
          rotate_left
          focus (intro w' hSw; (try dsimp only at hSw); go_simp; try (with_reducible rfl))
          try simp only [Act.put, List.setIfInBounds_toArray, List.set_cons_zero, List.set_cons_succ]
          refine take_at (i := 6) (v := ?_) (.succ (.succ (.succ (.succ (.succ (.succ (.zero))))))) (by kernel_rfl) (by kernel_rfl) (by kernel_rfl) (fun _ _ _ h => h) (Or.inl ⟨by rfl, ?_⟩) (by assumption) ?_
          rotate_left
          focus (intro w' hSw; (try dsimp only at hSw); go_simp; try (with_reducible rfl))
          try simp only [Act.put, List.setIfInBounds_toArray, List.set_cons_zero, List.set_cons_succ]
          refine take_at (i := 9) (v := ?_) (.succ (.succ (.succ (.succ (.succ (.succ (.succ (.succ (.succ (.zero)))))))))) (by kernel_rfl) (by kernel_rfl) (by kernel_rfl) (fun _ _ _ h => h) (Or.inl ⟨by rfl, ?_⟩) (by assumption) ?_
          rotate_left
          focus (intro w' hSw; (try dsimp only at hSw); go_simp; try (with_reducible rfl))
          try simp only [Act.put, List.setIfInBounds_toArray, List.set_cons_zero, List.set_cons_succ]
          refine take_at (i := 10) (v := ?_) (.succ (.succ (.succ (.succ (.succ (.succ (.succ (.succ (.succ (.succ (.zero))))))))))) (by kernel_rfl) (by kernel_rfl) (by kernel_rfl) (fun _ _ _ h => h) (Or.inl ⟨by rfl, ?_⟩) (by assumption) ?_
          rotate_left
          focus (intro w' hSw; (try dsimp only at hSw); go_simp; try (with_reducible rfl))
          try simp only [Act.put, List.setIfInBounds_toArray, List.set_cons_zero, List.set_cons_succ]
          refine take_at (i := 11) (v := ?_) (.succ (.succ (.succ (.succ (.succ (.succ (.succ (.succ (.succ (.succ (.succ (.zero)))))))))))) (by kernel_rfl) (by kernel_rfl) (by kernel_rfl) (fun _ _ _ h => h) (Or.inl ⟨by rfl, ?_⟩) (by assumption) ?_
          rotate_left
          focus (intro w' hSw; (try dsimp only at hSw); go_simp; try (with_reducible rfl))
          try simp only [Act.put, List.setIfInBounds_toArray, List.set_cons_zero, List.set_cons_succ]
          refine take_at (i := 12) (v := ?_) (.succ (.succ (.succ (.succ (.succ (.succ (.succ (.succ (.succ (.succ (.succ (.succ (.zero))))))))))))) (by kernel_rfl) (by kernel_rfl) (by kernel_rfl) (fun _ _ _ h => h) (Or.inl ⟨by rfl, ?_⟩) (by assumption) ?_
          rotate_left
          focus (intro w' hSw; (try dsimp only at hSw); go_simp; try (with_reducible rfl))
          try simp only [Act.put, List.setIfInBounds_toArray, List.set_cons_zero, List.set_cons_succ]
          refine wpAnyH_ready (rs := [0, 7]) (by kernel_rfl) (by simp) ?_
          refine (cons_at (i := 0) .zero (fun K hK => ?_) (cons_at (i := 7) (.succ (.succ (.succ (.succ (.succ (.succ (.succ (.zero)))))))) (fun K hK => ?_) AllReadyH.nil))
          · go_simp
            refine hK.out _ _ ?_ ?_
            focus exact kp _ (by first | exact (Below.refl _ _) | exact (Below.refl _ _).alloc (by omega) _ | (repeat (first | (with_reducible exact Below.refl _ _) | (with_reducible assumption) | (with_reducible apply below_drewN) | (with_reducible apply Below.drew) | ((with_reducible refine Below.alloc ?_ ?_ _); rotate_left; focus (first | (simp; done) | (simp; omega) | omega)))))
            clear hK K hHeld
            intro hHeld
            try simp only [Act.put, List.setIfInBounds_toArray, List.set_cons_zero, List.set_cons_succ]
            refine wpAnyH_ready (rs := [5, 7]) (by kernel_rfl) (by simp) ?_
            refine (cons_at (i := 5) (.succ (.succ (.succ (.succ (.succ (.zero)))))) (fun K hK => ?_) (cons_at (i := 7) (.succ (.succ (.succ (.succ (.succ (.succ (.succ (.zero)))))))) (fun K hK => ?_) AllReadyH.nil))
            · (refine step_appCh rfl (.tmp 90) (.tmp 94) rfl WX.heap.size 0 _ [] rfl (by first | exact HOA.out | exact HOB.out | exact HOC.out) ⟨g1, 0, none⟩ j c.chs.length (xs.take (j * 2)) rfl (by rw [List.length_take, HRW.out.len]; omega) (fun j u hj => HSA.out _ (by (repeat (first | (with_reducible exact Below.refl _ _) | (with_reducible assumption) | (with_reducible apply below_drewN) | (with_reducible apply Below.drew) | ((with_reducible refine Below.setCell ?_ ?_ _); rotate_left; focus (first | (simp; done) | (simp; omega) | omega)) | ((with_reducible refine Below.alloc ?_ ?_ _); rotate_left; focus (first | (simp; done) | (simp; omega) | omega))))) j u hj) (fun u hu => HRW.out.one u (List.mem_of_mem_take hu)) (by omega) (by omega) (by first | (simp; done) | (simp; omega)) ?_; intro v1 w1' o1 gr1 at1; have b1' : Below WX.heap.size WX w1' := Below.grown (by (repeat (first | (with_reducible exact Below.refl _ _) | (with_reducible assumption) | (with_reducible apply below_drewN) | (with_reducible apply Below.drew) | ((with_reducible refine Below.setCell ?_ ?_ _); rotate_left; focus (first | (simp; done) | (simp; omega) | omega)) | ((with_reducible refine Below.alloc ?_ ?_ _); rotate_left; focus (first | (simp; done) | (simp; omega) | omega))))) gr1 (by first | (simp; done) | (simp; omega)) (fun x hx => by first | exact (HOA.out.lt x hx).1 | exact (HOB.out.lt x hx).1 | exact (HOC.out.lt x hx).1); have hz1 := b1'.size; (first | have L1 : Hid (Lies2 w1' (WX.heap.size + 1) ⟨.int .i64 x.id, .slice (some ⟨gv, 0, none⟩) 1 1, rfl, rfl⟩) := lies2_grow gr1 HLB.out (fun e => by have e' := Option.some.inj (show some (WX.heap.size + 1) = some WX.heap.size from e); omega) (by first | (simp; done) | (simp; omega)) | have L1 : Hid (Lies2 w1' WX.heap.size ⟨.int .i64 x.id, .slice (some ⟨gv, 0, none⟩) 1 1, rfl, rfl⟩) := lies2_grow gr1 HLC.out (fun e => by have e' := Option.some.inj (show some WX.heap.size = some (WX.heap.size + 1) from e); omega) (by first | (simp; done) | (simp; omega)) | skip); have H1 : Hid (World.ownsRow _ _ _ _ _ _ _) := o1; have HB2 : Hid (Below WX.heap.size WX w1') := b1'; clear o1 gr1 at1 b1')
              refine hK.out _ _ ?_ ?_
              focus exact kp _ (by first | exact HB2.out | exact HB2.out.alloc (by omega) _ | (repeat (first | (with_reducible exact Below.refl _ _) | (with_reducible assumption) | (with_reducible apply below_drewN) | (with_reducible apply Below.drew) | ((with_reducible refine Below.alloc ?_ ?_ _); rotate_left; focus (first | (simp; done) | (simp; omega) | omega)))))
              clear hK K hHeld
              intro hHeld
              try simp only [Act.put, List.setIfInBounds_toArray, List.set_cons_zero, List.set_cons_succ]
              refine wpAnyH_ready (rs := [7]) (by kernel_rfl) (by simp) ?_
              refine (cons_at (i := 7) (.succ (.succ (.succ (.succ (.succ (.succ (.succ (.zero)))))))) (fun K hK => ?_) AllReadyH.nil)
              go_simp
              refine hK.out _ _ ?_ ?_
              focus exact kp _ (by first | exact HB2.out | exact HB2.out.alloc (by omega) _ | (repeat (first | (with_reducible exact Below.refl _ _) | (with_reducible assumption) | (with_reducible apply below_drewN) | (with_reducible apply Below.drew) | ((with_reducible refine Below.alloc ?_ ?_ _); rotate_left; focus (first | (simp; done) | (simp; omega) | omega)))))
              clear hK K hHeld
              intro hHeld
              try simp only [Act.put, List.setIfInBounds_toArray, List.set_cons_zero, List.set_cons_succ]
              refine wpAnyH_ready (rs := [8]) (by kernel_rfl) (by simp) ?_
              refine (cons_at (i := 8) (.succ (.succ (.succ (.succ (.succ (.succ (.succ (.succ (.zero))))))))) (fun K hK => ?_) AllReadyH.nil)
              (refine step_appCh rfl (.tmp 95) (.tmp 97) rfl WX.heap.size (0 + j) v1 ([] ++ xs.take (j * 2)) rfl (by first | exact H1.out | exact H1.out.alloc _) _ 1 1 [.int .i64 x.id, .slice (some ⟨gv, 0, none⟩) 1 1] rfl rfl (by first | exact lies2_cells (f := ⟨.int .i64 x.id, .slice (some ⟨gv, 0, none⟩) 1 1, rfl, rfl⟩) (heap_alloc_new _ _) | exact lies2_cells (f := ⟨.int .i64 x.id, .slice (some ⟨gv, 0, none⟩) 1 1, rfl, rfl⟩) L1.out) (two_oneA _ rfl _ _ _) (by omega) (by omega) (by first | exact hz1 | (simp; omega)) ?_; intro v2 w2' o2 gr2 at2; have b2' : Below WX.heap.size WX w2' := Below.grown (by first | exact HB2.out | exact HB2.out.alloc hz1 _) gr2 (by first | exact hz1 | (simp; omega)) (fun x hx => (H1.out.lt x hx).1); have hz2 := b2'.size; have H2 : Hid (World.ownsRow _ _ _ _ _ _ _) := o2; have HB3 : Hid (Below WX.heap.size WX w2') := b2'; clear o2 gr2 at2 b2')
              refine hK.out _ _ ?_ ?_
              focus exact kp _ (by first | exact HB3.out | exact HB3.out.alloc (by omega) _ | (repeat (first | (with_reducible exact Below.refl _ _) | (with_reducible assumption) | (with_reducible apply below_drewN) | (with_reducible apply Below.drew) | ((with_reducible refine Below.alloc ?_ ?_ _); rotate_left; focus (first | (simp; done) | (simp; omega) | omega)))))
              clear hK K hHeld
              intro hHeld
              try simp only [Act.put, List.setIfInBounds_toArray, List.set_cons_zero, List.set_cons_succ]
              refine wpAnyH_ready (rs := [13]) (by kernel_rfl) (by simp) ?_
              refine (cons_at (i := 13) (.succ (.succ (.succ (.succ (.succ (.succ (.succ (.succ (.succ (.succ (.succ (.succ (.succ (.zero)))))))))))))) (fun K hK => ?_) AllReadyH.nil)
              (refine step_appCh rfl (.tmp 98) (.tmp 102) rfl WX.heap.size (0 + j + 1) v2 ([] ++ xs.take (j * 2) ++ [.int .i64 x.id, .slice (some ⟨gv, 0, none⟩) 1 1]) rfl H2.out ⟨g1, off5, none⟩ (c.chs.length - j) (c.chs.length - j) (xs.drop (j * 2)) rfl (by rw [List.length_drop, HRW.out.len]; omega) (fun j u hj => HSB.out _ HB3.out j u hj) (fun u hu => HRW.out.one u (List.mem_of_mem_drop hu)) (by omega) (by omega) hz2 ?_; intro v3 w3' o3 gr3 at3; have b3' : Below WX.heap.size WX w3' := Below.grown HB3.out gr3 hz2 (fun x hx => (H2.out.lt x hx).1); have hz3 := b3'.size; obtain ⟨g3, c3, hv3, hg3, _, _, _⟩ := rowForm o3 (by omega); subst hv3; have H3 : Hid (w3'.ownsRow WX.heap.size 67 2 (.slice (some ⟨g3, 0, none⟩) (c.chs.length + 1) c3) (c.chs.length + 1) (xs.take (j * 2) ++ [.int .i64 x.id, .slice (some ⟨gv, 0, none⟩) 1 1] ++ xs.drop (j * 2))) := (by have h := o3; rw [HNN.out, List.nil_append] at h; exact h); rw [HNN.out]; have HB4 : Hid (Below WX.heap.size WX w3') := b3'; have f4 := (b3'.cell (p := ⟨w.heap.size, 1, none⟩) hwX).trans r1; have f5 := (b3'.frozen (p := ⟨w.heap.size, 1, none⟩) hwX).trans rz1; clear o3 gr3 at3 b3')
              refine hK.out _ _ ?_ ?_
              focus exact kp _ (by first | exact HB4.out | exact HB4.out.alloc (by omega) _ | (repeat (first | (with_reducible exact Below.refl _ _) | (with_reducible assumption) | (with_reducible apply below_drewN) | (with_reducible apply Below.drew) | ((with_reducible refine Below.alloc ?_ ?_ _); rotate_left; focus (first | (simp; done) | (simp; omega) | omega)))))
              clear hK K hHeld
              intro hHeld
              try simp only [Act.put, List.setIfInBounds_toArray, List.set_cons_zero, List.set_cons_succ]
              refine take_at (i := 14) (v := ?_) (.succ (.succ (.succ (.succ (.succ (.succ (.succ (.succ (.succ (.succ (.succ (.succ (.succ (.succ (.zero))))))))))))))) (by kernel_rfl) (by kernel_rfl) (by kernel_rfl) (fun _ _ _ h => h) (Or.inl ⟨by rfl, ?_⟩) (by assumption) ?_
              rotate_left
              focus (intro w' hSw; (try dsimp only at hSw); go_simp; try (with_reducible rfl))
              try simp only [Act.put, List.setIfInBounds_toArray, List.set_cons_zero, List.set_cons_succ]
              refine wpAnyH_done (by kernel_rfl) ?_ _
              refine last_at (.succ (.succ (.succ (.succ (.succ (.succ (.succ (.succ (.succ (.succ (.succ (.succ (.succ (.succ (.succ (.zero)))))))))))))))) (fun K hK => ?_)
              go_simp
              refine hK.out _ _ ?_
              try go_wp2_with fail
              go_meet
              exact ⟨w3', g3, c3, H3.out, HB4.out, rfl⟩
            · go_simp
              refine hK.out _ _ ?_ ?_
              focus exact kp _ (by first | exact (Below.refl _ _) | exact (Below.refl _ _).alloc (by omega) _ | (repeat (first | (with_reducible exact Below.refl _ _) | (with_reducible assumption) | (with_reducible apply below_drewN) | (with_reducible apply Below.drew) | ((with_reducible refine Below.alloc ?_ ?_ _); rotate_left; focus (first | (simp; done) | (simp; omega) | omega)))))
              clear hK K hHeld
              intro hHeld
              try simp only [Act.put, List.setIfInBounds_toArray, List.set_cons_zero, List.set_cons_succ]
              refine wpAnyH_ready (rs := [5]) (by kernel_rfl) (by simp) ?_
              refine (cons_at (i := 5) (.succ (.succ (.succ (.succ (.succ (.zero)))))) (fun K hK => ?_) AllReadyH.nil)
              (refine step_appCh rfl (.tmp 90) (.tmp 94) rfl WX.heap.size 0 _ [] rfl (by first | exact HOA.out | exact HOB.out | exact HOC.out) ⟨g1, 0, none⟩ j c.chs.length (xs.take (j * 2)) rfl (by rw [List.length_take, HRW.out.len]; omega) (fun j u hj => HSA.out _ (by (repeat (first | (with_reducible exact Below.refl _ _) | (with_reducible assumption) | (with_reducible apply below_drewN) | (with_reducible apply Below.drew) | ((with_reducible refine Below.setCell ?_ ?_ _); rotate_left; focus (first | (simp; done) | (simp; omega) | omega)) | ((with_reducible refine Below.alloc ?_ ?_ _); rotate_left; focus (first | (simp; done) | (simp; omega) | omega))))) j u hj) (fun u hu => HRW.out.one u (List.mem_of_mem_take hu)) (by omega) (by omega) (by first | (simp; done) | (simp; omega)) ?_; intro v1 w1' o1 gr1 at1; have b1' : Below WX.heap.size WX w1' := Below.grown (by (repeat (first | (with_reducible exact Below.refl _ _) | (with_reducible assumption) | (with_reducible apply below_drewN) | (with_reducible apply Below.drew) | ((with_reducible refine Below.setCell ?_ ?_ _); rotate_left; focus (first | (simp; done) | (simp; omega) | omega)) | ((with_reducible refine Below.alloc ?_ ?_ _); rotate_left; focus (first | (simp; done) | (simp; omega) | omega))))) gr1 (by first | (simp; done) | (simp; omega)) (fun x hx => by first | exact (HOA.out.lt x hx).1 | exact (HOB.out.lt x hx).1 | exact (HOC.out.lt x hx).1); have hz1 := b1'.size; (first | have L1 : Hid (Lies2 w1' (WX.heap.size + 1) ⟨.int .i64 x.id, .slice (some ⟨gv, 0, none⟩) 1 1, rfl, rfl⟩) := lies2_grow gr1 HLB.out (fun e => by have e' := Option.some.inj (show some (WX.heap.size + 1) = some WX.heap.size from e); omega) (by first | (simp; done) | (simp; omega)) | have L1 : Hid (Lies2 w1' WX.heap.size ⟨.int .i64 x.id, .slice (some ⟨gv, 0, none⟩) 1 1, rfl, rfl⟩) := lies2_grow gr1 HLC.out (fun e => by have e' := Option.some.inj (show some WX.heap.size = some (WX.heap.size + 1) from e); omega) (by first | (simp; done) | (simp; omega)) | skip); have H1 : Hid (World.ownsRow _ _ _ _ _ _ _) := o1; have HB2 : Hid (Below WX.heap.size WX w1') := b1'; clear o1 gr1 at1 b1')
              refine hK.out _ _ ?_ ?_
              focus exact kp _ (by first | exact HB2.out | exact HB2.out.alloc (by omega) _ | (repeat (first | (with_reducible exact Below.refl _ _) | (with_reducible assumption) | (with_reducible apply below_drewN) | (with_reducible apply Below.drew) | ((with_reducible refine Below.alloc ?_ ?_ _); rotate_left; focus (first | (simp; done) | (simp; omega) | omega)))))
              clear hK K hHeld
              intro hHeld
              try simp only [Act.put, List.setIfInBounds_toArray, List.set_cons_zero, List.set_cons_succ]
              refine wpAnyH_ready (rs := [8]) (by kernel_rfl) (by simp) ?_
              refine (cons_at (i := 8) (.succ (.succ (.succ (.succ (.succ (.succ (.succ (.succ (.zero))))))))) (fun K hK => ?_) AllReadyH.nil)
              (refine step_appCh rfl (.tmp 95) (.tmp 97) rfl WX.heap.size (0 + j) v1 ([] ++ xs.take (j * 2)) rfl (by first | exact H1.out | exact H1.out.alloc _) _ 1 1 [.int .i64 x.id, .slice (some ⟨gv, 0, none⟩) 1 1] rfl rfl (by first | exact lies2_cells (f := ⟨.int .i64 x.id, .slice (some ⟨gv, 0, none⟩) 1 1, rfl, rfl⟩) (heap_alloc_new _ _) | exact lies2_cells (f := ⟨.int .i64 x.id, .slice (some ⟨gv, 0, none⟩) 1 1, rfl, rfl⟩) L1.out) (two_oneA _ rfl _ _ _) (by omega) (by omega) (by first | exact hz1 | (simp; omega)) ?_; intro v2 w2' o2 gr2 at2; have b2' : Below WX.heap.size WX w2' := Below.grown (by first | exact HB2.out | exact HB2.out.alloc hz1 _) gr2 (by first | exact hz1 | (simp; omega)) (fun x hx => (H1.out.lt x hx).1); have hz2 := b2'.size; have H2 : Hid (World.ownsRow _ _ _ _ _ _ _) := o2; have HB3 : Hid (Below WX.heap.size WX w2') := b2'; clear o2 gr2 at2 b2')
              refine hK.out _ _ ?_ ?_
              focus exact kp _ (by first | exact HB3.out | exact HB3.out.alloc (by omega) _ | (repeat (first | (with_reducible exact Below.refl _ _) | (with_reducible assumption) | (with_reducible apply below_drewN) | (with_reducible apply Below.drew) | ((with_reducible refine Below.alloc ?_ ?_ _); rotate_left; focus (first | (simp; done) | (simp; omega) | omega)))))
              clear hK K hHeld
              intro hHeld
              try simp only [Act.put, List.setIfInBounds_toArray, List.set_cons_zero, List.set_cons_succ]
              refine wpAnyH_ready (rs := [13]) (by kernel_rfl) (by simp) ?_
              refine (cons_at (i := 13) (.succ (.succ (.succ (.succ (.succ (.succ (.succ (.succ (.succ (.succ (.succ (.succ (.succ (.zero)))))))))))))) (fun K hK => ?_) AllReadyH.nil)
              (refine step_appCh rfl (.tmp 98) (.tmp 102) rfl WX.heap.size (0 + j + 1) v2 ([] ++ xs.take (j * 2) ++ [.int .i64 x.id, .slice (some ⟨gv, 0, none⟩) 1 1]) rfl H2.out ⟨g1, off5, none⟩ (c.chs.length - j) (c.chs.length - j) (xs.drop (j * 2)) rfl (by rw [List.length_drop, HRW.out.len]; omega) (fun j u hj => HSB.out _ HB3.out j u hj) (fun u hu => HRW.out.one u (List.mem_of_mem_drop hu)) (by omega) (by omega) hz2 ?_; intro v3 w3' o3 gr3 at3; have b3' : Below WX.heap.size WX w3' := Below.grown HB3.out gr3 hz2 (fun x hx => (H2.out.lt x hx).1); have hz3 := b3'.size; obtain ⟨g3, c3, hv3, hg3, _, _, _⟩ := rowForm o3 (by omega); subst hv3; have H3 : Hid (w3'.ownsRow WX.heap.size 67 2 (.slice (some ⟨g3, 0, none⟩) (c.chs.length + 1) c3) (c.chs.length + 1) (xs.take (j * 2) ++ [.int .i64 x.id, .slice (some ⟨gv, 0, none⟩) 1 1] ++ xs.drop (j * 2))) := (by have h := o3; rw [HNN.out, List.nil_append] at h; exact h); rw [HNN.out]; have HB4 : Hid (Below WX.heap.size WX w3') := b3'; have f4 := (b3'.cell (p := ⟨w.heap.size, 1, none⟩) hwX).trans r1; have f5 := (b3'.frozen (p := ⟨w.heap.size, 1, none⟩) hwX).trans rz1; clear o3 gr3 at3 b3')
              refine hK.out _ _ ?_ ?_
              focus exact kp _ (by first | exact HB4.out | exact HB4.out.alloc (by omega) _ | (repeat (first | (with_reducible exact Below.refl _ _) | (with_reducible assumption) | (with_reducible apply below_drewN) | (with_reducible apply Below.drew) | ((with_reducible refine Below.alloc ?_ ?_ _); rotate_left; focus (first | (simp; done) | (simp; omega) | omega)))))
              clear hK K hHeld
              intro hHeld
              try simp only [Act.put, List.setIfInBounds_toArray, List.set_cons_zero, List.set_cons_succ]
              refine take_at (i := 14) (v := ?_) (.succ (.succ (.succ (.succ (.succ (.succ (.succ (.succ (.succ (.succ (.succ (.succ (.succ (.succ (.zero))))))))))))))) (by kernel_rfl) (by kernel_rfl) (by kernel_rfl) (fun _ _ _ h => h) (Or.inl ⟨by rfl, ?_⟩) (by assumption) ?_
              rotate_left
              focus (intro w' hSw; (try dsimp only at hSw); go_simp; try (with_reducible rfl))
              try simp only [Act.put, List.setIfInBounds_toArray, List.set_cons_zero, List.set_cons_succ]
              refine wpAnyH_done (by kernel_rfl) ?_ _
              refine last_at (.succ (.succ (.succ (.succ (.succ (.succ (.succ (.succ (.succ (.succ (.succ (.succ (.succ (.succ (.succ (.zero)))))))))))))))) (fun K hK => ?_)
              go_simp
              refine hK.out _ _ ?_
              try go_wp2_with fail
              go_meet
              exact ⟨w3', g3, c3, H3.out, HB4.out, rfl⟩
          · go_simp
            refine hK.out _ _ ?_ ?_
            focus exact kp _ (by first | exact (Below.refl _ _) | exact (Below.refl _ _).alloc (by omega) _ | (repeat (first | (with_reducible exact Below.refl _ _) | (with_reducible assumption) | (with_reducible apply below_drewN) | (with_reducible apply Below.drew) | ((with_reducible refine Below.alloc ?_ ?_ _); rotate_left; focus (first | (simp; done) | (simp; omega) | omega)))))
            clear hK K hHeld
            intro hHeld
            try simp only [Act.put, List.setIfInBounds_toArray, List.set_cons_zero, List.set_cons_succ]
            refine wpAnyH_ready (rs := [0]) (by kernel_rfl) (by simp) ?_
            refine (cons_at (i := 0) .zero (fun K hK => ?_) AllReadyH.nil)
            go_simp
            refine hK.out _ _ ?_ ?_
            focus exact kp _ (by first | exact (Below.refl _ _) | exact (Below.refl _ _).alloc (by omega) _ | (repeat (first | (with_reducible exact Below.refl _ _) | (with_reducible assumption) | (with_reducible apply below_drewN) | (with_reducible apply Below.drew) | ((with_reducible refine Below.alloc ?_ ?_ _); rotate_left; focus (first | (simp; done) | (simp; omega) | omega)))))
            clear hK K hHeld
            intro hHeld
            try simp only [Act.put, List.setIfInBounds_toArray, List.set_cons_zero, List.set_cons_succ]
            refine wpAnyH_ready (rs := [5]) (by kernel_rfl) (by simp) ?_
            refine (cons_at (i := 5) (.succ (.succ (.succ (.succ (.succ (.zero)))))) (fun K hK => ?_) AllReadyH.nil)
            (refine step_appCh rfl (.tmp 90) (.tmp 94) rfl WX.heap.size 0 _ [] rfl (by first | exact HOA.out | exact HOB.out | exact HOC.out) ⟨g1, 0, none⟩ j c.chs.length (xs.take (j * 2)) rfl (by rw [List.length_take, HRW.out.len]; omega) (fun j u hj => HSA.out _ (by (repeat (first | (with_reducible exact Below.refl _ _) | (with_reducible assumption) | (with_reducible apply below_drewN) | (with_reducible apply Below.drew) | ((with_reducible refine Below.setCell ?_ ?_ _); rotate_left; focus (first | (simp; done) | (simp; omega) | omega)) | ((with_reducible refine Below.alloc ?_ ?_ _); rotate_left; focus (first | (simp; done) | (simp; omega) | omega))))) j u hj) (fun u hu => HRW.out.one u (List.mem_of_mem_take hu)) (by omega) (by omega) (by first | (simp; done) | (simp; omega)) ?_; intro v1 w1' o1 gr1 at1; have b1' : Below WX.heap.size WX w1' := Below.grown (by (repeat (first | (with_reducible exact Below.refl _ _) | (with_reducible assumption) | (with_reducible apply below_drewN) | (with_reducible apply Below.drew) | ((with_reducible refine Below.setCell ?_ ?_ _); rotate_left; focus (first | (simp; done) | (simp; omega) | omega)) | ((with_reducible refine Below.alloc ?_ ?_ _); rotate_left; focus (first | (simp; done) | (simp; omega) | omega))))) gr1 (by first | (simp; done) | (simp; omega)) (fun x hx => by first | exact (HOA.out.lt x hx).1 | exact (HOB.out.lt x hx).1 | exact (HOC.out.lt x hx).1); have hz1 := b1'.size; (first | have L1 : Hid (Lies2 w1' (WX.heap.size + 1) ⟨.int .i64 x.id, .slice (some ⟨gv, 0, none⟩) 1 1, rfl, rfl⟩) := lies2_grow gr1 HLB.out (fun e => by have e' := Option.some.inj (show some (WX.heap.size + 1) = some WX.heap.size from e); omega) (by first | (simp; done) | (simp; omega)) | have L1 : Hid (Lies2 w1' WX.heap.size ⟨.int .i64 x.id, .slice (some ⟨gv, 0, none⟩) 1 1, rfl, rfl⟩) := lies2_grow gr1 HLC.out (fun e => by have e' := Option.some.inj (show some WX.heap.size = some (WX.heap.size + 1) from e); omega) (by first | (simp; done) | (simp; omega)) | skip); have H1 : Hid (World.ownsRow _ _ _ _ _ _ _) := o1; have HB2 : Hid (Below WX.heap.size WX w1') := b1'; clear o1 gr1 at1 b1')
            refine hK.out _ _ ?_ ?_
            focus exact kp _ (by first | exact HB2.out | exact HB2.out.alloc (by omega) _ | (repeat (first | (with_reducible exact Below.refl _ _) | (with_reducible assumption) | (with_reducible apply below_drewN) | (with_reducible apply Below.drew) | ((with_reducible refine Below.alloc ?_ ?_ _); rotate_left; focus (first | (simp; done) | (simp; omega) | omega)))))
            clear hK K hHeld
            intro hHeld
            try simp only [Act.put, List.setIfInBounds_toArray, List.set_cons_zero, List.set_cons_succ]
            refine wpAnyH_ready (rs := [8]) (by kernel_rfl) (by simp) ?_
            refine (cons_at (i := 8) (.succ (.succ (.succ (.succ (.succ (.succ (.succ (.succ (.zero))))))))) (fun K hK => ?_) AllReadyH.nil)
            (refine step_appCh rfl (.tmp 95) (.tmp 97) rfl WX.heap.size (0 + j) v1 ([] ++ xs.take (j * 2)) rfl (by first | exact H1.out | exact H1.out.alloc _) _ 1 1 [.int .i64 x.id, .slice (some ⟨gv, 0, none⟩) 1 1] rfl rfl (by first | exact lies2_cells (f := ⟨.int .i64 x.id, .slice (some ⟨gv, 0, none⟩) 1 1, rfl, rfl⟩) (heap_alloc_new _ _) | exact lies2_cells (f := ⟨.int .i64 x.id, .slice (some ⟨gv, 0, none⟩) 1 1, rfl, rfl⟩) L1.out) (two_oneA _ rfl _ _ _) (by omega) (by omega) (by first | exact hz1 | (simp; omega)) ?_; intro v2 w2' o2 gr2 at2; have b2' : Below WX.heap.size WX w2' := Below.grown (by first | exact HB2.out | exact HB2.out.alloc hz1 _) gr2 (by first | exact hz1 | (simp; omega)) (fun x hx => (H1.out.lt x hx).1); have hz2 := b2'.size; have H2 : Hid (World.ownsRow _ _ _ _ _ _ _) := o2; have HB3 : Hid (Below WX.heap.size WX w2') := b2'; clear o2 gr2 at2 b2')
            refine hK.out _ _ ?_ ?_
            focus exact kp _ (by first | exact HB3.out | exact HB3.out.alloc (by omega) _ | (repeat (first | (with_reducible exact Below.refl _ _) | (with_reducible assumption) | (with_reducible apply below_drewN) | (with_reducible apply Below.drew) | ((with_reducible refine Below.alloc ?_ ?_ _); rotate_left; focus (first | (simp; done) | (simp; omega) | omega)))))
            clear hK K hHeld
            intro hHeld
            try simp only [Act.put, List.setIfInBounds_toArray, List.set_cons_zero, List.set_cons_succ]
            refine wpAnyH_ready (rs := [13]) (by kernel_rfl) (by simp) ?_
            refine (cons_at (i := 13) (.succ (.succ (.succ (.succ (.succ (.succ (.succ (.succ (.succ (.succ (.succ (.succ (.succ (.zero)))))))))))))) (fun K hK => ?_) AllReadyH.nil)
            (refine step_appCh rfl (.tmp 98) (.tmp 102) rfl WX.heap.size (0 + j + 1) v2 ([] ++ xs.take (j * 2) ++ [.int .i64 x.id, .slice (some ⟨gv, 0, none⟩) 1 1]) rfl H2.out ⟨g1, off5, none⟩ (c.chs.length - j) (c.chs.length - j) (xs.drop (j * 2)) rfl (by rw [List.length_drop, HRW.out.len]; omega) (fun j u hj => HSB.out _ HB3.out j u hj) (fun u hu => HRW.out.one u (List.mem_of_mem_drop hu)) (by omega) (by omega) hz2 ?_; intro v3 w3' o3 gr3 at3; have b3' : Below WX.heap.size WX w3' := Below.grown HB3.out gr3 hz2 (fun x hx => (H2.out.lt x hx).1); have hz3 := b3'.size; obtain ⟨g3, c3, hv3, hg3, _, _, _⟩ := rowForm o3 (by omega); subst hv3; have H3 : Hid (w3'.ownsRow WX.heap.size 67 2 (.slice (some ⟨g3, 0, none⟩) (c.chs.length + 1) c3) (c.chs.length + 1) (xs.take (j * 2) ++ [.int .i64 x.id, .slice (some ⟨gv, 0, none⟩) 1 1] ++ xs.drop (j * 2))) := (by have h := o3; rw [HNN.out, List.nil_append] at h; exact h); rw [HNN.out]; have HB4 : Hid (Below WX.heap.size WX w3') := b3'; have f4 := (b3'.cell (p := ⟨w.heap.size, 1, none⟩) hwX).trans r1; have f5 := (b3'.frozen (p := ⟨w.heap.size, 1, none⟩) hwX).trans rz1; clear o3 gr3 at3 b3')
            refine hK.out _ _ ?_ ?_
            focus exact kp _ (by first | exact HB4.out | exact HB4.out.alloc (by omega) _ | (repeat (first | (with_reducible exact Below.refl _ _) | (with_reducible assumption) | (with_reducible apply below_drewN) | (with_reducible apply Below.drew) | ((with_reducible refine Below.alloc ?_ ?_ _); rotate_left; focus (first | (simp; done) | (simp; omega) | omega)))))
            clear hK K hHeld
            intro hHeld
            try simp only [Act.put, List.setIfInBounds_toArray, List.set_cons_zero, List.set_cons_succ]
            refine take_at (i := 14) (v := ?_) (.succ (.succ (.succ (.succ (.succ (.succ (.succ (.succ (.succ (.succ (.succ (.succ (.succ (.succ (.zero))))))))))))))) (by kernel_rfl) (by kernel_rfl) (by kernel_rfl) (fun _ _ _ h => h) (Or.inl ⟨by rfl, ?_⟩) (by assumption) ?_
            rotate_left
            focus (intro w' hSw; (try dsimp only at hSw); go_simp; try (with_reducible rfl))
            try simp only [Act.put, List.setIfInBounds_toArray, List.set_cons_zero, List.set_cons_succ]
            refine wpAnyH_done (by kernel_rfl) ?_ _
            refine last_at (.succ (.succ (.succ (.succ (.succ (.succ (.succ (.succ (.succ (.succ (.succ (.succ (.succ (.succ (.succ (.zero)))))))))))))))) (fun K hK => ?_)
            go_simp
            refine hK.out _ _ ?_
            try go_wp2_with fail
            go_meet
            exact ⟨w3', g3, c3, H3.out, HB4.out, rfl⟩
        case rest =>
        obtain ⟨w3', g3, c3, ho3, hb3, rfl⟩ := hcut
        have M5 := HM4.out.next hb3
        have G5 := HG4.out.step hb3
        obtain ⟨mb, ml, mc0, mc1, mc2, mwr, ⟨r0, mr0⟩, ⟨r1', mr1⟩, ⟨r2, mr2⟩, my0⟩ := M5
        have hgX : WX.heap.size ≤ w3'.heap.size := hb3.size
        have hO9 := own_low (own_low (own_low (own_low ho3 (b := w.heap.size) (o := 1) (x := .slice (some ⟨g3, 0, none⟩) (c.chs.length + 1) c3) (by omega)) (b := w.heap.size + 2) (o := 0) (x := .string c.name) (by omega)) (b := w.heap.size + 2) (o := 1) (x := .slice (some ⟨g3, 0, none⟩) (c.chs.length + 1) c3) (by omega)) (b := w.heap.size + 2) (o := 2) (x := .slice (some ⟨g2, 0, none⟩) c.dfs.length cq) (by omega)
        have hB9 : Below w.heap.size w ((((w3'.setCell ⟨w.heap.size, 1, none⟩ (.slice (some ⟨g3, 0, none⟩) (c.chs.length + 1) c3)).setCell ⟨w.heap.size + 2, 0, none⟩ (.string c.name)).setCell ⟨w.heap.size + 2, 1, none⟩ (.slice (some ⟨g3, 0, none⟩) (c.chs.length + 1) c3)).setCell ⟨w.heap.size + 2, 2, none⟩ (.slice (some ⟨g2, 0, none⟩) c.dfs.length cq)) := (((mb.setCell (by simp) _).setCell (by show w.heap.size ≤ w.heap.size + 2; omega) _).setCell (by show w.heap.size ≤ w.heap.size + 2; omega) _).setCell (by show w.heap.size ≤ w.heap.size + 2; omega) _
        have G9 : V5 ((((w3'.setCell ⟨w.heap.size, 1, none⟩ (.slice (some ⟨g3, 0, none⟩) (c.chs.length + 1) c3)).setCell ⟨w.heap.size + 2, 0, none⟩ (.string c.name)).setCell ⟨w.heap.size + 2, 1, none⟩ (.slice (some ⟨g3, 0, none⟩) (c.chs.length + 1) c3)).setCell ⟨w.heap.size + 2, 2, none⟩ (.slice (some ⟨g2, 0, none⟩) c.dfs.length cq)) gv (verW t x) := ⟨by simpa [World.setCell] using G5.lt, by rw [set_other (by omega), set_other (by omega), set_other (by omega), set_other (by omega)]; exact G5.cb⟩
        have HR9 : Hid (RowCh _ (some ⟨g3, 0, none⟩) (c.chs.take j ++ ⟨x.id, [verW t x]⟩ :: c.chs.drop j)) := rowCh_ins hk HRW0.out.len hO9 (HRW0.out.next hB9).at_ G9.inVr
        have HD9 : Hid (RowDf _ (some ⟨g2, 0, none⟩) c.dfs) := (HR.out.next hB9).df
        have HB9 : Hid (Below _ _ _) := hB9
        have hFl := insF_len2 c.chs ⟨x.id, [verW t x]⟩ j hk
        have HFL : Hid (_ = _) := hFl
        clear hO9 hB9 G9 ho3 HM4 HG4 hFl
        go_wp2_with fail
        refine bodyPost_ret (v := .tuple #[.agg #[.string c.name, .slice (some ⟨g3, 0, none⟩) (c.chs.length + 1) c3, .slice (some ⟨g2, 0, none⟩) c.dfs.length cq], .int .i64 0]) (by simp [results, Tryz.results22, go_sem, *]) rfl ?_
        rw [HRS.out]
        exact ⟨HB9.out, some ⟨g3, 0, none⟩, some ⟨g2, 0, none⟩, c3, cq, by rw [HFL.out], HR9.out, HD9.out⟩

end Go.Proofs.YtncpijfbbgipaaaGreatDoor.Co

/- The specification's Install. -/
namespace Go.Proofs.YtncpijfbbgipaaaGreatDoor.Co
open Go.RowKit Tr
set_option linter.unusedVariables false

theorem l08Install_any (c : Col) (t : Int) (x : Wrt) (k : Nat) (b : Bool) (g1 g2 cq : Nat) (w : World) (hr : RdC w g1 g2 c) (hs : SzCol c) (hB : collB c = true) (hT : timeB t = true) (hp : PlaceC c.chs x.id k b) :
    Calls Tryz.prog 22 #[.agg #[.string c.name, .slice (some ⟨g1, 0, none⟩) c.chs.length c.chs.length, .slice (some ⟨g2, 0, none⟩) c.dfs.length cq], .int .i64 t, .agg #[.string x.coll, .int .i64 x.id, .bool x.gone, .int .i64 x.doc.k, .int .i64 x.doc.n, .string x.doc.t]] w fun e w' => InsA (insK c t x k b) w e w' := by
  cases b with
  | false => exact l08Install_new c t x k g1 g2 cq w hr hs hB hT hp
  | true =>
    obtain ⟨hk, _, _⟩ := hp.some
    by_cases h1 : t ≤ newT c.chs[k].vs
    · exact l08Install_old c t x k g1 g2 cq w hr hs hB hT hp (fun _ => h1)
    · by_cases h2 : c.chs[k].vs.length = 12
      · exact l08Install_full c t x k g1 g2 cq w hr hs hB hT hp (fun _ => ⟨h1, h2⟩)
      · exact l08Install_more c t x k g1 g2 cq w hr hs hB hT hp (fun _ => ⟨h1, h2⟩)
structure OwnP (R : Col) : Prop where
  cl : R.chs.length ≤ 1000
  cs : ∀ p ∈ R.chs, p.vs.length ≤ 1000 ∧ 0 < p.vs.length
  dl : R.dfs.length ≤ 1000
  ds : ∀ p ∈ R.dfs, p.ps.length ≤ 1000 ∧ 0 < p.ps.length
theorem insK_parts {c : Col} (hB : collB c = true) (t : Int) (x : Wrt) (k : Nat) (b : Bool) : OwnP (insK c t x k b).1 := by
  have hpt := collB_parts hB
  have hdf := collB_defs hB
  have h20 := hpt.2.2.2.1
  have hv := fun y hy => (hpt.2.2.2.2.2 y hy).2.2.1
  have hv1 := fun y hy => (hpt.2.2.2.2.2 y hy).2.1
  have hd1 := hdf.1
  have hds : ∀ p ∈ c.dfs, p.ps.length ≤ 1000 ∧ 0 < p.ps.length := fun p hp => ⟨by have := (hdf.2 p hp).2; omega, by have := (hdf.2 p hp).1; omega⟩
  have hcs : ∀ p ∈ c.chs, p.vs.length ≤ 1000 ∧ 0 < p.vs.length := fun p hp => ⟨by have := hv p hp; omega, by have := hv1 p hp; omega⟩
  unfold insK
  split
  · split
    · rename_i y hy
      have hm : y ∈ c.chs := List.mem_of_getElem? hy
      split
      · refine ⟨by simp; omega, fun p hp => ?_, by show c.dfs.length ≤ _; omega, hds⟩
        rcases List.mem_or_eq_of_mem_set hp with h | h
        · exact hcs p h
        · rw [h]; have := hcs y hm; have := hv y hm; simp; omega
      · exact ⟨by show c.chs.length ≤ _; omega, hcs, by show c.dfs.length ≤ _; omega, hds⟩
    · exact ⟨by show c.chs.length ≤ _; omega, hcs, by show c.dfs.length ≤ _; omega, hds⟩
  · refine ⟨by simp; omega, fun p hp => ?_, by show c.dfs.length ≤ _; omega, hds⟩
    rcases List.mem_append.1 hp with h | h
    · exact hcs p (List.mem_of_mem_take h)
    · rcases List.mem_cons.1 h with h | h
      · rw [h]; simp
      · exact hcs p (List.mem_of_mem_drop h)
set_option maxRecDepth 8000 in
set_option maxHeartbeats 8000000 in
theorem specInstall_any (c : Col) (t : Int) (x : Wrt) (g1 g2 : Nat) (cq : Nat) (w : World) (hr : RdC w g1 g2 c) (hs : SzCol c) (hx : SzW x) :
    Calls Tryz.prog 7 #[.agg #[.string c.name, .slice (some ⟨g1, 0, none⟩) c.chs.length c.chs.length, .slice (some ⟨g2, 0, none⟩) c.dfs.length cq], .int .i64 t, .agg #[.string x.coll, .int .i64 x.id, .bool x.gone, .int .i64 x.doc.k, .int .i64 x.doc.n, .string x.doc.t]] w fun e w' => AnsS (insR c t x) w e w' := by
  have M0 := MkI.start w (.string c.name) (.slice (some ⟨g1, 0, none⟩) c.chs.length c.chs.length) (.slice (some ⟨g2, 0, none⟩) c.dfs.length cq) (.string em) (.slice none 0 0) (.slice none 0 0) x 35 41 35
  have HC : Hid (∀ W : World, RdC W g1 g2 c → Calls _ _ _ W _) := fun W hW => specColl_any c (some ⟨g1, 0, none⟩) (some ⟨g2, 0, none⟩) c.chs.length cq W hW.ch.inCh hW.df hs
  have HW : Hid (∀ W : World, Calls _ _ _ W _) := fun W => specWrite_any x W hx
  have HT : Hid (∀ W : World, Calls _ _ _ W _) := fun W => l01In_any t 1 10000 W
  have HTB : Hid (decide (1 ≤ t ∧ t ≤ 10000) = timeB t) := rfl
  rw [HTB.out] at HT
  have HR : Hid (RdC _ _ _ _) := hr
  have HSZ : Hid (SzCol c) := hs
  clear hr hs hx HTB
  have d0 := M0.c0
  have d1 := M0.c1
  have d2 := M0.c2
  cases hB : collB c
  · have HV : Hid (insR c t x = (zCol, 1)) := insR_bad (fun h => by rw [hB] at h; simp at h)
    rw [hB] at HC
    clear hB HW HT
    go_enter Tryz.func7, Tryz.ntmps7
    go_wp2_with fail
    generalize ((w.alloc (.cells #[.string c.name, .slice (some ⟨g1, 0, none⟩) c.chs.length c.chs.length, .slice (some ⟨g2, 0, none⟩) c.dfs.length cq] 35)).alloc (.cells #[.string x.coll, .int .i64 x.id, .bool x.gone, .int .i64 x.doc.k, .int .i64 x.doc.n, .string x.doc.t] 41)).alloc (.cells #[.string em, .slice none 0 0, .slice none 0 0] 35) = W0 at M0 d0 d1 d2 ⊢
    refine (HC.out _ (HR.out.next M0.bel)).mono ?_
    rintro e w1 ⟨rfl, hb⟩
    obtain ⟨mb, ml, mc0, mc1, mc2, mwr, ⟨r0, mr0⟩, ⟨r1, mr1⟩, ⟨r2, mr2⟩, my0⟩ := M0.next hb
    clear hb
    go_wp2_with fail
    refine bodyPost_ret (v := .tuple #[.agg #[.string em, .slice none 0 0, .slice none 0 0], .int .i64 1]) (by simp [results, Tryz.results7, go_sem, *]) rfl (by rw [HV.out]; exact ansS_zero (by (repeat (first | (with_reducible exact Below.refl _ _) | (with_reducible assumption) | (with_reducible apply below_drewN) | (with_reducible apply Below.drew) | ((with_reducible refine Below.setCell ?_ ?_ _); rotate_left; focus (first | (simp; done) | (simp; omega) | omega)) | ((with_reducible refine Below.alloc ?_ ?_ _); rotate_left; focus (first | (simp; done) | (simp; omega) | omega))))) rfl)
  · rw [hB] at HC
    cases hWB : writeB x
    · have HV : Hid (insR c t x = (zCol, 1)) := insR_bad (fun h => by rw [hWB] at h; simp at h)
      rw [hWB] at HW
      clear hB hWB HT
      go_enter Tryz.func7, Tryz.ntmps7
      go_wp2_with fail
      generalize ((w.alloc (.cells #[.string c.name, .slice (some ⟨g1, 0, none⟩) c.chs.length c.chs.length, .slice (some ⟨g2, 0, none⟩) c.dfs.length cq] 35)).alloc (.cells #[.string x.coll, .int .i64 x.id, .bool x.gone, .int .i64 x.doc.k, .int .i64 x.doc.n, .string x.doc.t] 41)).alloc (.cells #[.string em, .slice none 0 0, .slice none 0 0] 35) = W0 at M0 d0 d1 d2 ⊢
      refine (HC.out _ (HR.out.next M0.bel)).mono ?_
      rintro e w1 ⟨rfl, hb⟩
      have M1 := M0.next hb
      have a0 := M1.wr.c0
      have a1 := M1.wr.c1
      have a2 := M1.wr.c2
      have a3 := M1.wr.c3
      have a4 := M1.wr.c4
      have a5 := M1.wr.c5
      clear hb M0 d0 d1 d2 HC
      go_wp2_with fail
      refine (HW.out _).mono ?_
      rintro e w2 ⟨rfl, hb⟩
      clear a0 a1 a2 a3 a4 a5
      obtain ⟨mb, ml, mc0, mc1, mc2, mwr, ⟨r0, mr0⟩, ⟨r1, mr1⟩, ⟨r2, mr2⟩, my0⟩ := M1.next hb
      clear hb
      go_wp2_with fail
      refine bodyPost_ret (v := .tuple #[.agg #[.string em, .slice none 0 0, .slice none 0 0], .int .i64 1]) (by simp [results, Tryz.results7, go_sem, *]) rfl (by rw [HV.out]; exact ansS_zero (by (repeat (first | (with_reducible exact Below.refl _ _) | (with_reducible assumption) | (with_reducible apply below_drewN) | (with_reducible apply Below.drew) | ((with_reducible refine Below.setCell ?_ ?_ _); rotate_left; focus (first | (simp; done) | (simp; omega) | omega)) | ((with_reducible refine Below.alloc ?_ ?_ _); rotate_left; focus (first | (simp; done) | (simp; omega) | omega))))) rfl)
    · rw [hWB] at HW
      cases hNM : (x.coll.toList == c.name.toList)
      · have HV : Hid (insR c t x = (zCol, 1)) := insR_bad (fun h => by rw [hNM] at h; simp at h)
        clear hB hWB HT
        go_enter Tryz.func7, Tryz.ntmps7
        go_wp2_with fail
        generalize ((w.alloc (.cells #[.string c.name, .slice (some ⟨g1, 0, none⟩) c.chs.length c.chs.length, .slice (some ⟨g2, 0, none⟩) c.dfs.length cq] 35)).alloc (.cells #[.string x.coll, .int .i64 x.id, .bool x.gone, .int .i64 x.doc.k, .int .i64 x.doc.n, .string x.doc.t] 41)).alloc (.cells #[.string em, .slice none 0 0, .slice none 0 0] 35) = W0 at M0 d0 d1 d2 ⊢
        refine (HC.out _ (HR.out.next M0.bel)).mono ?_
        rintro e w1 ⟨rfl, hb⟩
        have M1 := M0.next hb
        have a0 := M1.wr.c0
        have a1 := M1.wr.c1
        have a2 := M1.wr.c2
        have a3 := M1.wr.c3
        have a4 := M1.wr.c4
        have a5 := M1.wr.c5
        clear hb M0 d0 d1 d2 HC
        go_wp2_with fail
        refine (HW.out _).mono ?_
        rintro e w2 ⟨rfl, hb⟩
        clear a0 a1 a2 a3 a4 a5
        obtain ⟨mb, ml, mc0, mc1, mc2, ⟨mwl, mw0, mw1, mw2, mw3, mw4, mw5⟩, ⟨r0, mr0⟩, ⟨r1, mr1⟩, ⟨r2, mr2⟩, my0⟩ := M1.next hb
        clear hb
        go_wp2_with fail
        refine bodyPost_ret (v := .tuple #[.agg #[.string em, .slice none 0 0, .slice none 0 0], .int .i64 1]) (by simp [results, Tryz.results7, go_sem, *]) rfl (by rw [HV.out]; exact ansS_zero (by (repeat (first | (with_reducible exact Below.refl _ _) | (with_reducible assumption) | (with_reducible apply below_drewN) | (with_reducible apply Below.drew) | ((with_reducible refine Below.setCell ?_ ?_ _); rotate_left; focus (first | (simp; done) | (simp; omega) | omega)) | ((with_reducible refine Below.alloc ?_ ?_ _); rotate_left; focus (first | (simp; done) | (simp; omega) | omega))))) rfl)
      · cases hTM : timeB t
        · have HV : Hid (insR c t x = (zCol, 4)) := insR_time hB hWB hNM hTM
          rw [hTM] at HT
          clear hB hWB hTM
          go_enter Tryz.func7, Tryz.ntmps7
          go_wp2_with fail
          generalize ((w.alloc (.cells #[.string c.name, .slice (some ⟨g1, 0, none⟩) c.chs.length c.chs.length, .slice (some ⟨g2, 0, none⟩) c.dfs.length cq] 35)).alloc (.cells #[.string x.coll, .int .i64 x.id, .bool x.gone, .int .i64 x.doc.k, .int .i64 x.doc.n, .string x.doc.t] 41)).alloc (.cells #[.string em, .slice none 0 0, .slice none 0 0] 35) = W0 at M0 d0 d1 d2 ⊢
          refine (HC.out _ (HR.out.next M0.bel)).mono ?_
          rintro e w1 ⟨rfl, hb⟩
          have M1 := M0.next hb
          have a0 := M1.wr.c0
          have a1 := M1.wr.c1
          have a2 := M1.wr.c2
          have a3 := M1.wr.c3
          have a4 := M1.wr.c4
          have a5 := M1.wr.c5
          clear hb M0 d0 d1 d2 HC
          go_wp2_with fail
          refine (HW.out _).mono ?_
          rintro e w2 ⟨rfl, hb⟩
          have M2 := M1.next hb
          have n0 := M2.c0
          have q0 := M2.wr.c0
          clear hb M1 a0 a1 a2 a3 a4 a5
          go_wp2_with fail
          refine (HT.out _).mono ?_
          rintro e w3 ⟨rfl, rfl⟩
          have hb : True := trivial
          obtain ⟨mb, ml, mc0, mc1, mc2, mwr, ⟨r0, mr0⟩, ⟨r1, mr1⟩, ⟨r2, mr2⟩, my0⟩ := M2
          clear hb
          go_wp2_with fail
          refine bodyPost_ret (v := .tuple #[.agg #[.string em, .slice none 0 0, .slice none 0 0], .int .i64 4]) (by simp [results, Tryz.results7, go_sem, *]) rfl (by rw [HV.out]; exact ansS_zero (by (repeat (first | (with_reducible exact Below.refl _ _) | (with_reducible assumption) | (with_reducible apply below_drewN) | (with_reducible apply Below.drew) | ((with_reducible refine Below.setCell ?_ ?_ _); rotate_left; focus (first | (simp; done) | (simp; omega) | omega)) | ((with_reducible refine Below.alloc ?_ ?_ _); rotate_left; focus (first | (simp; done) | (simp; omega) | omega))))) rfl)
        · rw [hTM] at HT
          obtain ⟨k, b, hpl⟩ := place_ex c.chs (-1) (by unfold collB at hB; simp only [Bool.and_eq_true] at hB; exact hB.2.2) x.id
          have hRR := insR_at hB hWB hNM hTM hpl
          have HL : Hid (∀ W : World, RdC W g1 g2 c → Calls _ _ _ W _) := fun W hW => l08Install_any c t x k b g1 g2 cq W hW HSZ.out hB hTM hpl
          have HPA : Hid (OwnP (insK c t x k b).1) := insK_parts hB t x k b
          obtain ⟨R, hRe⟩ : ∃ R, R = insK c t x k b := ⟨_, rfl⟩
          rw [← hRe] at hRR HL HPA
          have HRR : Hid (insR c t x = R) := hRR
          clear hB hWB hTM hRR hRe hpl
          go_enter Tryz.func7, Tryz.ntmps7
          go_wp2_with fail
          generalize ((w.alloc (.cells #[.string c.name, .slice (some ⟨g1, 0, none⟩) c.chs.length c.chs.length, .slice (some ⟨g2, 0, none⟩) c.dfs.length cq] 35)).alloc (.cells #[.string x.coll, .int .i64 x.id, .bool x.gone, .int .i64 x.doc.k, .int .i64 x.doc.n, .string x.doc.t] 41)).alloc (.cells #[.string em, .slice none 0 0, .slice none 0 0] 35) = W0 at M0 d0 d1 d2 ⊢
          refine (HC.out _ (HR.out.next M0.bel)).mono ?_
          rintro e w1 ⟨rfl, hb⟩
          have M1 := M0.next hb
          have a0 := M1.wr.c0
          have a1 := M1.wr.c1
          have a2 := M1.wr.c2
          have a3 := M1.wr.c3
          have a4 := M1.wr.c4
          have a5 := M1.wr.c5
          clear hb M0 d0 d1 d2 HC
          go_wp2_with fail
          refine (HW.out _).mono ?_
          rintro e w2 ⟨rfl, hb⟩
          have M2 := M1.next hb
          have n0 := M2.c0
          have q0 := M2.wr.c0
          clear hb M1 a0 a1 a2 a3 a4 a5 HW
          go_wp2_with fail
          refine (HT.out _).mono ?_
          rintro e w3 ⟨rfl, rfl⟩
          have n1 := M2.c1
          have n2 := M2.c2
          have b1 := M2.wr.c1
          have b2 := M2.wr.c2
          have b3 := M2.wr.c3
          have b4 := M2.wr.c4
          have b5 := M2.wr.c5
          clear HT hNM
          go_wp2_with fail
          refine (HL.out _ (HR.out.next M2.bel)).mono ?_
          rintro e w4 ⟨hb4, p5, q5, c5, d5, rfl, hRC, hRD⟩
          have hbA : Below w4.heap.size w4 (w4.alloc (.cells #[.string R.1.name, .slice p5 R.1.chs.length c5, .slice q5 R.1.dfs.length d5] 35)) := (Below.refl _ _).alloc (Nat.le_refl _) _
          have M4 := (M2.next hb4).next hbA
          have HRC : Hid (RowCh _ _ _) := hRC.next hbA
          have HRD : Hid (RowDf _ _ _) := hRD.next hbA
          clear hRC hRD hbA M2 n0 n1 n2 q0 b1 b2 b3 b4 b5 HL hb4
          go_wp2_with fail
          generalize w4.alloc (.cells #[.string R.1.name, .slice p5 R.1.chs.length c5, .slice q5 R.1.dfs.length d5] 35) = W4 at M4 HRC HRD ⊢
          refine (specOwnC_any R.1.name p5 q5 c5 d5 R.1.chs R.1.dfs W4 HRC.out HRD.out HPA.out.cl HPA.out.cs HPA.out.dl HPA.out.ds).mono ?_
          rintro e w9 ⟨⟨v9, u9, mid, rfl, hm1, hm2, hCh, hDf⟩, hb9⟩
          obtain ⟨pc9, cc9, rfl⟩ := hCh.slice
          obtain ⟨pd9, cd9, rfl⟩ := hDf.slice
          have HCh : Hid (OwnChH _ _ _ _ _) := hCh
          have HDf : Hid (OwnDfH _ _ _ _ _) := hDf
          have hw4 := M4.lt
          obtain ⟨mb, ml, mc0, mc1, mc2, mwr, ⟨r0, mr0⟩, ⟨r1, mr1⟩, ⟨r2, mr2⟩, my0⟩ := M4.next hb9
          clear hCh hDf hb9 M4
          go_wp2_with fail
          refine bodyPost_ret (v := .tuple #[.agg #[.string R.1.name, .slice pc9 R.1.chs.length cc9, .slice pd9 R.1.dfs.length cd9], .int .i64 R.2]) (by simp [results, Tryz.results7, go_sem, *]) rfl ?_
          rw [HRR.out]
          refine ⟨by (repeat (first | (with_reducible exact Below.refl _ _) | (with_reducible assumption) | (with_reducible apply below_drewN) | (with_reducible apply Below.drew) | ((with_reducible refine Below.setCell ?_ ?_ _); rotate_left; focus (first | (simp; done) | (simp; omega) | omega)) | ((with_reducible refine Below.alloc ?_ ?_ _); rotate_left; focus (first | (simp; done) | (simp; omega) | omega)))), pc9, pd9, cc9, cd9, mid, w9.heap.size, rfl, by omega, hm2, by simp [World.setCell], ?_, ?_⟩
          · refine OwnChS.mono (OwnChH.set (chH_at (chH_at (chH_at HCh.out _ _ _ (by omega)) _ _ _ (by omega)) _ _ _ (by omega))) (by omega) (fun b hb => ?_)
            unfold sS; omega
          · exact dfH_at (dfH_at (dfH_at HDf.out _ _ _ (by omega)) _ _ _ (by omega)) _ _ _ (by omega)

end Go.Proofs.YtncpijfbbgipaaaGreatDoor.Co

/- The boxes of the law of Install. -/
namespace Go.Proofs.YtncpijfbbgipaaaGreatDoor.Co
open Go.RowKit Tr
set_option linter.unusedVariables false

/-- The boxes of what came in. -/
structure LwI (w W : World) (a b c : Value) (x : Wrt) : Prop where
  bx : Boxed w W a b c
  wr : BxW W (w.heap.size + 1) x
theorem LwI.start (w : World) (a b c : Value) (x : Wrt) (T T2 : TypeId) : LwI w ((w.alloc (.cells #[a, b, c] T)).alloc (.cells #[.string x.coll, .int .i64 x.id, .bool x.gone, .int .i64 x.doc.k, .int .i64 x.doc.n, .string x.doc.t] T2)) a b c x := by
  have h1 := Boxed.start w a b c T
  have h2 := BxW.new (w.alloc (.cells #[a, b, c] T)) x T2
  rw [heap_size_alloc] at h2
  exact ⟨h1.step ((Below.refl _ _).alloc (Nat.le_refl _) _), h2⟩
theorem LwI.step {w W W' : World} {a b c : Value} {x : Wrt} (h : LwI w W a b c x) (hb : Below W.heap.size W W') : LwI w W' a b c x := ⟨h.bx.step hb, h.wr.next hb⟩
theorem LwI.under {w W W' : World} {base : Nat} {a b c : Value} {x : Wrt} (h : LwI w W a b c x) (hb : Below base W W') (hlt : w.heap.size + 1 < base) : LwI w W' a b c x :=
  have hl : w.heap.size < base := by omega
  ⟨⟨h.bx.bel.trans (hb.mono (Nat.le_of_lt hl)), Nat.lt_of_lt_of_le h.bx.lt hb.size, (hb.cell hl).trans h.bx.c0, (hb.cell hl).trans h.bx.c1, (hb.cell hl).trans h.bx.c2⟩, h.wr.step hb hlt⟩
theorem keepLw {w W w0 : World} {a b c : Value} {x : Wrt} (X : LwI w W a b c x) (hb : Below W.heap.size W w0) :
    w0.cell? ⟨w.heap.size, 0, none⟩ = some a ∧ w0.cell? ⟨w.heap.size, 1, none⟩ = some b ∧ w0.cell? ⟨w.heap.size, 2, none⟩ = some c ∧ w0.cell? ⟨w.heap.size + 1, 0, none⟩ = some (.string x.coll) ∧ w0.cell? ⟨w.heap.size + 1, 1, none⟩ = some (.int .i64 x.id) ∧ w0.cell? ⟨w.heap.size + 1, 2, none⟩ = some (.bool x.gone) ∧ w0.cell? ⟨w.heap.size + 1, 3, none⟩ = some (.int .i64 x.doc.k) ∧ w0.cell? ⟨w.heap.size + 1, 4, none⟩ = some (.int .i64 x.doc.n) ∧ w0.cell? ⟨w.heap.size + 1, 5, none⟩ = some (.string x.doc.t) :=
  have Y := X.step hb
  ⟨Y.bx.c0, Y.bx.c1, Y.bx.c2, Y.wr.c0, Y.wr.c1, Y.wr.c2, Y.wr.c3, Y.wr.c4, Y.wr.c5⟩
theorem keepLa {w W w0 : World} {a b c : Value} {x : Wrt} {bx : Nat} {y0 y1 y2 : Value} (X : LwI w W a b c x) (m : bx < W.heap.size) (e0 : W.cell? ⟨bx, 0, none⟩ = some y0) (e1 : W.cell? ⟨bx, 1, none⟩ = some y1) (e2 : W.cell? ⟨bx, 2, none⟩ = some y2) (hb : Below W.heap.size W w0) :
    w0.cell? ⟨bx, 0, none⟩ = some y0 ∧ w0.cell? ⟨bx, 1, none⟩ = some y1 ∧ w0.cell? ⟨bx, 2, none⟩ = some y2 ∧ w0.cell? ⟨w.heap.size + 1, 0, none⟩ = some (.string x.coll) ∧ w0.cell? ⟨w.heap.size + 1, 1, none⟩ = some (.int .i64 x.id) ∧ w0.cell? ⟨w.heap.size + 1, 2, none⟩ = some (.bool x.gone) ∧ w0.cell? ⟨w.heap.size + 1, 3, none⟩ = some (.int .i64 x.doc.k) ∧ w0.cell? ⟨w.heap.size + 1, 4, none⟩ = some (.int .i64 x.doc.n) ∧ w0.cell? ⟨w.heap.size + 1, 5, none⟩ = some (.string x.doc.t) :=
  have Y := X.step hb
  ⟨(hb.cell m).trans e0, (hb.cell m).trans e1, (hb.cell m).trans e2, Y.wr.c0, Y.wr.c1, Y.wr.c2, Y.wr.c3, Y.wr.c4, Y.wr.c5⟩
/-- A block of an empty collection that may be written. -/
structure ZC (U : World) (b : Nat) : Prop where
  lt : b < U.heap.size
  c0 : U.cell? ⟨b, 0, none⟩ = some (.string em)
  c1 : U.cell? ⟨b, 1, none⟩ = some (.slice none 0 0)
  c2 : U.cell? ⟨b, 2, none⟩ = some (.slice none 0 0)
  z0 : U.frozen? ⟨b, 0, none⟩ = false
  z1 : U.frozen? ⟨b, 1, none⟩ = false
  z2 : U.frozen? ⟨b, 2, none⟩ = false
theorem ZC.next {U U' : World} {b : Nat} (h : ZC U b) (hb : Below U.heap.size U U') : ZC U' b :=
  ⟨Nat.lt_of_lt_of_le h.lt hb.size, (hb.cell h.lt).trans h.c0, (hb.cell h.lt).trans h.c1, (hb.cell h.lt).trans h.c2, (hb.frozen (p := ⟨b, 0, none⟩) h.lt).trans h.z0, (hb.frozen (p := ⟨b, 1, none⟩) h.lt).trans h.z1, (hb.frozen (p := ⟨b, 2, none⟩) h.lt).trans h.z2⟩
theorem zca {W w1 : World} {T : TypeId} (h : Below (W.alloc (.cells #[.string em, .slice none 0 0, .slice none 0 0] T)).heap.size (W.alloc (.cells #[.string em, .slice none 0 0, .slice none 0 0] T)) w1) : ZC w1 W.heap.size :=
  ZC.next ⟨by simp, by simp [go_sem], by simp [go_sem], by simp [go_sem], by simp [go_sem], by simp [go_sem], by simp [go_sem]⟩ h
theorem zcd {W w1 : World} {T : TypeId} (h : Below (W.drew.alloc (.cells #[.string em, .slice none 0 0, .slice none 0 0] T)).heap.size (W.drew.alloc (.cells #[.string em, .slice none 0 0, .slice none 0 0] T)) w1) : ZC w1 W.heap.size := zca (W := W.drew) h
theorem zce {W w1 : World} {T : TypeId} (h : Below (W.alloc (.cells #[.string em, .slice none 0 0, .slice none 0 0] T)).drew.heap.size (W.alloc (.cells #[.string em, .slice none 0 0, .slice none 0 0] T)).drew w1) : ZC w1 W.heap.size :=
  ZC.next (U := (W.alloc (.cells #[.string em, .slice none 0 0, .slice none 0 0] T)).drew) ⟨by simp, by simp [go_sem], by simp [go_sem], by simp [go_sem], by simp [go_sem], by simp [go_sem], by simp [go_sem]⟩ h
/-- An answer in its box. -/
structure ResS (w2 wx : World) (bs : Nat) (nm : ByteArray) (p q : Option Addr) (n m cp cq : Nat) (f : List Chn) (d : List Dfn) : Prop where
  out : ∃ lo mid hi top, BxS wx bs lo mid hi top nm p q n m cp cq f d ∧ Below w2.heap.size w2 wx ∧ w2.heap.size ≤ bs ∧ w2.heap.size ≤ lo
theorem ResS.late {w2 w5 : World} {lo mid hi : Nat} {T : TypeId} {nm : ByteArray} {p q : Option Addr} {n m cp cq : Nat} {f : List Chn} {d : List Dfn} (hB : Below w2.heap.size w2 w5) (hO : OwnChS w5 lo (sS lo mid hi w5.heap.size) (.slice p n cp) f) (hD : OwnDfH w5 mid hi (.slice q m cq) d) (h1 : w2.heap.size ≤ lo) (hl : lo ≤ mid) (hm : mid ≤ hi) (hh : hi ≤ w5.heap.size) :
    ResS w2 (w5.alloc (.cells #[.string nm, .slice p n cp, .slice q m cq] T)) w5.heap.size nm p q n m cp cq f d := by
  have hb : Below w5.heap.size w5 (w5.alloc (.cells #[.string nm, .slice p n cp, .slice q m cq] T)) := (Below.refl _ _).alloc (Nat.le_refl _) _
  exact ⟨lo, mid, hi, w5.heap.size, BxS.cells (hO.next hb) (hD.next hb) hl hm hh hb.size (.inr (Nat.le_refl _)) (by simp) (by simp [go_sem]) (by simp [go_sem]) (by simp [go_sem]), hB.trans (hb.mono hB.size), hB.size, h1⟩
theorem ResS.early {w2 w5 : World} {lo mid hi bs : Nat} {nm : ByteArray} {p q : Option Addr} {n m cp cq : Nat} {f : List Chn} {d : List Dfn} (Z : ZC w5 bs) (hB : Below w2.heap.size w2 w5) (hO : OwnChS w5 lo (sS lo mid hi w5.heap.size) (.slice p n cp) f) (hD : OwnDfH w5 mid hi (.slice q m cq) d) (h1 : w2.heap.size ≤ lo) (h2 : w2.heap.size ≤ bs) (h3 : bs < lo) (hl : lo ≤ mid) (hm : mid ≤ hi) (hh : hi ≤ w5.heap.size) :
    ResS w2 (((w5.setCell ⟨bs, 0, none⟩ (.string nm)).setCell ⟨bs, 1, none⟩ (.slice p n cp)).setCell ⟨bs, 2, none⟩ (.slice q m cq)) bs nm p q n m cp cq f d := by
  have hz : (((w5.setCell ⟨bs, 0, none⟩ (.string nm)).setCell ⟨bs, 1, none⟩ (.slice p n cp)).setCell ⟨bs, 2, none⟩ (.slice q m cq)).heap.size = w5.heap.size := by simp [World.setCell]
  obtain ⟨zl, z0, z1, z2, _, _, _⟩ := Z
  exact ⟨lo, mid, hi, w5.heap.size, BxS.cells (((hO.low h3).low h3).low h3) (dfH_at (dfH_at (dfH_at hD _ _ _ (by omega)) _ _ _ (by omega)) _ _ _ (by omega)) hl hm hh (by rw [hz]; exact Nat.le_refl _) (.inl h3) (by rw [hz]; exact zl) (by simp [go_sem, *]) (by simp [go_sem, *]) (by simp [go_sem, *]), ((hB.setCell h2 _).setCell h2 _).setCell h2 _, h2, h1⟩

end Go.Proofs.YtncpijfbbgipaaaGreatDoor.Co

/- The law's own walk of Install. -/
namespace Go.Proofs.YtncpijfbbgipaaaGreatDoor.CollInsf
open Go.RowKit Tr Co
set_option linter.unusedVariables false

set_option maxRecDepth 8000 in
set_option maxHeartbeats 8000000 in
theorem walk (c : Col) (p q : Option Addr) (cp cq : Nat) (hm : MaxCol c) (t : Int) {P : Prop} (wid : P) (x : Wrt) (hmw : MaxW x) (w : World) (hin : InCol w p q c) :
    Calls Tryz.prog 3 #[.agg #[.string c.name, .slice p c.chs.length cp, .slice q c.dfs.length cq], .int .i64 t, .agg #[.string x.coll, .int .i64 x.id, .bool x.gone, .int .i64 x.doc.k, .int .i64 x.doc.n, .string x.doc.t]] w fun e w' => e = .returned (.bool true) ∧ Below w.heap.size w w' := by
  have X0 := LwI.start w (.string c.name) (.slice p c.chs.length cp) (.slice q c.dfs.length cq) x 25 29
  have HIN : Hid (InCol w p q c) := hin
  have HZ : Hid (∀ W : World, InCol W p q c → Calls _ _ _ W _) := fun W hW => szColl_at c p q cp cq 1048576 W hW hm (by omega) (by omega)
  have HMW : Hid (MaxW x) := hmw
  have d0 := X0.bx.c0
  have d1 := X0.bx.c1
  have d2 := X0.bx.c2
  clear hin hm wid hmw
  go_enter Tryz.func3, Tryz.ntmps3
  go_wp2_with fail
  generalize (w.alloc (.cells #[.string c.name, .slice p c.chs.length cp, .slice q c.dfs.length cq] 25)).alloc (.cells #[.string x.coll, .int .i64 x.id, .bool x.gone, .int .i64 x.doc.k, .int .i64 x.doc.n, .string x.doc.t] 29) = W0 at X0 d0 d1 d2 ⊢
  refine (HZ.out _ (HIN.out.step X0.bx.bel)).mono ?_
  rintro e w1 ⟨⟨r, rfl, hr⟩, hb⟩
  have X1 := X0.step hb
  clear hb HZ X0 d0 d1 d2
  rcases hr with hneg | ⟨hr0, hr1, hsz⟩
  · have hbw := X1.bx.bel
    go_wp2_with fail
    go_ret
    exact ⟨rfl, hbw⟩
  have hnn : ¬ r < 0 := by omega
  have HSZ : Hid (SzCol c) := hsz
  have HTO : Hid (∀ W : World, InCol W p q c → Calls _ _ _ W _) := fun W hW => toColl_any c p q cp cq W hW hsz
  have HZW : Hid (∀ W : World, Calls _ _ _ W _) := fun W => szWrite_any x r W HMW.out hr0 (by omega)
  have u0 := X1.wr.c0
  have u1 := X1.wr.c1
  have u2 := X1.wr.c2
  have u3 := X1.wr.c3
  have u4 := X1.wr.c4
  have u5 := X1.wr.c5
  clear hsz hr1 HMW
  go_wp2_with fail
  refine (HZW.out _).mono ?_
  rintro e w2 ⟨⟨r2, rfl, hr2⟩, hb⟩
  have X2 := X1.step hb
  clear hb HZW X1 u0 u1 u2 u3 u4 u5
  rcases hr2 with hneg | ⟨hs0, hs1, hszw⟩
  · have hbw := X2.bx.bel
    go_wp2_with fail
    go_ret
    exact ⟨rfl, hbw⟩
  have hnn2 : ¬ r2 < 0 := by omega
  have HS : Hid (∀ (g h : Nat) (W : World), RdC W g h c → Calls Tryz.prog 7 #[.agg #[.string c.name, .slice (some ⟨g, 0, none⟩) c.chs.length c.chs.length, .slice (some ⟨h, 0, none⟩) c.dfs.length c.dfs.length], .int .i64 t, .agg #[.string x.coll, .int .i64 x.id, .bool x.gone, .int .i64 x.doc.k, .int .i64 x.doc.n, .string x.doc.t]] W fun e w' => AnsS (insR c t x) W e w') := fun g h W hW => specInstall_any c t x g h c.dfs.length W hW HSZ.out hszw
  have HI : Hid (∀ (g h : Nat) (W : World), RdC W g h c → Calls Tryz.prog 10 #[.agg #[.string c.name, .slice (some ⟨g, 0, none⟩) c.chs.length c.chs.length, .slice (some ⟨h, 0, none⟩) c.dfs.length c.dfs.length], .int .i64 t, .agg #[.string x.coll, .int .i64 x.id, .bool x.gone, .int .i64 x.doc.k, .int .i64 x.doc.n, .string x.doc.t]] W fun e w' => AnsS (insR c t x) W e w') := fun g h W hW => install_any c t x g h c.chs.length c.dfs.length W hW HSZ.out hszw
  have hsm := insR_small c t x
  obtain ⟨⟨R, code⟩, hL⟩ : ∃ L, L = insR c t x := ⟨_, rfl⟩
  rw [← hL] at HS HI hsm
  obtain ⟨rn, rc, rd⟩ := R
  simp only at hsm
  have HSM : Hid (SmCol ⟨rn, rc, rd⟩) := hsm
  have HSC : Hid (SmCol ⟨c.name, c.chs, c.dfs⟩) := ⟨HSZ.out.chl, HSZ.out.vs, HSZ.out.dfl, HSZ.out.ps⟩
  have hl2 := X2.wr.lt
  clear hL hsm hszw hs1
  go_wp2_with fail
  go_cut [8, 9] (fun sa sb wx => ∃ bs ps qs cps cqs, sa = .pointer (some ⟨bs, 0, none⟩) ∧ sb = .int .i64 code ∧ ResS w2 wx bs rn ps qs rc.length rd.length cps cqs rc rd)
  case first =>
    go_region_held3 (fun w0 => w0.cell? ⟨w.heap.size, 0, none⟩ = some (.string c.name) ∧ w0.cell? ⟨w.heap.size, 1, none⟩ = some (.slice p c.chs.length cp) ∧ w0.cell? ⟨w.heap.size, 2, none⟩ = some (.slice q c.dfs.length cq) ∧ w0.cell? ⟨w.heap.size + 1, 0, none⟩ = some (.string x.coll) ∧ w0.cell? ⟨w.heap.size + 1, 1, none⟩ = some (.int .i64 x.id) ∧ w0.cell? ⟨w.heap.size + 1, 2, none⟩ = some (.bool x.gone) ∧ w0.cell? ⟨w.heap.size + 1, 3, none⟩ = some (.int .i64 x.doc.k) ∧ w0.cell? ⟨w.heap.size + 1, 4, none⟩ = some (.int .i64 x.doc.n) ∧ w0.cell? ⟨w.heap.size + 1, 5, none⟩ = some (.string x.doc.t)) ((refine keepLw X2 ?_; (repeat (first | (with_reducible exact Below.refl _ _) | (with_reducible assumption) | (with_reducible apply below_drewN) | (with_reducible apply Below.drew) | ((with_reducible refine Below.setCell ?_ ?_ _); rotate_left; focus (first | (simp; done) | (simp; omega) | omega)) | ((with_reducible refine Below.alloc ?_ ?_ _); rotate_left; focus (first | (simp; done) | (simp; omega) | omega)))))) (first | (go_at_call 8; refine (HTO.out _ (HIN.out.step (X2.bx.bel.trans ((show Below w2.heap.size w2 _ by (repeat (first | (with_reducible exact Below.refl _ _) | (with_reducible assumption) | (with_reducible apply below_drewN) | (with_reducible apply Below.drew) | ((with_reducible refine Below.setCell ?_ ?_ _); rotate_left; focus (first | (simp; done) | (simp; omega) | omega)) | ((with_reducible refine Below.alloc ?_ ?_ _); rotate_left; focus (first | (simp; done) | (simp; omega) | omega))))).mono X2.bx.bel.size)))).mono ?_; rintro e w3 ⟨⟨g3, h3, mid3, rfl, O3, P3, m3a, m3b⟩, hb⟩; have hB3 : Below w2.heap.size w2 w3 := (show Below w2.heap.size w2 _ by (repeat (first | (with_reducible exact Below.refl _ _) | (with_reducible assumption) | (with_reducible apply below_drewN) | (with_reducible apply Below.drew) | ((with_reducible refine Below.setCell ?_ ?_ _); rotate_left; focus (first | (simp; done) | (simp; omega) | omega)) | ((with_reducible refine Below.alloc ?_ ?_ _); rotate_left; focus (first | (simp; done) | (simp; omega) | omega))))).trans (hb.mono (by simp)); have hzB3 := hB3.size; (try with_reducible have Z3 := zca (W := w2) hb); (try with_reducible have Z3 := zcd (W := w2) hb); (try with_reducible have Z3 := zce (W := w2) hb); have HO3 : Hid (RdC _ _ _ _) := rdC_of O3 P3; clear hb O3 P3 m3a m3b) | (go_at_call 9; refine (toWrite_any x _).mono ?_; rintro e w4 ⟨rfl, hb⟩; have hB34 : Below w3.heap.size w3 w4 := (show Below w3.heap.size w3 _ by (repeat (first | (with_reducible exact Below.refl _ _) | (with_reducible assumption) | (with_reducible apply below_drewN) | (with_reducible apply Below.drew) | ((with_reducible refine Below.setCell ?_ ?_ _); rotate_left; focus (first | (simp; done) | (simp; omega) | omega)) | ((with_reducible refine Below.alloc ?_ ?_ _); rotate_left; focus (first | (simp; done) | (simp; omega) | omega))))).trans (hb.mono (by simp)); have hB4 : Below w2.heap.size w2 w4 := hB3.trans (hB34.mono hB3.size); have hzB4 := hB4.size; have hzB34 := hB34.size; (try with_reducible have Z4 := zca (W := w3) hb); (try with_reducible have Z4 := Z3.next hb); have HO4 : Hid (RdC _ _ _ _) := HO3.out.next hB34; clear hb hB34) | (go_at_call 7; refine (HS.out _ _ _ (HO4.out.next (by (repeat (first | (with_reducible exact Below.refl _ _) | (with_reducible assumption) | (with_reducible apply below_drewN) | (with_reducible apply Below.drew) | ((with_reducible refine Below.setCell ?_ ?_ _); rotate_left; focus (first | (simp; done) | (simp; omega) | omega)) | ((with_reducible refine Below.alloc ?_ ?_ _); rotate_left; focus (first | (simp; done) | (simp; omega) | omega))))))).mono ?_; rintro e w5 ⟨hb, ps5, qs5, cps5, cqs5, ms5, hs5, rfl, k1, k2, k3, OC5, OD5⟩; have hB45 : Below w4.heap.size w4 w5 := (show Below w4.heap.size w4 _ by (repeat (first | (with_reducible exact Below.refl _ _) | (with_reducible assumption) | (with_reducible apply below_drewN) | (with_reducible apply Below.drew) | ((with_reducible refine Below.setCell ?_ ?_ _); rotate_left; focus (first | (simp; done) | (simp; omega) | omega)) | ((with_reducible refine Below.alloc ?_ ?_ _); rotate_left; focus (first | (simp; done) | (simp; omega) | omega))))).trans (hb.mono (by simp)); have hB5 := hB4.trans (hB45.mono hB4.size); have hzB5 := hB5.size; have hzB45 := hB45.size; (try with_reducible have Z5 := zca (W := w4) hb); (try with_reducible have Z5 := zcd (W := w4) hb); (try with_reducible have Z5 := Z4.next hb); (try (have qz0 := Z5.c0; have qz1 := Z5.c1; have qz2 := Z5.c2; have qz3 := Z5.z0; have qz4 := Z5.z1; have qz5 := Z5.z2; have qz6 := Z5.lt)); have HC5 : Hid (OwnChS _ _ _ _ _) := OC5; have HD5 : Hid (OwnDfH _ _ _ _ _) := OD5; clear hb OC5 OD5 hB45))
    all_goals
      try go_wp2_with fail
      go_meet
      refine ⟨_, ps5, qs5, cps5, cqs5, rfl, rfl, ?_⟩
      first
        | (refine ResS.late hB5 HC5.out HD5.out ?_ k1 k2 k3; (first | omega | (simp; done) | (simp; omega)))
        | (have hz4 := Z4.lt; refine ResS.early Z5 hB5 HC5.out HD5.out ?_ ?_ ?_ k1 k2 k3 <;> (first | omega | (simp; done) | (simp; omega)))
        | (refine ResS.early Z5 hB5 HC5.out HD5.out ?_ ?_ ?_ k1 k2 k3 <;> (first | omega | (simp; done) | (simp; omega)))
  case rest =>
  obtain ⟨bs, ps, qs, cps, cqs, rfl, rfl, ⟨ls, ms, hs, ts, S3, hbS, hbs1, hls1⟩⟩ := hcut
  obtain ⟨w3, rfl⟩ : ∃ w3, w3 = wc := ⟨_, rfl⟩
  have X3 := X2.step hbS
  have hS1 : bs < w3.heap.size := S3.lt
  have hS2 : ts ≤ w3.heap.size := S3.hs
  clear X2 hbS
  have c0 := X3.bx.c0
  have c1 := X3.bx.c1
  have c2 := X3.bx.c2
  go_wp2_with fail
  refine (HTO.out _ (HIN.out.step X3.bx.bel)).mono ?_
  rintro e w4 ⟨⟨g4, h4, mid4, rfl, O4, P4, m4a, m4b⟩, hb⟩
  have hbA : Below w4.heap.size w4 (w4.alloc (.cells #[.string c.name, .slice (some ⟨g4, 0, none⟩) c.chs.length c.chs.length, .slice (some ⟨h4, 0, none⟩) c.dfs.length c.dfs.length] 35)) := (Below.refl _ _).alloc (Nat.le_refl _) _
  have X5 := (X3.step hb).step hbA
  have S5 := (S3.next hb).next hbA
  have A5 := BxC.made (nm := c.name) O4 P4 m4a m4b (Nat.le_refl _) 35
  clear hb X3 S3 O4 P4 hbA c0 c1 c2 m4a m4b
  go_wp2_with fail
  generalize w4.alloc (.cells #[.string c.name, .slice (some ⟨g4, 0, none⟩) c.chs.length c.chs.length, .slice (some ⟨h4, 0, none⟩) c.dfs.length c.dfs.length] 35) = w5 at X5 S5 A5 ⊢
  obtain ⟨bx, hbx⟩ : ∃ bx, bx = w4.heap.size := ⟨_, rfl⟩
  obtain ⟨lx, hlx⟩ : ∃ lx, lx = w3.heap.size := ⟨_, rfl⟩
  rw [← hbx, ← hlx] at A5
  rw [← hlx] at hS1 hS2
  try rw [← hbx]
  clear hbx hlx
  have hA1 : lx ≤ bx := Nat.le_trans A5.lm A5.mh
  have hAl := A5.lt
  go_cut [11, 12] (fun sa sb wx => ∃ bs ps qs cps cqs, sa = .pointer (some ⟨bs, 0, none⟩) ∧ sb = .int .i64 code ∧ ResS w5 wx bs rn ps qs rc.length rd.length cps cqs rc rd)
  case first =>
    go_region_held3 (fun w0 => w0.cell? ⟨bx, 0, none⟩ = some (.string c.name) ∧ w0.cell? ⟨bx, 1, none⟩ = some (.slice (some ⟨g4, 0, none⟩) c.chs.length c.chs.length) ∧ w0.cell? ⟨bx, 2, none⟩ = some (.slice (some ⟨h4, 0, none⟩) c.dfs.length c.dfs.length) ∧ w0.cell? ⟨w.heap.size + 1, 0, none⟩ = some (.string x.coll) ∧ w0.cell? ⟨w.heap.size + 1, 1, none⟩ = some (.int .i64 x.id) ∧ w0.cell? ⟨w.heap.size + 1, 2, none⟩ = some (.bool x.gone) ∧ w0.cell? ⟨w.heap.size + 1, 3, none⟩ = some (.int .i64 x.doc.k) ∧ w0.cell? ⟨w.heap.size + 1, 4, none⟩ = some (.int .i64 x.doc.n) ∧ w0.cell? ⟨w.heap.size + 1, 5, none⟩ = some (.string x.doc.t)) ((refine keepLa X5 A5.lt A5.c0 A5.c1 A5.c2 ?_; (repeat (first | (with_reducible exact Below.refl _ _) | (with_reducible assumption) | (with_reducible apply below_drewN) | (with_reducible apply Below.drew) | ((with_reducible refine Below.setCell ?_ ?_ _); rotate_left; focus (first | (simp; done) | (simp; omega) | omega)) | ((with_reducible refine Below.alloc ?_ ?_ _); rotate_left; focus (first | (simp; done) | (simp; omega) | omega)))))) (first | (go_at_call 9; refine (toWrite_any x _).mono ?_; rintro e w4 ⟨rfl, hb⟩; have hB4 : Below w5.heap.size w5 w4 := (show Below w5.heap.size w5 _ by (repeat (first | (with_reducible exact Below.refl _ _) | (with_reducible assumption) | (with_reducible apply below_drewN) | (with_reducible apply Below.drew) | ((with_reducible refine Below.setCell ?_ ?_ _); rotate_left; focus (first | (simp; done) | (simp; omega) | omega)) | ((with_reducible refine Below.alloc ?_ ?_ _); rotate_left; focus (first | (simp; done) | (simp; omega) | omega))))).trans (hb.mono (by simp)); have hzB4 := hB4.size; (try with_reducible have Z4 := zca (W := w5) hb); (try with_reducible have Z4 := zcd (W := w5) hb); (try with_reducible have Z4 := zce (W := w5) hb); have HO4 : Hid (RdC _ _ _ _) := A5.rd.next hB4; clear hb) | (go_at_call 10; refine (HI.out _ _ _ (HO4.out.next (by (repeat (first | (with_reducible exact Below.refl _ _) | (with_reducible assumption) | (with_reducible apply below_drewN) | (with_reducible apply Below.drew) | ((with_reducible refine Below.setCell ?_ ?_ _); rotate_left; focus (first | (simp; done) | (simp; omega) | omega)) | ((with_reducible refine Below.alloc ?_ ?_ _); rotate_left; focus (first | (simp; done) | (simp; omega) | omega))))))).mono ?_; rintro e w5 ⟨hb, ps5, qs5, cps5, cqs5, ms5, hs5, rfl, k1, k2, k3, OC5, OD5⟩; have hB45 : Below w4.heap.size w4 w5 := (show Below w4.heap.size w4 _ by (repeat (first | (with_reducible exact Below.refl _ _) | (with_reducible assumption) | (with_reducible apply below_drewN) | (with_reducible apply Below.drew) | ((with_reducible refine Below.setCell ?_ ?_ _); rotate_left; focus (first | (simp; done) | (simp; omega) | omega)) | ((with_reducible refine Below.alloc ?_ ?_ _); rotate_left; focus (first | (simp; done) | (simp; omega) | omega))))).trans (hb.mono (by simp)); have hB5 := hB4.trans (hB45.mono hB4.size); have hzB5 := hB5.size; have hzB45 := hB45.size; (try with_reducible have Z5 := zca (W := w4) hb); (try with_reducible have Z5 := zcd (W := w4) hb); (try with_reducible have Z5 := Z4.next hb); (try (have qz0 := Z5.c0; have qz1 := Z5.c1; have qz2 := Z5.c2; have qz3 := Z5.z0; have qz4 := Z5.z1; have qz5 := Z5.z2; have qz6 := Z5.lt)); have HC5 : Hid (OwnChS _ _ _ _ _) := OC5; have HD5 : Hid (OwnDfH _ _ _ _ _) := OD5; clear hb OC5 OD5 hB45))
    all_goals
      try go_wp2_with fail
      go_meet
      refine ⟨_, ps5, qs5, cps5, cqs5, rfl, rfl, ?_⟩
      first
        | (refine ResS.late hB5 HC5.out HD5.out ?_ k1 k2 k3; (first | omega | (simp; done) | (simp; omega)))
        | (have hz4 := Z4.lt; refine ResS.early Z5 hB5 HC5.out HD5.out ?_ ?_ ?_ k1 k2 k3 <;> (first | omega | (simp; done) | (simp; omega)))
        | (refine ResS.early Z5 hB5 HC5.out HD5.out ?_ ?_ ?_ k1 k2 k3 <;> (first | omega | (simp; done) | (simp; omega)))
  case rest =>
  obtain ⟨bg, pg, qg, cpg, cqg, rfl, rfl, ⟨lg, mg, hg, tg, G6', hbG, hbg1, hlg1⟩⟩ := hcut
  obtain ⟨w6', rfl⟩ : ∃ w6', w6' = wc := ⟨_, rfl⟩
  have X6' := X5.step hbG
  have S6' := S5.next hbG
  have A6' := A5.next hbG
  clear X5 S5 A5 hbG
  have hbxl : bx < lg := by omega
  have hbxg : bx < bg := by omega
  have a0 := G6'.c0
  have a1 := G6'.c1
  have a2 := G6'.c2
  have b0 := S6'.c0
  have b1 := S6'.c1
  have b2 := S6'.c2
  go_wp2_with fail
  refine (G6'.eqc S6' rfl rfl rfl rfl HSM.out).mono ?_
  rintro e w7 ⟨rfl, hb⟩
  have X7 := X6'.step hb
  have S7 := S6'.next hb
  have A7 := A6'.next hb
  have G7 := G6'.next hb
  have HA7 : Hid (BxC _ _ _ _ _ _ _ _ _ _ _ _ _ _) := A7
  have HS7 : Hid (BxS _ _ _ _ _ _ _ _ _ _ _ _ _ _ _) := S7
  have HG7 : Hid (BxS _ _ _ _ _ _ _ _ _ _ _ _ _ _ _) := G7
  clear hb X6' S6' A6' G6' a0 a1 a2 b0 b1 b2 S7 G7
  go_wp2_with fail
  go_region_held3 (fun w0 => w0.cell? ⟨w.heap.size, 0, none⟩ = some (.string c.name) ∧ w0.cell? ⟨w.heap.size, 1, none⟩ = some (.slice p c.chs.length cp) ∧ w0.cell? ⟨w.heap.size, 2, none⟩ = some (.slice q c.dfs.length cq) ∧ w0.cell? ⟨bx, 0, none⟩ = some (.string c.name) ∧ w0.cell? ⟨bx, 1, none⟩ = some (.slice (some ⟨g4, 0, none⟩) c.chs.length c.chs.length) ∧ w0.cell? ⟨bx, 2, none⟩ = some (.slice (some ⟨h4, 0, none⟩) c.dfs.length c.dfs.length)) ((refine keepC X7.bx A7.lt A7.c0 A7.c1 A7.c2 ?_; (repeat (first | (with_reducible exact Below.refl _ _) | (with_reducible assumption) | (with_reducible apply below_drewN) | (with_reducible apply Below.drew) | ((with_reducible refine Below.setCell ?_ ?_ _); rotate_left; focus (first | (simp; done) | (simp; omega) | omega)) | ((with_reducible refine Below.alloc ?_ ?_ _); rotate_left; focus (first | (simp; done) | (simp; omega) | omega)))))) (first | (go_at_call 8; refine (HTO.out _ (HIN.out.step (X7.bx.bel.trans ((show Below w7.heap.size w7 _ by (repeat (first | (with_reducible exact Below.refl _ _) | (with_reducible assumption) | (with_reducible apply below_drewN) | (with_reducible apply Below.drew) | ((with_reducible refine Below.setCell ?_ ?_ _); rotate_left; focus (first | (simp; done) | (simp; omega) | omega)) | ((with_reducible refine Below.alloc ?_ ?_ _); rotate_left; focus (first | (simp; done) | (simp; omega) | omega))))).mono X7.bx.bel.size)))).mono ?_; rintro e w8 ⟨⟨g8, h8, mid8, rfl, O8, P8, m8a, m8b⟩, hb⟩; have hB8 : Below w7.heap.size w7 w8 := (show Below w7.heap.size w7 _ by (repeat (first | (with_reducible exact Below.refl _ _) | (with_reducible assumption) | (with_reducible apply below_drewN) | (with_reducible apply Below.drew) | ((with_reducible refine Below.setCell ?_ ?_ _); rotate_left; focus (first | (simp; done) | (simp; omega) | omega)) | ((with_reducible refine Below.alloc ?_ ?_ _); rotate_left; focus (first | (simp; done) | (simp; omega) | omega))))).trans (hb.mono (by simp)); have HO8 : Hid (RdCol w8 g8 h8 c) := rdCol_of O8 P8; clear hb O8 P8 m8a m8b) | (go_at_call 11; refine (eqColl_same c.name _ _ _ _ _ _ _ _ c.chs c.dfs _ (HA7.out.next hB8).ch.row HO8.out.ch (HA7.out.next hB8).df.row HO8.out.df HSZ.out.chl HSZ.out.vs HSZ.out.dfl HSZ.out.ps).mono ?_; rintro e w9 ⟨rfl, hb⟩; have hB9 : Below w7.heap.size w7 w9 := hB8.trans (hb.mono hB8.size); clear hb))
  have X9 := X7.step hB9
  have S9 := HS7.out.next hB9
  have A9 := HA7.out.next hB9
  have G9 := HG7.out.next hB9
  clear hB8 hB9 HO8 X7 HS7 A7 HA7 HG7
  have a0 := A9.c0
  have a1 := A9.c1
  have a2 := A9.c2
  go_wp2_with fail
  refine (A9.mark HSC.out).mono ?_
  rintro e w10 ⟨rfl, _, hc⟩
  obtain ⟨E, hE⟩ : ∃ E, E = endC c.chs c.dfs := ⟨_, rfl⟩
  rw [← hE]
  have hE0 : ¬ ((E : Nat) : Int) < 0 := by omega
  have hlx : lx ≤ w9.heap.size := Nat.le_trans A9.lm (Nat.le_trans A9.mh A9.hs)
  have X10 := X9.under (hc.below (Nat.le_refl _) hlx) (by omega)
  have S10 := S9.chg hc (by omega) (by omega)
  have G10 := G9.chg hc (by omega) (by omega)
  clear hE hc X9 S9 G9 A9 a0 a1 a2
  have a0 := G10.c0
  have a1 := G10.c1
  have a2 := G10.c2
  have b0 := S10.c0
  have b1 := S10.c1
  have b2 := S10.c2
  go_wp2_with fail
  refine (G10.eqc S10 rfl rfl rfl rfl HSM.out).mono ?_
  rintro e w11 ⟨rfl, hb⟩
  have X11 := X10.step hb
  have S11 := S10.next hb
  have G11 := G10.next hb
  clear hb X10 S10 G10 a0 a1 a2 b0 b1 b2
  have a0 := G11.c0
  have a1 := G11.c1
  have a2 := G11.c2
  go_wp2_with fail
  refine (G11.mark HSM.out).mono ?_
  rintro e w12 ⟨rfl, G12, hc⟩
  obtain ⟨F, hF⟩ : ∃ F, F = endC rc rd := ⟨_, rfl⟩
  have HF : Hid (F = endC rc rd) := hF
  rw [← hF]
  have hF0 : ¬ ((F : Nat) : Int) < 0 := by omega
  have hlg2 : lg ≤ w11.heap.size := Nat.le_trans G11.lm (Nat.le_trans G11.mh (Nat.le_trans G11.ht G11.hs))
  have X12 := X11.under (hc.below (Nat.le_refl _) hlg2) (by omega)
  have S12 := S11.chg hc (by omega) (by omega)
  clear hF hc X11 S11 G11 a0 a1 a2
  have a0 := G12.c0
  have a1 := G12.c1
  have a2 := G12.c2
  go_wp2_with fail
  refine (G12.held rfl rfl HSM.out).mono ?_
  rintro e w13 ⟨rfl, hb⟩
  rw [← HF.out]
  have X13 := X12.step hb
  have S13 := S12.next hb
  have G13 := G12.next hb
  have HS13 : Hid (BxS _ _ _ _ _ _ _ _ _ _ _ _ _ _ _) := S13
  have HG13 : Hid (BxS _ _ _ _ _ _ _ _ _ _ _ _ _ _ _) := G13
  clear hb X12 S12 G12 a0 a1 a2 S13 G13
  go_wp2_with fail
  go_cut [16, 17] (fun sa sb wx => ∃ bs ps qs cps cqs, sa = .pointer (some ⟨bs, 0, none⟩) ∧ sb = .int .i64 code ∧ ResS w13 wx bs rn ps qs rc.length rd.length cps cqs rc rd)
  case first =>
    go_region_held3 (fun w0 => w0.cell? ⟨w.heap.size, 0, none⟩ = some (.string c.name) ∧ w0.cell? ⟨w.heap.size, 1, none⟩ = some (.slice p c.chs.length cp) ∧ w0.cell? ⟨w.heap.size, 2, none⟩ = some (.slice q c.dfs.length cq) ∧ w0.cell? ⟨w.heap.size + 1, 0, none⟩ = some (.string x.coll) ∧ w0.cell? ⟨w.heap.size + 1, 1, none⟩ = some (.int .i64 x.id) ∧ w0.cell? ⟨w.heap.size + 1, 2, none⟩ = some (.bool x.gone) ∧ w0.cell? ⟨w.heap.size + 1, 3, none⟩ = some (.int .i64 x.doc.k) ∧ w0.cell? ⟨w.heap.size + 1, 4, none⟩ = some (.int .i64 x.doc.n) ∧ w0.cell? ⟨w.heap.size + 1, 5, none⟩ = some (.string x.doc.t)) ((refine keepLw X13 ?_; (repeat (first | (with_reducible exact Below.refl _ _) | (with_reducible assumption) | (with_reducible apply below_drewN) | (with_reducible apply Below.drew) | ((with_reducible refine Below.setCell ?_ ?_ _); rotate_left; focus (first | (simp; done) | (simp; omega) | omega)) | ((with_reducible refine Below.alloc ?_ ?_ _); rotate_left; focus (first | (simp; done) | (simp; omega) | omega)))))) (first | (go_at_call 8; refine (HTO.out _ (HIN.out.step (X13.bx.bel.trans ((show Below w13.heap.size w13 _ by (repeat (first | (with_reducible exact Below.refl _ _) | (with_reducible assumption) | (with_reducible apply below_drewN) | (with_reducible apply Below.drew) | ((with_reducible refine Below.setCell ?_ ?_ _); rotate_left; focus (first | (simp; done) | (simp; omega) | omega)) | ((with_reducible refine Below.alloc ?_ ?_ _); rotate_left; focus (first | (simp; done) | (simp; omega) | omega))))).mono X13.bx.bel.size)))).mono ?_; rintro e w3 ⟨⟨g3, h3, mid3, rfl, O3, P3, m3a, m3b⟩, hb⟩; have hB3 : Below w13.heap.size w13 w3 := (show Below w13.heap.size w13 _ by (repeat (first | (with_reducible exact Below.refl _ _) | (with_reducible assumption) | (with_reducible apply below_drewN) | (with_reducible apply Below.drew) | ((with_reducible refine Below.setCell ?_ ?_ _); rotate_left; focus (first | (simp; done) | (simp; omega) | omega)) | ((with_reducible refine Below.alloc ?_ ?_ _); rotate_left; focus (first | (simp; done) | (simp; omega) | omega))))).trans (hb.mono (by simp)); have hzB3 := hB3.size; (try with_reducible have Z3 := zca (W := w13) hb); (try with_reducible have Z3 := zcd (W := w13) hb); (try with_reducible have Z3 := zce (W := w13) hb); have HO3 : Hid (RdC _ _ _ _) := rdC_of O3 P3; clear hb O3 P3 m3a m3b) | (go_at_call 9; refine (toWrite_any x _).mono ?_; rintro e w4 ⟨rfl, hb⟩; have hB34 : Below w3.heap.size w3 w4 := (show Below w3.heap.size w3 _ by (repeat (first | (with_reducible exact Below.refl _ _) | (with_reducible assumption) | (with_reducible apply below_drewN) | (with_reducible apply Below.drew) | ((with_reducible refine Below.setCell ?_ ?_ _); rotate_left; focus (first | (simp; done) | (simp; omega) | omega)) | ((with_reducible refine Below.alloc ?_ ?_ _); rotate_left; focus (first | (simp; done) | (simp; omega) | omega))))).trans (hb.mono (by simp)); have hB4 : Below w13.heap.size w13 w4 := hB3.trans (hB34.mono hB3.size); have hzB4 := hB4.size; have hzB34 := hB34.size; (try with_reducible have Z4 := zca (W := w3) hb); (try with_reducible have Z4 := Z3.next hb); have HO4 : Hid (RdC _ _ _ _) := HO3.out.next hB34; clear hb hB34) | (go_at_call 10; refine (HI.out _ _ _ (HO4.out.next (by (repeat (first | (with_reducible exact Below.refl _ _) | (with_reducible assumption) | (with_reducible apply below_drewN) | (with_reducible apply Below.drew) | ((with_reducible refine Below.setCell ?_ ?_ _); rotate_left; focus (first | (simp; done) | (simp; omega) | omega)) | ((with_reducible refine Below.alloc ?_ ?_ _); rotate_left; focus (first | (simp; done) | (simp; omega) | omega))))))).mono ?_; rintro e w5 ⟨hb, ps5, qs5, cps5, cqs5, ms5, hs5, rfl, k1, k2, k3, OC5, OD5⟩; have hB45 : Below w4.heap.size w4 w5 := (show Below w4.heap.size w4 _ by (repeat (first | (with_reducible exact Below.refl _ _) | (with_reducible assumption) | (with_reducible apply below_drewN) | (with_reducible apply Below.drew) | ((with_reducible refine Below.setCell ?_ ?_ _); rotate_left; focus (first | (simp; done) | (simp; omega) | omega)) | ((with_reducible refine Below.alloc ?_ ?_ _); rotate_left; focus (first | (simp; done) | (simp; omega) | omega))))).trans (hb.mono (by simp)); have hB5 := hB4.trans (hB45.mono hB4.size); have hzB5 := hB5.size; have hzB45 := hB45.size; (try with_reducible have Z5 := zca (W := w4) hb); (try with_reducible have Z5 := zcd (W := w4) hb); (try with_reducible have Z5 := Z4.next hb); (try (have qz0 := Z5.c0; have qz1 := Z5.c1; have qz2 := Z5.c2; have qz3 := Z5.z0; have qz4 := Z5.z1; have qz5 := Z5.z2; have qz6 := Z5.lt)); have HC5 : Hid (OwnChS _ _ _ _ _) := OC5; have HD5 : Hid (OwnDfH _ _ _ _ _) := OD5; clear hb OC5 OD5 hB45))
    all_goals
      try go_wp2_with fail
      go_meet
      refine ⟨_, ps5, qs5, cps5, cqs5, rfl, rfl, ?_⟩
      first
        | (refine ResS.late hB5 HC5.out HD5.out ?_ k1 k2 k3; (first | omega | (simp; done) | (simp; omega)))
        | (have hz4 := Z4.lt; refine ResS.early Z5 hB5 HC5.out HD5.out ?_ ?_ ?_ k1 k2 k3 <;> (first | omega | (simp; done) | (simp; omega)))
        | (refine ResS.early Z5 hB5 HC5.out HD5.out ?_ ?_ ?_ k1 k2 k3 <;> (first | omega | (simp; done) | (simp; omega)))
  case rest =>
  obtain ⟨bh, ph, qh, cph, cqh, rfl, rfl, ⟨lh, mh, hh, th, H15, hbH, _, _⟩⟩ := hcut
  obtain ⟨w15, rfl⟩ : ∃ w15, w15 = wc := ⟨_, rfl⟩
  have X15 := X13.step hbH
  have S15 := HS13.out.next hbH
  have G15 := HG13.out.next hbH
  clear X13 HS13 HG13 hbH
  have a0 := H15.c0
  have a1 := H15.c1
  have a2 := H15.c2
  have b0 := S15.c0
  have b1 := S15.c1
  have b2 := S15.c2
  go_wp2_with fail
  refine (H15.eqc S15 rfl rfl rfl rfl HSM.out).mono ?_
  rintro e w16 ⟨rfl, hb⟩
  have X16 := X15.step hb
  have G16 := G15.next hb
  clear hb X15 S15 G15 H15 a0 a1 a2 b0 b1 b2
  have a0 := G16.c0
  have a1 := G16.c1
  have a2 := G16.c2
  go_wp2_with fail
  refine (G16.held rfl rfl HSM.out).mono ?_
  rintro e w17 ⟨rfl, hb⟩
  rw [← HF.out]
  have hbw := (X16.step hb).bx.bel
  clear hb X16 G16 a0 a1 a2
  go_wp2_with fail
  go_ret
  exact ⟨rfl, hbw⟩

end Go.Proofs.YtncpijfbbgipaaaGreatDoor.CollInsf

/- The law's own walk. -/
namespace Go.Proofs.YtncpijfbbgipaaaGreatDoor
open Go.ChangeShapes Go.WideShapes Go.ChangeAt Go.RowKit Go.Joins
open Go.ChangeMaps (open_string shut_string)
set_option linter.unusedVariables false
namespace CollInsf
open Tr Co


end CollInsf
end Go.Proofs.YtncpijfbbgipaaaGreatDoor

/- The law's walk, lifted to the row. -/
namespace Go.Proofs.YtncpijfbbgipaaaGreatDoor
open Go.ChangeShapes Go.WideShapes Go.ChangeAt Go.RowKit Go.Joins
open Go.ChangeMaps (open_string shut_string)
set_option linter.unusedVariables false
namespace CollInsf
open Tr Co
theorem own : ownKnob Tryz.prog.godebug = none := by kernel_rfl
theorem laidOut : laidOutB Tryz.prog = true := by kernel_rfl

set_option maxRecDepth 100000 in
theorem lifted (os : Os) (started : os.Started) (H : Type) (enc : TypeId × Value → H) :
    ReturnsInHanded {} Tryz.checked os 3 .any (fun w args => (Rows.fnExactInstallSpec.pre enc Tryz.prog Tryz.f3 Rows.fnExactInstallRow.domain false w args ∧ laidMetH Tryz.prog Rows.fnExactInstallRow.laid w) ∧ sizedMet enc Tryz.prog Tryz.f3 (OpenSpec.ofChange Rows.fnExactInstallSpec) false w args)
      (Rows.fnExactInstallSpec.post enc Tryz.prog Tryz.f3 false true false false) := by
  refine returnsInHanded_of_change_and (C := Tryz.checked) (X := fun w _ => laidMetH Tryz.prog Rows.fnExactInstallRow.laid w) (fun _ _ _ hh h => h.of_heap hh) own started (by kernel_rfl) Tryz.func3
    (ChangeSpec.witness_shaped (enc := enc) (C := Tryz.checked) (os := os) (X := fun w _ => laidMetH Tryz.prog Rows.fnExactInstallRow.laid w) false (World.laidAll Tryz.prog os Rows.fnExactInstallRow.laid) #[.agg #[.string ByteArray.empty, .slice none 0 0, .slice none 0 0], .int .i64 0, .agg #[.string ByteArray.empty, .int .i64 0, .bool false, .int .i64 0, .int .i64 0, .string ByteArray.empty]] 8 (World.laidAll_os _ _ _)
      (World.shaped_of_ZipB (by kernel_rfl) (by kernel_rfl)) (by kernel_rfl) (by kernel_rfl) (by kernel_rfl)
      (by rw [MakeChecks.laidMetH_plain _ _ _ (by kernel_rfl)]; exact laidMet_laidAll _ (by kernel_rfl) (by kernel_rfl))) ?_
  intro W base args ds gs before hval0 hW hcnd _ hL _
  have hval : ∀ (j : Nat) t v, Tryz.f3.params[j]? = some t → args[j]? = some v → Value.okWide Tryz.prog W .any base t v := hval0
  have hW' := hW
  obtain ⟨p, q, hA0, hV, rfl, hfz, hnd⟩ := hW
  have hA : DataW.TrodAll enc Tryz.prog W 0 (fun _ => true) true Tryz.f3.params.toList args.toList ds p := hA0
  rw [Tryz.params3] at hA hval
  obtain ⟨v0, vs0, d0, ds0, p0, q0, hargs, rfl, rfl, h0, r0⟩ := trodAll_cons hA
  obtain ⟨v1, vs1, d1, ds1, p1, q1, rfl, rfl, rfl, h1, r1⟩ := trodAll_cons r0
  obtain ⟨v2, vs2, d2, ds2, p2, q2, rfl, rfl, rfl, h2, r2⟩ := trodAll_cons r1
  obtain ⟨rfl, rfl, rfl⟩ := trodAll_nil r2
  obtain rfl : args = #[v0, v1, v2] := by cases args; simp_all
  obtain ⟨rfl, rfl⟩ := trodVars_none hV
  have k0 := h0
  have lt0 : ∀ x ∈ p0, x.block < W.heap.size := by obtain ⟨m, hm⟩ := k0; exact DataW.trod_lt m _ _ _ hm
  obtain ⟨cc0, p0c, q0c, cp0, cq0, rfl, hm0, i0⟩ := open_coll (hval 0 25 v0 rfl rfl) h0
  have k1 := h1
  have lt1 : ∀ x ∈ p1, x.block < W.heap.size := by obtain ⟨m, hm⟩ := k1; exact DataW.trod_lt m _ _ _ hm
  obtain ⟨a1, rfl, e11, e12, wa1⟩ := open_int Tryz.underlying3 (hval 1 3 v1 rfl rfl) h1
  have k2 := h2
  have lt2 : ∀ x ∈ p2, x.block < W.heap.size := by obtain ⟨m, hm⟩ := k2; exact DataW.trod_lt m _ _ _ hm
  obtain ⟨xw2, rfl, hw2⟩ := open_write (hval 2 29 v2 rfl rfl) h2
  clear hA0 hval0
  refine (walk cc0 p0c q0c cp0 cq0 hm0 a1 wa1 xw2 hw2 W i0).mono fun e W' ⟨he, bel⟩ => ?_
  subst he
  exact ⟨_, rfl, _, _, _, [], _, [], hW', trodAll_mk1 (shut_bool Tryz.underlying4 _), (trodAll_cons_mk (Below.trod laidOut (by kernel_rfl) (of_decide_eq_true (by kernel_rfl)) k0 bel lt0) (trodAll_cons_mk (Below.trod laidOut (by kernel_rfl) (of_decide_eq_true (by kernel_rfl)) k1 bel lt1) (trodAll_cons_mk (Below.trod laidOut (by kernel_rfl) (of_decide_eq_true (by kernel_rfl)) k2 bel lt2) trodAll_mk0))), rfl, bel.frame _, fun h => by cases h⟩
end CollInsf
end Go.Proofs.YtncpijfbbgipaaaGreatDoor
