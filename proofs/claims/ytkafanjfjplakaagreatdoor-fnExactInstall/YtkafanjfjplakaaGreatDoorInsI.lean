/- The program's Install: its walk. -/
import Derived.Test.YtkafanjfjplakaaGreatDoorInsJ
import Derived.Test.YtkafanjfjplakaaGreatDoorCopE
import Derived.Deep.RegionHeld3
namespace Go.Proofs.YtkafanjfjplakaaGreatDoor.Co
open Go.RowKit Tr
set_option linter.unusedVariables false

theorem keepI {w W w0 : World} {nm v u : Value} {c : Col} {x : Wrt} {bo lo mid hi g cp : Nat} {q : Option Addr} {cq : Nat} {F : List Chn} {vs : Nat → Value} {xs : List Value} (h : StI w W nm v u c x bo lo mid hi g cp q cq F vs xs) (hb : Below W.heap.size W w0) :
    w0.cell? ⟨bo, 1, none⟩ = some (.slice (some ⟨g, 0, none⟩) F.length cp) ∧ w0.cell? ⟨w.heap.size + 1, 2, none⟩ = some (.bool x.gone) ∧ w0.cell? ⟨w.heap.size + 1, 3, none⟩ = some (.int .i64 x.doc.k) ∧ w0.cell? ⟨w.heap.size + 1, 4, none⟩ = some (.int .i64 x.doc.n) ∧ w0.cell? ⟨w.heap.size + 1, 5, none⟩ = some (.string x.doc.t) :=
  have h' := h.next hb
  ⟨h'.o1, h'.bx.wr.c2, h'.bx.wr.c3, h'.bx.wr.c4, h'.bx.wr.c5⟩
theorem StI.addCall {w W : World} {nm v u : Value} {c : Col} {x : Wrt} {bo lo mid hi g cp : Nat} {q : Option Addr} {cq : Nat} {F : List Chn} {vs : Nat → Value} {xs : List Value} (h : StI w W nm v u c x bo lo mid hi g cp q cq F vs xs) {k : Nat} (hk : k < F.length) (hl : F[k].vs.length ≤ 1000) (y : Ver) :
    Calls Tryz.prog 71 #[.pointer (some ⟨g, k * 2, none⟩), .agg #[.int .i64 y.tm, .bool y.gone, .int .i64 y.doc.k, .int .i64 y.doc.n, .string y.doc.t]] W fun e w' => AddA g (k * 2) lo (vs k) F[k].vs y W e w' := by
  obtain ⟨a0, a1⟩ := h.part.at_ k hk hk
  have hlt := h.part.row.lt g rfl
  have h1 := h.lm; have h2 := h.mh; have h3 := h.hb; have h4 := h.lt
  exact add_any g (k * 2) lo F[k].id (vs k) F[k].vs y W hlt.2 (owns_cell h.part.row _ _ a0) (owns_cell h.part.row _ _ a1) (World.ownsRow.frozenAt h.part.row _) (h.part.ents k hk hk) (h.part.aside k hk hk) (by omega) hl
theorem StI.kept8 {w W w8 : World} {nm v u : Value} {c : Col} {x : Wrt} {bo lo mid hi g cp : Nat} {q : Option Addr} {cq : Nat} {F : List Chn} {vs : Nat → Value} {xs : List Value} (h : StI w W nm v u c x bo lo mid hi g cp q cq F vs xs) {k : Nat} (hk : k < F.length) {y : Ver} {e : Ending} (hA : AddA g (k * 2) lo (vs k) F[k].vs y W e w8) :
    w8.cell? ⟨bo, 1, none⟩ = some (.slice (some ⟨g, 0, none⟩) F.length cp) ∧ w8.cell? ⟨w.heap.size + 1, 2, none⟩ = some (.bool x.gone) ∧ w8.cell? ⟨w.heap.size + 1, 3, none⟩ = some (.int .i64 x.doc.k) ∧ w8.cell? ⟨w.heap.size + 1, 4, none⟩ = some (.int .i64 x.doc.n) ∧ w8.cell? ⟨w.heap.size + 1, 5, none⟩ = some (.string x.doc.t) := by
  by_cases hcode : addC F[k].vs y = 0
  · obtain ⟨w1, u', rfl, hg8, ho8, hat8⟩ := hA.ok hcode
    have Z := h.add hk hg8 ho8 hat8
    have z1 := Z.o1
    rw [List.length_set] at z1
    exact ⟨z1, Z.bx.wr.c2, Z.bx.wr.c3, Z.bx.wr.c4, Z.bx.wr.c5⟩
  · exact keepI h (hA.bad hcode)
theorem insF_len (l : List Chn) (y : Chn) (k : Nat) (hk : k ≤ l.length) : (l.take k ++ y :: l.drop k).length = l.length + 1 := by rw [List.length_append, List.length_take, List.length_cons, List.length_drop]; omega
theorem insF_get (l : List Chn) (y : Chn) (k : Nat) (hk : k ≤ l.length) (h : k < (l.take k ++ y :: l.drop k).length) : (l.take k ++ y :: l.drop k)[k] = y := by
  have hl : (l.take k).length = k := by rw [List.length_take]; omega
  rw [List.getElem_append_right (by omega)]
  simp [hl]
theorem insF_set (l : List Chn) (y z : Chn) (k : Nat) (hk : k ≤ l.length) : (l.take k ++ y :: l.drop k).set k z = l.take k ++ z :: l.drop k := by
  have hl : (l.take k).length = k := by rw [List.length_take]; omega
  rw [List.set_append_right _ _ (by omega), hl, Nat.sub_self]; rfl

set_option maxRecDepth 8000 in
set_option maxHeartbeats 8000000 in
theorem install_any (c : Col) (t : Int) (x : Wrt) (g1 g2 : Nat) (cp cq : Nat) (w : World) (hr : RdC w g1 g2 c) (hs : SzCol c) (hx : SzW x) :
    Calls Tryz.prog 19 #[.agg #[.string c.name, .slice (some ⟨g1, 0, none⟩) c.chs.length cp, .slice (some ⟨g2, 0, none⟩) c.dfs.length cq], .int .i64 t, .agg #[.string x.coll, .int .i64 x.id, .bool x.gone, .int .i64 x.doc.k, .int .i64 x.doc.n, .string x.doc.t]] w fun e w' => AnsS (insR c t x) w e w' := by
  have M0 := MkI.start w (.string c.name) (.slice (some ⟨g1, 0, none⟩) c.chs.length cp) (.slice (some ⟨g2, 0, none⟩) c.dfs.length cq) (.string em) (.slice none 0 0) (.slice none 0 0) x 30 45 30
  have HC : Hid (∀ W : World, RdC W g1 g2 c → Calls _ _ _ W _) := fun W hW => collOK_any c (some ⟨g1, 0, none⟩) (some ⟨g2, 0, none⟩) cp cq W hW.ch.inCh hW.df hs
  have HW : Hid (∀ W : World, Calls _ _ _ W _) := fun W => writeOK_any x W hx
  have HT : Hid (∀ W : World, Calls _ _ _ W _) := fun W => timeOK_any t W
  have HR : Hid (RdC _ _ _ _) := hr
  have HSZ : Hid (SzCol c) := hs
  have HOV : Hid (∀ W : World, Calls _ _ _ W _) := fun W => ownVer_any (verW t x) W hx.d
  simp only at HOV
  clear hr hs hx
  have d0 := M0.c0
  have d1 := M0.c1
  have d2 := M0.c2
  cases hB : collB c
  · have HV : Hid (insR c t x = (zCol, 1)) := insR_bad (fun h => by rw [hB] at h; simp at h)
    rw [hB] at HC
    clear hB HW HT HOV
    go_enter Tryz.func19, Tryz.ntmps19
    go_wp2_with fail
    generalize ((w.alloc (.cells #[.string c.name, .slice (some ⟨g1, 0, none⟩) c.chs.length cp, .slice (some ⟨g2, 0, none⟩) c.dfs.length cq] 30)).alloc (.cells #[.string x.coll, .int .i64 x.id, .bool x.gone, .int .i64 x.doc.k, .int .i64 x.doc.n, .string x.doc.t] 45)).alloc (.cells #[.string em, .slice none 0 0, .slice none 0 0] 30) = W0 at M0 d0 d1 d2 ⊢
    refine (HC.out _ (HR.out.next M0.bel)).mono ?_
    rintro e w1 ⟨rfl, hb⟩
    obtain ⟨mb, ml, mc0, mc1, mc2, mwr, ⟨r0, mr0⟩, ⟨r1, mr1⟩, ⟨r2, mr2⟩, my0⟩ := M0.next hb
    clear hb
    go_wp2_with fail
    refine bodyPost_ret (v := .tuple #[.agg #[.string em, .slice none 0 0, .slice none 0 0], .int .i64 1]) (by simp [results, Tryz.results19, go_sem, *]) rfl (by rw [HV.out]; exact ansS_zero (by (repeat (first | (with_reducible exact Below.refl _ _) | (with_reducible assumption) | (with_reducible apply below_drewN) | (with_reducible apply Below.drew) | ((with_reducible refine Below.setCell ?_ ?_ _); rotate_left; focus (first | (simp; done) | (simp; omega) | omega)) | ((with_reducible refine Below.alloc ?_ ?_ _); rotate_left; focus (first | (simp; done) | (simp; omega) | omega))))) rfl)
  · rw [hB] at HC
    cases hWB : writeB x
    · have HV : Hid (insR c t x = (zCol, 1)) := insR_bad (fun h => by rw [hWB] at h; simp at h)
      rw [hWB] at HW
      clear hB hWB HT HOV
      go_enter Tryz.func19, Tryz.ntmps19
      go_wp2_with fail
      generalize ((w.alloc (.cells #[.string c.name, .slice (some ⟨g1, 0, none⟩) c.chs.length cp, .slice (some ⟨g2, 0, none⟩) c.dfs.length cq] 30)).alloc (.cells #[.string x.coll, .int .i64 x.id, .bool x.gone, .int .i64 x.doc.k, .int .i64 x.doc.n, .string x.doc.t] 45)).alloc (.cells #[.string em, .slice none 0 0, .slice none 0 0] 30) = W0 at M0 d0 d1 d2 ⊢
      refine (HC.out _ (HR.out.next M0.bel)).mono ?_
      rintro e w1 ⟨rfl, hb⟩
      have M1 := M0.next hb
      have a0 := M1.wr.c0
      have a1 := M1.wr.c1
      have a2 := M1.wr.c2
      have a3 := M1.wr.c3
      have a4 := M1.wr.c4
      have a5 := M1.wr.c5
      clear hb M0 d0 d1 d2 HC
      go_wp2_with fail
      refine (HW.out _).mono ?_
      rintro e w2 ⟨rfl, hb⟩
      clear a0 a1 a2 a3 a4 a5
      obtain ⟨mb, ml, mc0, mc1, mc2, mwr, ⟨r0, mr0⟩, ⟨r1, mr1⟩, ⟨r2, mr2⟩, my0⟩ := M1.next hb
      clear hb
      go_wp2_with fail
      refine bodyPost_ret (v := .tuple #[.agg #[.string em, .slice none 0 0, .slice none 0 0], .int .i64 1]) (by simp [results, Tryz.results19, go_sem, *]) rfl (by rw [HV.out]; exact ansS_zero (by (repeat (first | (with_reducible exact Below.refl _ _) | (with_reducible assumption) | (with_reducible apply below_drewN) | (with_reducible apply Below.drew) | ((with_reducible refine Below.setCell ?_ ?_ _); rotate_left; focus (first | (simp; done) | (simp; omega) | omega)) | ((with_reducible refine Below.alloc ?_ ?_ _); rotate_left; focus (first | (simp; done) | (simp; omega) | omega))))) rfl)
    · rw [hWB] at HW
      cases hNM : (x.coll.toList == c.name.toList)
      · have HV : Hid (insR c t x = (zCol, 1)) := insR_bad (fun h => by rw [hNM] at h; simp at h)
        clear hB hWB HT HOV
        go_enter Tryz.func19, Tryz.ntmps19
        go_wp2_with fail
        generalize ((w.alloc (.cells #[.string c.name, .slice (some ⟨g1, 0, none⟩) c.chs.length cp, .slice (some ⟨g2, 0, none⟩) c.dfs.length cq] 30)).alloc (.cells #[.string x.coll, .int .i64 x.id, .bool x.gone, .int .i64 x.doc.k, .int .i64 x.doc.n, .string x.doc.t] 45)).alloc (.cells #[.string em, .slice none 0 0, .slice none 0 0] 30) = W0 at M0 d0 d1 d2 ⊢
        refine (HC.out _ (HR.out.next M0.bel)).mono ?_
        rintro e w1 ⟨rfl, hb⟩
        have M1 := M0.next hb
        have a0 := M1.wr.c0
        have a1 := M1.wr.c1
        have a2 := M1.wr.c2
        have a3 := M1.wr.c3
        have a4 := M1.wr.c4
        have a5 := M1.wr.c5
        clear hb M0 d0 d1 d2 HC
        go_wp2_with fail
        refine (HW.out _).mono ?_
        rintro e w2 ⟨rfl, hb⟩
        clear a0 a1 a2 a3 a4 a5
        obtain ⟨mb, ml, mc0, mc1, mc2, ⟨mwl, mw0, mw1, mw2, mw3, mw4, mw5⟩, ⟨r0, mr0⟩, ⟨r1, mr1⟩, ⟨r2, mr2⟩, my0⟩ := M1.next hb
        clear hb
        go_wp2_with fail
        refine bodyPost_ret (v := .tuple #[.agg #[.string em, .slice none 0 0, .slice none 0 0], .int .i64 1]) (by simp [results, Tryz.results19, go_sem, *]) rfl (by rw [HV.out]; exact ansS_zero (by (repeat (first | (with_reducible exact Below.refl _ _) | (with_reducible assumption) | (with_reducible apply below_drewN) | (with_reducible apply Below.drew) | ((with_reducible refine Below.setCell ?_ ?_ _); rotate_left; focus (first | (simp; done) | (simp; omega) | omega)) | ((with_reducible refine Below.alloc ?_ ?_ _); rotate_left; focus (first | (simp; done) | (simp; omega) | omega))))) rfl)
      · cases hTM : timeB t
        · have HV : Hid (insR c t x = (zCol, 4)) := insR_time hB hWB hNM hTM
          rw [hTM] at HT
          clear hB hWB HOV hTM
          go_enter Tryz.func19, Tryz.ntmps19
          go_wp2_with fail
          generalize ((w.alloc (.cells #[.string c.name, .slice (some ⟨g1, 0, none⟩) c.chs.length cp, .slice (some ⟨g2, 0, none⟩) c.dfs.length cq] 30)).alloc (.cells #[.string x.coll, .int .i64 x.id, .bool x.gone, .int .i64 x.doc.k, .int .i64 x.doc.n, .string x.doc.t] 45)).alloc (.cells #[.string em, .slice none 0 0, .slice none 0 0] 30) = W0 at M0 d0 d1 d2 ⊢
          refine (HC.out _ (HR.out.next M0.bel)).mono ?_
          rintro e w1 ⟨rfl, hb⟩
          have M1 := M0.next hb
          have a0 := M1.wr.c0
          have a1 := M1.wr.c1
          have a2 := M1.wr.c2
          have a3 := M1.wr.c3
          have a4 := M1.wr.c4
          have a5 := M1.wr.c5
          clear hb M0 d0 d1 d2 HC
          go_wp2_with fail
          refine (HW.out _).mono ?_
          rintro e w2 ⟨rfl, hb⟩
          have M2 := M1.next hb
          have n0 := M2.c0
          have q0 := M2.wr.c0
          clear hb M1 a0 a1 a2 a3 a4 a5
          go_wp2_with fail
          refine (HT.out _).mono ?_
          rintro e w3 ⟨rfl, rfl⟩
          have hb : True := trivial
          obtain ⟨mb, ml, mc0, mc1, mc2, mwr, ⟨r0, mr0⟩, ⟨r1, mr1⟩, ⟨r2, mr2⟩, my0⟩ := M2
          clear hb
          go_wp2_with fail
          refine bodyPost_ret (v := .tuple #[.agg #[.string em, .slice none 0 0, .slice none 0 0], .int .i64 4]) (by simp [results, Tryz.results19, go_sem, *]) rfl (by rw [HV.out]; exact ansS_zero (by (repeat (first | (with_reducible exact Below.refl _ _) | (with_reducible assumption) | (with_reducible apply below_drewN) | (with_reducible apply Below.drew) | ((with_reducible refine Below.setCell ?_ ?_ _); rotate_left; focus (first | (simp; done) | (simp; omega) | omega)) | ((with_reducible refine Below.alloc ?_ ?_ _); rotate_left; focus (first | (simp; done) | (simp; omega) | omega))))) rfl)
        · rw [hTM] at HT
          have HAT : Hid (∀ k b, PlaceC c.chs x.id k b → insR c t x = insK c t x k b) := fun k b hp => insR_at hB hWB hNM hTM hp
          have HNIL : Hid (addC [] (verW t x) = 0) := addC_nil hTM
          have hpt := collB_parts hB
          have hdf := collB_defs hB
          have HDF : Hid (_ ∧ _) := hdf
          have h20 := hpt.2.2.2.1
          have HRI : Hid (RiseC c.chs) := riseC_of _ _ (by unfold collB at hB; simp only [Bool.and_eq_true] at hB; exact hB.2.2)
          have HPT : Hid (∀ x ∈ c.chs, topB x.id = true ∧ 1 ≤ x.vs.length ∧ x.vs.length ≤ 12 ∧ versB x.id 0 x.vs = true) := hpt.2.2.2.2.2
          clear hB hWB hTM hpt hdf
          go_enter Tryz.func19, Tryz.ntmps19
          go_wp2_with fail
          generalize ((w.alloc (.cells #[.string c.name, .slice (some ⟨g1, 0, none⟩) c.chs.length cp, .slice (some ⟨g2, 0, none⟩) c.dfs.length cq] 30)).alloc (.cells #[.string x.coll, .int .i64 x.id, .bool x.gone, .int .i64 x.doc.k, .int .i64 x.doc.n, .string x.doc.t] 45)).alloc (.cells #[.string em, .slice none 0 0, .slice none 0 0] 30) = W0 at M0 d0 d1 d2 ⊢
          refine (HC.out _ (HR.out.next M0.bel)).mono ?_
          rintro e w1 ⟨rfl, hb⟩
          have M1 := M0.next hb
          have a0 := M1.wr.c0
          have a1 := M1.wr.c1
          have a2 := M1.wr.c2
          have a3 := M1.wr.c3
          have a4 := M1.wr.c4
          have a5 := M1.wr.c5
          clear hb M0 d0 d1 d2 HC
          go_wp2_with fail
          refine (HW.out _).mono ?_
          rintro e w2 ⟨rfl, hb⟩
          have M2 := M1.next hb
          have n0 := M2.c0
          have q0 := M2.wr.c0
          clear hb M1 a0 a1 a2 a3 a4 a5 HW
          go_wp2_with fail
          refine (HT.out _).mono ?_
          rintro e w3 ⟨rfl, rfl⟩
          have n1 := M2.c1
          have n2 := M2.c2
          clear HT q0 hNM
          go_wp2_with fail
          refine (ownColl_any c.name (some ⟨g1, 0, none⟩) (some ⟨g2, 0, none⟩) cp cq c.chs c.dfs _ (HR.out.next M2.bel).ch.inCh (rowInDf (HR.out.next M2.bel).df) HSZ.out.name (by omega) (fun p hp => ⟨by have := (HPT.out p hp).2.2.1; omega, fun e he => szVr_of HSZ.out hp he⟩) (by have := HDF.out.1; omega) (fun p hp => ⟨(HSZ.out.dfs p hp).1, by have := (HDF.out.2 p hp).2; omega, (HSZ.out.dfs p hp).2.2⟩)).mono ?_
          rintro e w4 ⟨⟨v9, u9, mid, rfl, hm1, hm2, hCh, hDf⟩, hb9⟩
          obtain ⟨pc9, cc9, rfl⟩ := hCh.slice
          obtain ⟨qd, cd, rfl⟩ := hDf.slice
          have hlo := M2.lt
          have M4 := M2.next hb9
          obtain ⟨lo, hloe⟩ : ∃ lo, lo = w3.heap.size := ⟨_, rfl⟩
          rw [← hloe] at hm1 hCh hlo
          have hbA : Below w4.heap.size w4 (w4.alloc (.cells #[.string c.name, .slice pc9 c.chs.length cc9, .slice qd c.dfs.length cd] 30)) := (Below.refl _ _).alloc (Nat.le_refl _) _
          have M5 := M4.next hbA
          have HI5 : Hid (InCh _ _ _) := (rowInCh hCh.row).step hbA
          have HCh : Hid (OwnChH _ _ _ _ _) := hCh
          have HDf : Hid (OwnDfH _ _ _ _ _) := hDf
          have q1 := M5.wr.c1
          have q1' := M4.wr.c1
          have ql := M4.wr.lt
          have HM4 : Hid (MkI _ _ _ _ _ _) := M4
          clear hb9 hCh hDf M2 n0 n1 n2 hloe M4
          go_wp2_with fail
          refine (chainPlace_any pc9 cc9 c.chs x.id _ HI5.out HRI.out (by omega)).mono ?_
          rintro e w6 ⟨⟨⟨k, b, rfl, hpl⟩⟩, hb6⟩
          have HRR0 : Hid (insR c t x = insK c t x k b) := HAT.out k b hpl
          clear q1 q1' ql
          obtain ⟨bo, hbo⟩ : ∃ bo, bo = w4.heap.size := ⟨_, rfl⟩
          cases b with
          | true =>
            obtain ⟨hk9, hid, _⟩ := hpl.some
            obtain ⟨vs0, xs0, hP0, _, _⟩ := HCh.out
            obtain ⟨g, cw, hgv, _, _, _, _⟩ := rowForm hP0.row (by omega)
            injection hgv with e1 e2 e3
            subst e1
            have e3' := e3.symm
            subst e3'
            obtain ⟨vs, xs, Z5⟩ := StI.start (c := c) (x := x) HM4.out (by omega) hm1 hm2 HCh.out HDf.out 30
            have Z := Z5.next hb6
            rw [← hbo] at Z ⊢
            have HRO : Hid (addC c.chs[k].vs (verW t x) = 0 → insR c t x = (⟨c.name, c.chs.set k ⟨c.chs[k].id, c.chs[k].vs ++ [verW t x]⟩, c.dfs⟩, 0)) := fun h => HRR0.out.trans (insK_some hk9 h)
            have HRN : Hid (¬ addC c.chs[k].vs (verW t x) = 0 → insR c t x = (⟨c.name, c.chs, c.dfs⟩, addC c.chs[k].vs (verW t x))) := fun h => HRR0.out.trans (insK_code hk9 h)
            have HFK : Hid (c.chs[k].vs.length ≤ 1000) := by have := (HPT.out c.chs[k] (List.getElem_mem _)).2.2.1; show c.chs[k].vs.length ≤ 1000; omega
            clear Z5 hb6 hbo HCh HDf HM4 M5 HI5 hbA hP0 hpl hid HRR0 HAT
            obtain ⟨WZ, hWZ⟩ : ∃ WZ, WZ = w6 := ⟨_, rfl⟩
            rw [← hWZ] at Z ⊢
            clear hWZ
            have Z1 := Z.bx.wr
            have z1 := Z.o1
            have y2 := Z1.c2
            have y3 := Z1.c3
            have y4 := Z1.c4
            have y5 := Z1.c5
            have hzl := Z.lt
            have hzm := Z.bx.lt
            have HZ : Hid (StI _ _ _ _ _ _ _ _ _ _ _ _ _ _ _ _ _ _) := Z
            have hkI : (k : Int) < ((c.chs.length : Nat) : Int) := by omega
            clear Z Z1
            try go_wp2_with fail
            go_region_held3 (fun w0 => w0.cell? ⟨bo, 1, none⟩ = some (.slice (some ⟨g, 0, none⟩) c.chs.length cw) ∧ w0.cell? ⟨w.heap.size + 1, 2, none⟩ = some (.bool x.gone) ∧ w0.cell? ⟨w.heap.size + 1, 3, none⟩ = some (.int .i64 x.doc.k) ∧ w0.cell? ⟨w.heap.size + 1, 4, none⟩ = some (.int .i64 x.doc.n) ∧ w0.cell? ⟨w.heap.size + 1, 5, none⟩ = some (.string x.doc.t)) ((first | exact hkp8 | (refine keepI HZ.out ?_; (repeat (first | (with_reducible exact Below.refl _ _) | (with_reducible assumption) | (with_reducible apply below_drewN) | (with_reducible apply Below.drew) | ((with_reducible refine Below.setCell ?_ ?_ _); rotate_left; focus (first | (simp; done) | (simp; omega) | omega)) | ((with_reducible refine Below.alloc ?_ ?_ _); rotate_left; focus (first | (simp; done) | (simp; omega) | omega))))))) (first | (go_at_call 72; refine (HOV.out _).mono ?_; rintro e w7 ⟨rfl, hb⟩; have hB7 : Below WZ.heap.size WZ w7 := (show Below WZ.heap.size WZ _ by (repeat (first | (with_reducible exact Below.refl _ _) | (with_reducible assumption) | (with_reducible apply below_drewN) | (with_reducible apply Below.drew) | ((with_reducible refine Below.setCell ?_ ?_ _); rotate_left; focus (first | (simp; done) | (simp; omega) | omega)) | ((with_reducible refine Below.alloc ?_ ?_ _); rotate_left; focus (first | (simp; done) | (simp; omega) | omega))))).trans (hb.mono (by simp)); have HZ7 : Hid (StI _ _ _ _ _ _ _ _ _ _ _ _ _ _ _ _ _ _) := HZ.out.next hB7; clear hb) | (go_at_call 71; refine (HZ7.out.addCall hk9 HFK.out (verW t x)).mono ?_; rintro e w8 hA8; obtain rfl := hA8.ret; have hkp8 := HZ7.out.kept8 hk9 hA8; have HA8 : Hid (AddA _ _ _ _ _ _ _ _ _) := hA8; clear hA8))
            all_goals
              by_cases hcode : addC c.chs[k].vs (verW t x) = 0
              · obtain ⟨w1', u', rfl, hg8, ho8, hat8⟩ := HA8.out.ok hcode
                have Z8 := HZ7.out.add hk9 hg8 ho8 hat8
                have hR := HRO.out hcode
                rw [hcode]
                obtain ⟨mb, ml, mc0, mc1, mc2, mwr, ⟨r0, mr0⟩, ⟨r1, mr1⟩, ⟨r2, mr2⟩, my0⟩ := Z8.bx
                have p0 := Z8.o0
                have p1 := Z8.o1
                have p2 := Z8.o2
                have hzl8 := Z8.lt
                have HZ8 : Hid (StI _ _ _ _ _ _ _ _ _ _ _ _ _ _ _ _ _ _) := Z8
                have HRR : Hid (insR c t x = _) := hR
                rw [List.length_set] at p1
                have hfin := Z8.fin 0 (.string c.name) (.slice (some ⟨g, 0, none⟩) c.chs.length cw) (.slice qd c.dfs.length cd)
                rw [List.length_set] at hfin
                have HFIN : Hid (AnsS _ _ _ _) := hfin
                clear hg8 ho8 hat8 Z8 hR HA8 HZ7 hfin HZ HZ8
                generalize w1'.setCell ⟨g, k * 2 + 1, none⟩ u' = W8 at *
                go_wp2_with fail
                refine bodyPost_ret (v := .tuple #[.agg #[.string c.name, .slice (some ⟨g, 0, none⟩) c.chs.length cw, .slice qd c.dfs.length cd], .int .i64 0]) (by simp [results, Tryz.results19, go_sem, *]) rfl ?_
                rw [HRR.out]
                exact HFIN.out
              · have Z8 := HZ7.out.next (HA8.out.bad hcode)
                have hR := HRN.out hcode
                obtain ⟨mb, ml, mc0, mc1, mc2, mwr, ⟨r0, mr0⟩, ⟨r1, mr1⟩, ⟨r2, mr2⟩, my0⟩ := Z8.bx
                have p0 := Z8.o0
                have p1 := Z8.o1
                have p2 := Z8.o2
                have hzl8 := Z8.lt
                have HRR : Hid (insR c t x = _) := hR
                obtain ⟨CD, hCD⟩ : ∃ CD, CD = addC c.chs[k].vs (verW t x) := ⟨_, rfl⟩
                rw [← hCD] at HRR ⊢
                have HFIN : Hid (AnsS _ _ _ _) := Z8.fin CD (.string c.name) (.slice (some ⟨g, 0, none⟩) c.chs.length cw) (.slice qd c.dfs.length cd)
                clear Z8 hR HA8 HZ7 HZ hcode hCD
                go_wp2_with fail
                refine bodyPost_ret (v := .tuple #[.agg #[.string c.name, .slice (some ⟨g, 0, none⟩) c.chs.length cw, .slice qd c.dfs.length cd], .int .i64 CD]) (by simp [results, Tryz.results19, go_sem, *]) rfl ?_
                rw [HRR.out]
                exact HFIN.out
          | false =>
            have hk := hpl.le
            obtain ⟨vs, xs, hP0, hV0, hVS0⟩ := HCh.out
            have hV : ∀ b, (Value.slice pc9 c.chs.length cc9).ownBlock = some b → lo ≤ b ∧ b < mid := fun b e => ⟨(hP0.row.lt b e).1, hV0 b e⟩
            have hVS : ∀ i, i < c.chs.length → ∀ b, (vs i).ownBlock = some b → lo ≤ b ∧ b < mid := fun i hi b e => ⟨(World.ownsRow.lt (hP0.ents i hi hi) b e).1, hVS0 i hi b e⟩
            have hz5 : w4.heap.size < (w4.alloc (.cells #[.string c.name, .slice pc9 c.chs.length cc9, .slice qd c.dfs.length cd] 30)).heap.size := by simp
            have M6 := M5.next hb6
            have P6 := (hP0.next hbA).next hb6
            have D6 := (HDf.out.next hbA).next hb6
            have o0 : w6.cell? ⟨w4.heap.size, 0, none⟩ = some (.string c.name) := (hb6.cell (p := ⟨w4.heap.size, 0, none⟩) hz5).trans (by simp [go_sem])
            have o1 : w6.cell? ⟨w4.heap.size, 1, none⟩ = some (.slice pc9 c.chs.length cc9) := (hb6.cell (p := ⟨w4.heap.size, 1, none⟩) hz5).trans (by simp [go_sem])
            have o2 : w6.cell? ⟨w4.heap.size, 2, none⟩ = some (.slice qd c.dfs.length cd) := (hb6.cell (p := ⟨w4.heap.size, 2, none⟩) hz5).trans (by simp [go_sem])
            have of1 : w6.frozen? ⟨w4.heap.size, 1, none⟩ = false := (hb6.frozen (p := ⟨w4.heap.size, 1, none⟩) hz5).trans (by simp [go_sem])
            have hbl : w4.heap.size < w6.heap.size := Nat.lt_of_lt_of_le hz5 hb6.size
            rw [← hbo] at D6 o0 o1 o2 of1 hbl hm2 ⊢
            clear hz5 hbA M5 HI5 hP0 hV0 hVS0 HCh HDf HM4 hb6 hbo
            obtain ⟨l2, hl2, hfl2⟩ := to_pairs c.chs.length xs P6.row.1 (P6.one rfl)
            have hbB : Below w6.heap.size w6 (w6.alloc (.cells #[.int .i64 x.id, .slice none 0 0] 94)) := (Below.refl _ _).alloc (Nat.le_refl _) _
            have HINS : Hid (Calls _ _ _ _ _) := insC_any (.slice pc9 c.chs.length cc9) l2 k ⟨.int .i64 x.id, .slice none 0 0, rfl, rfl⟩ w6.heap.size lo (w6.alloc (.cells #[.int .i64 x.id, .slice none 0 0] 94)) (by rw [hl2, hfl2]; exact owns_below P6.row hbB) (by rw [hl2]; exact hk) (by rw [hl2]; omega) (by simp; omega) (heap_alloc_new _ _) (fun g hg e => by have := (P6.row.lt g hg).2; omega)
            have q1 := M6.wr.c1
            have HP6 : Hid (PartCh _ _ _ _ _ _ _ _) := P6
            have HD6 : Hid (OwnDfH _ _ _ _ _) := D6
            have HM6 : Hid (MkI _ _ _ _ _ _) := M6
            have HVV : Hid (∀ b, (Value.slice pc9 c.chs.length cc9).ownBlock = some b → lo ≤ b ∧ b < mid) := hV
            have HVS : Hid (∀ i, i < c.chs.length → ∀ b, (vs i).ownBlock = some b → lo ≤ b ∧ b < mid) := hVS
            have HBB : Hid (Below _ _ _) := hbB
            clear P6 D6 M6 hV hVS hbB
            go_wp2_with fail
            refine HINS.out.mono ?_
            rintro e w7 ⟨v', rfl, ho7, hg7, hat7⟩
            rw [insL_len _ _ _ (by rw [hl2]; exact hk), flat2_ins _ _ _ (by rw [hl2]; exact hk), hfl2, hl2] at ho7
            obtain ⟨g, cw, hvv, _, _, _, _⟩ := rowForm ho7 (by omega)
            subst hvv
            have Z := StI.ins (c := c) (x := x) HM6.out (by omega) hm1 (by omega) (Nat.le_refl bo) hbl o0 ⟨_, o1⟩ o2 HP6.out HVV.out HVS.out HD6.out HBB.out hk ho7 hg7 hat7
            have hbk : w7.heap[bo]? = w6.heap[bo]? := (hg7.block bo (by simp; omega) (fun e => by have := HVV.out bo e.symm; omega)).trans (HBB.out.block bo hbl)
            have p1 : w7.cell? ⟨bo, 1, none⟩ = some (.slice pc9 c.chs.length cc9) := (World.cell?_of_block (a := ⟨bo, 1, none⟩) hbk).trans o1
            have pf : w7.frozen? ⟨bo, 1, none⟩ = false := (frozen_of_block hbk).trans of1
            have hF0 := insF_len c.chs ⟨x.id, []⟩ k hk
            have hF1 := insF_get c.chs ⟨x.id, []⟩ k hk (by omega)
            have HRO' : Hid (∀ z, insR c t x = (⟨c.name, (c.chs.take k ++ ⟨x.id, []⟩ :: c.chs.drop k).set k z, c.dfs⟩, 0) ∨ z ≠ ⟨x.id, [verW t x]⟩) := fun z => by
              by_cases hz : z = ⟨x.id, [verW t x]⟩
              · left; rw [hz, insF_set _ _ _ _ hk, HRR0.out, insK_new]
              · exact .inr hz
            obtain ⟨F, hF⟩ : ∃ F : List Chn, F = c.chs.take k ++ ⟨x.id, []⟩ :: c.chs.drop k := ⟨_, rfl⟩
            rw [← hF] at Z hF0 HRO'
            simp only [← hF] at hF1
            have hk9 : k < F.length := by omega
            have HFK : Hid (F[k].vs.length ≤ 1000) := by show F[k].vs.length ≤ 1000; rw [hF1]; simp
            have HRO : Hid (addC F[k].vs (verW t x) = 0 → insR c t x = (⟨c.name, F.set k ⟨F[k].id, F[k].vs ++ [verW t x]⟩, c.dfs⟩, 0)) := fun _ => by
              rcases HRO'.out ⟨F[k].id, F[k].vs ++ [verW t x]⟩ with h | h
              · exact h
              · exact absurd (by rw [hF1]; rfl) h
            have HRN : Hid (¬ addC F[k].vs (verW t x) = 0 → insR c t x = (⟨c.name, F, c.dfs⟩, addC F[k].vs (verW t x))) := fun h => absurd (by rw [hF1]; exact HNIL.out) h
            have hz7 := hg7.size
            have hbl7 : bo < w7.heap.size := by have := HBB.out.size; omega
            clear ho7 hg7 hat7 hbk o0 o1 o2 of1 HP6 HD6 HM6 HVV HVS HBB HRO' hF hF0 hF1 hl2 hfl2 hpl HRR0 HAT HINS hk q1
            go_wp2_with fail
            obtain ⟨WZ, hWZ⟩ : ∃ WZ, WZ = w7.setCell ⟨bo, 1, none⟩ (.slice (some ⟨g, 0, none⟩) (c.chs.length + 1) cw) := ⟨_, rfl⟩
            rw [← hWZ] at Z ⊢
            clear hWZ p1 pf
            obtain ⟨vs9, xs9, Z⟩ : ∃ vs9 xs9, StI w WZ (.string c.name) (.slice (some ⟨g1, 0, none⟩) c.chs.length cp) (.slice (some ⟨g2, 0, none⟩) c.dfs.length cq) c x bo lo mid bo g cw qd cd F vs9 xs9 := ⟨_, _, Z⟩
            have Z1 := Z.bx.wr
            have z1 := Z.o1
            have y2 := Z1.c2
            have y3 := Z1.c3
            have y4 := Z1.c4
            have y5 := Z1.c5
            have hzl := Z.lt
            have hzm := Z.bx.lt
            have HZ : Hid (StI _ _ _ _ _ _ _ _ _ _ _ _ _ _ _ _ _ _) := Z
            have hkI : (k : Int) < ((F.length : Nat) : Int) := by omega
            clear Z Z1
            try go_wp2_with fail
            go_region_held3 (fun w0 => w0.cell? ⟨bo, 1, none⟩ = some (.slice (some ⟨g, 0, none⟩) F.length cw) ∧ w0.cell? ⟨w.heap.size + 1, 2, none⟩ = some (.bool x.gone) ∧ w0.cell? ⟨w.heap.size + 1, 3, none⟩ = some (.int .i64 x.doc.k) ∧ w0.cell? ⟨w.heap.size + 1, 4, none⟩ = some (.int .i64 x.doc.n) ∧ w0.cell? ⟨w.heap.size + 1, 5, none⟩ = some (.string x.doc.t)) ((first | exact hkp8 | (refine keepI HZ.out ?_; (repeat (first | (with_reducible exact Below.refl _ _) | (with_reducible assumption) | (with_reducible apply below_drewN) | (with_reducible apply Below.drew) | ((with_reducible refine Below.setCell ?_ ?_ _); rotate_left; focus (first | (simp; done) | (simp; omega) | omega)) | ((with_reducible refine Below.alloc ?_ ?_ _); rotate_left; focus (first | (simp; done) | (simp; omega) | omega))))))) (first | (go_at_call 72; refine (HOV.out _).mono ?_; rintro e w7 ⟨rfl, hb⟩; have hB7 : Below WZ.heap.size WZ w7 := (show Below WZ.heap.size WZ _ by (repeat (first | (with_reducible exact Below.refl _ _) | (with_reducible assumption) | (with_reducible apply below_drewN) | (with_reducible apply Below.drew) | ((with_reducible refine Below.setCell ?_ ?_ _); rotate_left; focus (first | (simp; done) | (simp; omega) | omega)) | ((with_reducible refine Below.alloc ?_ ?_ _); rotate_left; focus (first | (simp; done) | (simp; omega) | omega))))).trans (hb.mono (by simp)); have HZ7 : Hid (StI _ _ _ _ _ _ _ _ _ _ _ _ _ _ _ _ _ _) := HZ.out.next hB7; clear hb) | (go_at_call 71; refine (HZ7.out.addCall hk9 HFK.out (verW t x)).mono ?_; rintro e w8 hA8; obtain rfl := hA8.ret; have hkp8 := HZ7.out.kept8 hk9 hA8; have HA8 : Hid (AddA _ _ _ _ _ _ _ _ _) := hA8; clear hA8))
            all_goals
              by_cases hcode : addC F[k].vs (verW t x) = 0
              · obtain ⟨w1', u', rfl, hg8, ho8, hat8⟩ := HA8.out.ok hcode
                have Z8 := HZ7.out.add hk9 hg8 ho8 hat8
                have hR := HRO.out hcode
                rw [hcode]
                obtain ⟨mb, ml, mc0, mc1, mc2, mwr, ⟨r0, mr0⟩, ⟨r1, mr1⟩, ⟨r2, mr2⟩, my0⟩ := Z8.bx
                have p0 := Z8.o0
                have p1 := Z8.o1
                have p2 := Z8.o2
                have hzl8 := Z8.lt
                have HZ8 : Hid (StI _ _ _ _ _ _ _ _ _ _ _ _ _ _ _ _ _ _) := Z8
                have HRR : Hid (insR c t x = _) := hR
                rw [List.length_set] at p1
                have hfin := Z8.fin 0 (.string c.name) (.slice (some ⟨g, 0, none⟩) F.length cw) (.slice qd c.dfs.length cd)
                rw [List.length_set] at hfin
                have HFIN : Hid (AnsS _ _ _ _) := hfin
                clear hg8 ho8 hat8 Z8 hR HA8 HZ7 hfin HZ HZ8
                generalize w1'.setCell ⟨g, k * 2 + 1, none⟩ u' = W8 at *
                go_wp2_with fail
                refine bodyPost_ret (v := .tuple #[.agg #[.string c.name, .slice (some ⟨g, 0, none⟩) F.length cw, .slice qd c.dfs.length cd], .int .i64 0]) (by simp [results, Tryz.results19, go_sem, *]) rfl ?_
                rw [HRR.out]
                exact HFIN.out
              · have Z8 := HZ7.out.next (HA8.out.bad hcode)
                have hR := HRN.out hcode
                obtain ⟨mb, ml, mc0, mc1, mc2, mwr, ⟨r0, mr0⟩, ⟨r1, mr1⟩, ⟨r2, mr2⟩, my0⟩ := Z8.bx
                have p0 := Z8.o0
                have p1 := Z8.o1
                have p2 := Z8.o2
                have hzl8 := Z8.lt
                have HRR : Hid (insR c t x = _) := hR
                obtain ⟨CD, hCD⟩ : ∃ CD, CD = addC F[k].vs (verW t x) := ⟨_, rfl⟩
                rw [← hCD] at HRR ⊢
                have HFIN : Hid (AnsS _ _ _ _) := Z8.fin CD (.string c.name) (.slice (some ⟨g, 0, none⟩) F.length cw) (.slice qd c.dfs.length cd)
                clear Z8 hR HA8 HZ7 HZ hcode hCD
                go_wp2_with fail
                refine bodyPost_ret (v := .tuple #[.agg #[.string c.name, .slice (some ⟨g, 0, none⟩) F.length cw, .slice qd c.dfs.length cd], .int .i64 CD]) (by simp [results, Tryz.results19, go_sem, *]) rfl ?_
                rw [HRR.out]
                exact HFIN.out


end Go.Proofs.YtkafanjfjplakaaGreatDoor.Co
