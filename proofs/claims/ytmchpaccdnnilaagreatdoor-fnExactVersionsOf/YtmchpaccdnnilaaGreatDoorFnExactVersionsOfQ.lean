/- At every collection the program's VersionsOf answers as the specification's; it writes into no argument. -/
import Derived.Test.YtmchpaccdnnilaaGreatDoorColNQ
import Derived.Test.YtmchpaccdnnilaaGreatDoorRows
import Derived.Test.YtmchpaccdnnilaaGreatDoorTie
import Derived.Test.YtmchpaccdnnilaaGreatDoorCards
import Derived.LaidMore
import Derived.Lay
import Derived.Stop.Joined
import Derived.SevenTiedAt
import Derived.ProofKit
import Derived.OpenShut
import Derived.ShutString
import Derived.ChangeOld
import Derived.Below
import Derived.Lib.SmallJoins
namespace Go.Proofs.YtmchpaccdnnilaaGreatDoor
open Go.ChangeShapes Go.WideShapes Go.ChangeAt Go.RowKit Go.Joins
open Go.ChangeMaps (open_string shut_string)
set_option linter.unusedVariables false
namespace CollVersf
open Tr Co

set_option maxRecDepth 8000 in
set_option maxHeartbeats 4000000 in
theorem walk (c : Col) (p q : Option Addr) (cp cq : Nat) (hm : MaxCol c) (w : World) (hin : InCol w p q c) :
    Calls Tryz.prog 8 #[.agg #[.string c.name, .slice p c.chs.length cp, .slice q c.dfs.length cq]] w fun e w' => e = .returned (.bool true) ∧ Below w.heap.size w w' := by
  have X0 := Boxed.start w (.string c.name) (.slice p c.chs.length cp) (.slice q c.dfs.length cq) 25
  have HIN : Hid (InCol w p q c) := hin
  have HZ : Hid (∀ W : World, InCol W p q c → Calls _ _ _ W _) := fun W hW => szColl_at c p q cp cq 1048576 W hW hm (by omega) (by omega)
  clear hin hm
  go_enter Tryz.func8, Tryz.ntmps8
  go_wp2_with fail
  refine (HZ.out _ (HIN.out.step X0.bel)).mono ?_
  rintro e w1 ⟨⟨r, rfl, hr⟩, hb⟩
  have X1 := X0.step hb
  clear hb HZ X0
  rcases hr with hneg | ⟨hr0, hr1, hsz⟩
  · have hbw := X1.bel
    go_wp2_with fail
    go_ret
    exact ⟨rfl, hbw⟩
  have hnn : ¬ r < 0 := by omega
  have HSZ : Hid (SzCol c) := hsz
  have HTO : Hid (∀ W : World, InCol W p q c → Calls _ _ _ W _) := fun W hW => toColl_any c p q cp cq W hW hsz
  have HS : Hid (∀ (g h : Nat) (W : World), RdCol W g h c → Calls _ _ _ W _) := fun g h W hW => specVersions_any c (some ⟨g, 0, none⟩) (some ⟨h, 0, none⟩) c.chs.length c.dfs.length W hW.inCh hW.df hsz
  have HI : Hid (∀ (g h : Nat) (W : World), RdCol W g h c → Calls _ _ _ W _) := fun g h W hW => versionsOf_any c (some ⟨g, 0, none⟩) (some ⟨h, 0, none⟩) c.chs.length c.dfs.length W hW.inCh hW.df hsz
  obtain ⟨P, hP⟩ : ∃ P, P = versR c := ⟨_, rfl⟩
  rw [← hP] at HS HI
  clear hP
  obtain ⟨P1, P2⟩ := P
  simp only at HS HI
  clear hsz hr1
  have c0 := X1.c0
  have c1 := X1.c1
  have c2 := X1.c2
  go_wp2_with fail
  refine (HTO.out _ (HIN.out.step X1.bel)).mono ?_
  rintro e w2 ⟨⟨g2, h2, mid2, rfl, O2, P2, m2a, m2b⟩, hb⟩
  have X2 := X1.step hb
  have HO2 : Hid (RdCol _ _ _ _) := rdCol_of O2 P2
  clear hb X1 c0 c1 c2 O2 P2 m2a m2b
  go_wp2_with fail
  refine (HS.out g2 h2 _ HO2.out).mono ?_
  rintro e w3 ⟨rfl, hb⟩
  have X3 := X2.step hb
  clear hb X2 HO2
  have c0 := X3.c0
  have c1 := X3.c1
  have c2 := X3.c2
  go_wp2_with fail
  refine (HTO.out _ (HIN.out.step X3.bel)).mono ?_
  rintro e w4 ⟨⟨g4, h4, mid4, rfl, O4, P4, m4a, m4b⟩, hb⟩
  have hbA : Below w4.heap.size w4 (w4.alloc (.cells #[.string c.name, .slice (some ⟨g4, 0, none⟩) c.chs.length c.chs.length, .slice (some ⟨h4, 0, none⟩) c.dfs.length c.dfs.length] 31)) := (Below.refl _ _).alloc (Nat.le_refl _) _
  have X5 := (X3.step hb).step hbA
  have HO5 : Hid (RdCol _ _ _ _) := (rdCol_of O4 P4).next hbA
  have x5 : (w4.alloc (.cells #[.string c.name, .slice (some ⟨g4, 0, none⟩) c.chs.length c.chs.length, .slice (some ⟨h4, 0, none⟩) c.dfs.length c.dfs.length] 31)).cell? ⟨w4.heap.size, 0, none⟩ = some (.string c.name) := by simp [go_sem]
  have y5 : (w4.alloc (.cells #[.string c.name, .slice (some ⟨g4, 0, none⟩) c.chs.length c.chs.length, .slice (some ⟨h4, 0, none⟩) c.dfs.length c.dfs.length] 31)).cell? ⟨w4.heap.size, 1, none⟩ = some (.slice (some ⟨g4, 0, none⟩) c.chs.length c.chs.length) := by simp [go_sem]
  have z5 : (w4.alloc (.cells #[.string c.name, .slice (some ⟨g4, 0, none⟩) c.chs.length c.chs.length, .slice (some ⟨h4, 0, none⟩) c.dfs.length c.dfs.length] 31)).cell? ⟨w4.heap.size, 2, none⟩ = some (.slice (some ⟨h4, 0, none⟩) c.dfs.length c.dfs.length) := by simp [go_sem]
  have m5 : w4.heap.size < (w4.alloc (.cells #[.string c.name, .slice (some ⟨g4, 0, none⟩) c.chs.length c.chs.length, .slice (some ⟨h4, 0, none⟩) c.dfs.length c.dfs.length] 31)).heap.size := by simp
  clear hb X3 c0 c1 c2 O4 P4 hbA m4a m4b
  go_wp2_with fail
  generalize w4.alloc (.cells #[.string c.name, .slice (some ⟨g4, 0, none⟩) c.chs.length c.chs.length, .slice (some ⟨h4, 0, none⟩) c.dfs.length c.dfs.length] 31) = W5 at X5 HO5 x5 y5 z5 m5 ⊢
  refine (HI.out g4 h4 _ HO5.out).mono ?_
  rintro e w6 ⟨rfl, hb⟩
  have X6 := X5.step hb
  have HO6 : Hid (RdCol _ _ _ _) := HO5.out.next hb
  have x6 := (hb.cell m5).trans x5
  have y6 := (hb.cell m5).trans y5
  have z6 := (hb.cell m5).trans z5
  have m6 : w4.heap.size < w6.heap.size := Nat.lt_of_lt_of_le m5 hb.size
  clear hb X5 HO5 x5 y5 z5 m5
  obtain ⟨bx, hbx⟩ : ∃ bx, bx = w4.heap.size := ⟨_, rfl⟩
  rw [← hbx] at x6 y6 z6 m6 ⊢
  clear hbx
  go_wp2_with fail
  go_region_held3 (fun w0 => w0.cell? ⟨w.heap.size, 0, none⟩ = some (.string c.name) ∧ w0.cell? ⟨w.heap.size, 1, none⟩ = some (.slice p c.chs.length cp) ∧ w0.cell? ⟨w.heap.size, 2, none⟩ = some (.slice q c.dfs.length cq) ∧ w0.cell? ⟨bx, 0, none⟩ = some (.string c.name) ∧ w0.cell? ⟨bx, 1, none⟩ = some (.slice (some ⟨g4, 0, none⟩) c.chs.length c.chs.length) ∧ w0.cell? ⟨bx, 2, none⟩ = some (.slice (some ⟨h4, 0, none⟩) c.dfs.length c.dfs.length)) ((refine keepC X6 m6 x6 y6 z6 ?_; (repeat (first | (with_reducible exact Below.refl _ _) | (with_reducible assumption) | (with_reducible apply below_drewN) | (with_reducible apply Below.drew) | ((with_reducible refine Below.setCell ?_ ?_ _); rotate_left; focus (first | (simp; done) | (simp; omega) | omega)) | ((with_reducible refine Below.alloc ?_ ?_ _); rotate_left; focus (first | (simp; done) | (simp; omega) | omega)))))) (first | (go_at_call 11; refine (HTO.out _ (HIN.out.step (X6.bel.trans ((show Below w6.heap.size w6 _ by (repeat (first | (with_reducible exact Below.refl _ _) | (with_reducible assumption) | (with_reducible apply below_drewN) | (with_reducible apply Below.drew) | ((with_reducible refine Below.setCell ?_ ?_ _); rotate_left; focus (first | (simp; done) | (simp; omega) | omega)) | ((with_reducible refine Below.alloc ?_ ?_ _); rotate_left; focus (first | (simp; done) | (simp; omega) | omega))))).mono X6.bel.size)))).mono ?_; rintro e w7 ⟨⟨g7, h7, mid7, rfl, O7, P7, m7a, m7b⟩, hb⟩; have hB7 : Below w6.heap.size w6 w7 := (show Below w6.heap.size w6 _ by (repeat (first | (with_reducible exact Below.refl _ _) | (with_reducible assumption) | (with_reducible apply below_drewN) | (with_reducible apply Below.drew) | ((with_reducible refine Below.setCell ?_ ?_ _); rotate_left; focus (first | (simp; done) | (simp; omega) | omega)) | ((with_reducible refine Below.alloc ?_ ?_ _); rotate_left; focus (first | (simp; done) | (simp; omega) | omega))))).trans (hb.mono (by simp)); have HO7 : Hid (RdCol w7 g7 h7 c) := rdCol_of O7 P7; clear hb O7 P7 m7a m7b) | (go_at_call 13; refine (eqColl_same c.name _ _ _ _ _ _ _ _ c.chs c.dfs _ (HO6.out.next hB7).ch HO7.out.ch (HO6.out.next hB7).df HO7.out.df HSZ.out.chl HSZ.out.vs HSZ.out.dfl HSZ.out.ps).mono ?_; rintro e w8 ⟨rfl, hb⟩; have hB8 : Below w6.heap.size w6 w8 := hB7.trans (hb.mono hB7.size); clear hb))
  have hbw := (X6.step hB8).bel
  go_wp2_with fail
  go_ret
  exact ⟨rfl, hbw⟩

theorem own : ownKnob Tryz.prog.godebug = none := by kernel_rfl
theorem laidOut : laidOutB Tryz.prog = true := by kernel_rfl

set_option maxRecDepth 100000 in
theorem lifted (os : Os) (started : os.Started) (H : Type) (enc : TypeId × Value → H) :
    ReturnsInHanded {} Tryz.checked os 8 .any (fun w args => (Rows.fnExactVersionsOfSpec.pre enc Tryz.prog Tryz.f8 Rows.fnExactVersionsOfRow.domain false w args ∧ laidMetH Tryz.prog Rows.fnExactVersionsOfRow.laid w) ∧ sizedMet enc Tryz.prog Tryz.f8 (OpenSpec.ofChange Rows.fnExactVersionsOfSpec) false w args)
      (Rows.fnExactVersionsOfSpec.post enc Tryz.prog Tryz.f8 false true false false) := by
  refine returnsInHanded_of_change_and (C := Tryz.checked) (X := fun w _ => laidMetH Tryz.prog Rows.fnExactVersionsOfRow.laid w) (fun _ _ _ hh h => h.of_heap hh) own started (by kernel_rfl) Tryz.func8
    (ChangeSpec.witness_shaped (enc := enc) (C := Tryz.checked) (os := os) (X := fun w _ => laidMetH Tryz.prog Rows.fnExactVersionsOfRow.laid w) false (World.laidAll Tryz.prog os Rows.fnExactVersionsOfRow.laid) #[.agg #[.string ByteArray.empty, .slice none 0 0, .slice none 0 0]] 8 (World.laidAll_os _ _ _)
      (World.shaped_of_ZipB (by kernel_rfl) (by kernel_rfl)) (by kernel_rfl) (by kernel_rfl) (by kernel_rfl)
      (by rw [MakeChecks.laidMetH_plain _ _ _ (by kernel_rfl)]; exact laidMet_laidAll _ (by kernel_rfl) (by kernel_rfl))) ?_
  intro W base args ds gs before hval0 hW hcnd _ hL _
  have hval : ∀ (j : Nat) t v, Tryz.f8.params[j]? = some t → args[j]? = some v → Value.okWide Tryz.prog W .any base t v := hval0
  have hW' := hW
  obtain ⟨p, q, hA0, hV, rfl, hfz, hnd⟩ := hW
  have hA : DataW.TrodAll enc Tryz.prog W 0 (fun _ => true) true Tryz.f8.params.toList args.toList ds p := hA0
  rw [Tryz.params8] at hA hval
  obtain ⟨v0, vs0, d0, ds0, p0, q0, hargs, rfl, rfl, h0, r0⟩ := trodAll_cons hA
  obtain ⟨rfl, rfl, rfl⟩ := trodAll_nil r0
  obtain rfl : args = #[v0] := by cases args; simp_all
  obtain ⟨rfl, rfl⟩ := trodVars_none hV
  have k0 := h0
  have lt0 : ∀ x ∈ p0, x.block < W.heap.size := by obtain ⟨m, hm⟩ := k0; exact DataW.trod_lt m _ _ _ hm
  obtain ⟨cc0, p0c, q0c, cp0, cq0, rfl, hm0, i0⟩ := open_coll (hval 0 25 v0 rfl rfl) h0
  clear hA0 hval0
  refine (walk cc0 p0c q0c cp0 cq0 hm0 W i0).mono fun e W' ⟨he, bel⟩ => ?_
  subst he
  exact ⟨_, rfl, _, _, _, [], _, [], hW', trodAll_mk1 (shut_bool Tryz.underlying4 _), (trodAll_cons_mk (Below.trod laidOut (by kernel_rfl) (of_decide_eq_true (by kernel_rfl)) k0 bel lt0) trodAll_mk0), rfl, bel.frame _, fun h => by cases h⟩
end CollVersf

theorem fnExactVersionsOf_row : Rows.FnExactVersionsOfSaid :=
  OpenClaim.holds_of_wide 8 Tryz.f8 rfl rfl rfl rfl rfl rfl rfl ⟨rfl, rfl, rfl, rfl, rfl⟩ rfl rfl rfl rfl rfl (by kernel_rfl) Tryz.func8 (by kernel_rfl)
    (of_decide_eq_true (by kernel_rfl)) (by unfold Func.isWrapper; first | (rw [if_pos (by decide +kernel)]; kernel_rfl) | (rw [if_neg (by decide +kernel)]; exact ⟨rfl, rfl⟩))
    (fun os started H enc _ => CollVersf.lifted os started H enc)
theorem fnExactVersionsOf_holds : Rows.FnExactVersionsOfCardSaid :=
  Claim7.holds_tied_plain_at .later [] [.data, .pinned] true (true, "b210bda4b009971b6d568a6468f85d98af7cb3c0458082e4f51a9556c69ed204") false
    fnExactVersionsOf_row (fun _ h => by cases h) (by kernel_rfl) (fun _ h => by cases h) fnExactVersionsOf_row_tie rfl ⟨rfl, rfl⟩ (by kernel_rfl) rfl
    (fun f fn hf hfn => by
      obtain rfl : f = 8 := Option.some.inj ((show Tryz.prog.funcNamed "loop.example/g00380/laws.FnExactVersionsOf" = some 8 by kernel_rfl).symm.trans hf) |>.symm
      obtain rfl : fn = Tryz.f8 := (Option.some.inj (Tryz.func8.symm.trans hfn)).symm
      exact ⟨by kernel_rfl, fun j t ht => by
        rw [Tryz.params8] at ht
        have hm : t ∈ [25] := by simpa using Array.mem_of_getElem? ht
        have hall : ([25].all fun u => !Tryz.prog.wantsStandIn u) = true := by kernel_rfl
        exact (show Tryz.prog.wantsStandIn t = false by simpa using List.all_eq_true.1 hall t hm)⟩)
    (by kernel_rfl)
#print axioms fnExactVersionsOf_holds
end Go.Proofs.YtmchpaccdnnilaaGreatDoor
