/- At every collection and id the program's LastAt answers as the specification's; it writes into no argument. -/
import Derived.Test.YtmchpaccdnnilaaGreatDoorColNQ
import Derived.Test.YtmchpaccdnnilaaGreatDoorRows
import Derived.Test.YtmchpaccdnnilaaGreatDoorTie
import Derived.Test.YtmchpaccdnnilaaGreatDoorCards
import Derived.LaidMore
import Derived.Lay
import Derived.Stop.Joined
import Derived.SevenTiedAt
import Derived.ProofKit
import Derived.OpenShut
import Derived.ShutString
import Derived.ChangeOld
import Derived.Below
import Derived.Lib.SmallJoins
namespace Go.Proofs.YtmchpaccdnnilaaGreatDoor
open Go.ChangeShapes Go.WideShapes Go.ChangeAt Go.RowKit Go.Joins
open Go.ChangeMaps (open_string shut_string)
set_option linter.unusedVariables false
namespace CollLastf
open Tr Co

set_option maxRecDepth 8000 in
set_option maxHeartbeats 4000000 in
theorem walk (c : Col) (p q : Option Addr) (cp cq : Nat) (hm : MaxCol c) (id : Int) {P : Prop} (wid : P) (w : World) (hin : InCol w p q c) :
    Calls Tryz.prog 5 #[.agg #[.string c.name, .slice p c.chs.length cp, .slice q c.dfs.length cq], .int .i64 id] w fun e w' => e = .returned (.bool true) ∧ Below w.heap.size w w' := by
  have X0 := Boxed.start w (.string c.name) (.slice p c.chs.length cp) (.slice q c.dfs.length cq) 25
  have HIN : Hid (InCol w p q c) := hin
  have HZ : Hid (∀ W : World, InCol W p q c → Calls _ _ _ W _) := fun W hW => szColl_at c p q cp cq 1048576 W hW hm (by omega) (by omega)
  clear hin hm wid
  go_enter Tryz.func5, Tryz.ntmps5
  go_wp2_with fail
  refine (HZ.out _ (HIN.out.step X0.bel)).mono ?_
  rintro e w1 ⟨⟨r, rfl, hr⟩, hb⟩
  have X1 := X0.step hb
  clear hb HZ X0
  rcases hr with hneg | ⟨hr0, hr1, hsz⟩
  · have hbw := X1.bel
    go_wp2_with fail
    go_ret
    exact ⟨rfl, hbw⟩
  have hnn : ¬ r < 0 := by omega
  have HSZ : Hid (SzCol c) := hsz
  have HTO : Hid (∀ W : World, InCol W p q c → Calls _ _ _ W _) := fun W hW => toColl_any c p q cp cq W hW hsz
  have HS : Hid (∀ (g h : Nat) (W : World), RdC W g h c → Calls _ _ _ W _) := fun g h W hW => specLast_any c id g h c.chs.length c.dfs.length W hW hsz
  have HI : Hid (∀ (g h : Nat) (W : World), RdC W g h c → Calls _ _ _ W _) := fun g h W hW => lastAt_any c id g h c.chs.length c.dfs.length W hW hsz
  obtain ⟨L, hL⟩ : ∃ L, L = lastR c id := ⟨_, rfl⟩
  rw [← hL] at HS HI
  clear hL hsz hr1
  have c0 := X1.c0
  have c1 := X1.c1
  have c2 := X1.c2
  go_wp2_with fail
  refine (HTO.out _ (HIN.out.step X1.bel)).mono ?_
  rintro e w2 ⟨⟨g2, h2, mid2, rfl, O2, P2, m2a, m2b⟩, hb⟩
  have X2 := X1.step hb
  have HO2 : Hid (RdC _ _ _ _) := rdC_of O2 P2
  clear hb X1 c0 c1 c2 O2 P2 m2a m2b
  go_wp2_with fail
  refine (HS.out g2 h2 _ HO2.out).mono ?_
  rintro e w3' ⟨rfl, hb⟩
  have hbA0 : Below w3'.heap.size w3' (w3'.alloc (.cells #[.int .i64 L.1.tm, .bool L.1.gone, .int .i64 L.1.doc.k, .int .i64 L.1.doc.n, .string L.1.doc.t] 45)) := (Below.refl _ _).alloc (Nat.le_refl _) _
  have X3 := (X2.step hb).step hbA0
  have U3 := V5.new w3' L.1
  have c0 := ((X2.step hb)).c0
  have c1 := ((X2.step hb)).c1
  have c2 := ((X2.step hb)).c2
  have hlt3 := ((X2.step hb)).lt
  clear hb X2 HO2 hbA0
  go_wp2_with fail
  clear c0 c1 c2 hlt3
  generalize w3'.alloc (.cells #[.int .i64 L.1.tm, .bool L.1.gone, .int .i64 L.1.doc.k, .int .i64 L.1.doc.n, .string L.1.doc.t] 45) = w3 at X3 U3 ⊢
  obtain ⟨b6, hb6⟩ : ∃ b6, b6 = w3'.heap.size := ⟨_, rfl⟩
  rw [← hb6] at U3 ⊢
  clear hb6
  refine (HTO.out _ (HIN.out.step X3.bel)).mono ?_
  rintro e w4 ⟨⟨g4, h4, mid4, rfl, O4, P4, m4a, m4b⟩, hb⟩
  have hbA : Below w4.heap.size w4 (w4.alloc (.cells #[.string c.name, .slice (some ⟨g4, 0, none⟩) c.chs.length c.chs.length, .slice (some ⟨h4, 0, none⟩) c.dfs.length c.dfs.length] 31)) := (Below.refl _ _).alloc (Nat.le_refl _) _
  have X5 := (X3.step hb).step hbA
  have U5 := (U3.step hb).step hbA
  have HO5 : Hid (RdC _ _ _ _) := (rdC_of O4 P4).next hbA
  have x5 : (w4.alloc (.cells #[.string c.name, .slice (some ⟨g4, 0, none⟩) c.chs.length c.chs.length, .slice (some ⟨h4, 0, none⟩) c.dfs.length c.dfs.length] 31)).cell? ⟨w4.heap.size, 0, none⟩ = some (.string c.name) := by simp [go_sem]
  have y5 : (w4.alloc (.cells #[.string c.name, .slice (some ⟨g4, 0, none⟩) c.chs.length c.chs.length, .slice (some ⟨h4, 0, none⟩) c.dfs.length c.dfs.length] 31)).cell? ⟨w4.heap.size, 1, none⟩ = some (.slice (some ⟨g4, 0, none⟩) c.chs.length c.chs.length) := by simp [go_sem]
  have z5 : (w4.alloc (.cells #[.string c.name, .slice (some ⟨g4, 0, none⟩) c.chs.length c.chs.length, .slice (some ⟨h4, 0, none⟩) c.dfs.length c.dfs.length] 31)).cell? ⟨w4.heap.size, 2, none⟩ = some (.slice (some ⟨h4, 0, none⟩) c.dfs.length c.dfs.length) := by simp [go_sem]
  have m5 : w4.heap.size < (w4.alloc (.cells #[.string c.name, .slice (some ⟨g4, 0, none⟩) c.chs.length c.chs.length, .slice (some ⟨h4, 0, none⟩) c.dfs.length c.dfs.length] 31)).heap.size := by simp
  clear hb X3 U3 O4 P4 hbA m4a m4b
  go_wp2_with fail
  generalize w4.alloc (.cells #[.string c.name, .slice (some ⟨g4, 0, none⟩) c.chs.length c.chs.length, .slice (some ⟨h4, 0, none⟩) c.dfs.length c.dfs.length] 31) = W5 at X5 U5 HO5 x5 y5 z5 m5 ⊢
  obtain ⟨bx, hbx⟩ : ∃ bx, bx = w4.heap.size := ⟨_, rfl⟩
  rw [← hbx] at x5 y5 z5 m5 ⊢
  clear hbx
  refine (HI.out g4 h4 _ HO5.out).mono ?_
  rintro e w6' ⟨rfl, hb⟩
  have hbA : Below w6'.heap.size w6' (w6'.alloc (.cells #[.int .i64 L.1.tm, .bool L.1.gone, .int .i64 L.1.doc.k, .int .i64 L.1.doc.n, .string L.1.doc.t] 45)) := (Below.refl _ _).alloc (Nat.le_refl _) _
  have hbB : Below W5.heap.size W5 (w6'.alloc (.cells #[.int .i64 L.1.tm, .bool L.1.gone, .int .i64 L.1.doc.k, .int .i64 L.1.doc.n, .string L.1.doc.t] 45)) := hb.trans (hbA.mono hb.size)
  have X6 := X5.step hbB
  have U6 := U5.step hbB
  have T6 := V5.new w6' L.1
  have HO6 : Hid (RdC _ _ _ _) := HO5.out.next hbB
  have x6 := (hbB.cell m5).trans x5
  have y6 := (hbB.cell m5).trans y5
  have z6 := (hbB.cell m5).trans z5
  have m6 : bx < (w6'.alloc (.cells #[.int .i64 L.1.tm, .bool L.1.gone, .int .i64 L.1.doc.k, .int .i64 L.1.doc.n, .string L.1.doc.t] 45)).heap.size := Nat.lt_of_lt_of_le m5 hbB.size
  have u6 := U5.step hb
  obtain ⟨t0, t1, t2, t3, t4⟩ := five u6.cb
  have tl := u6.lt
  clear hb hbA hbB X5 U5 HO5 x5 y5 z5 m5 u6
  have HEQ : Hid (∀ W : World, Calls _ _ _ W _) := fun W => eqVersion_same L.1.tm L.1.gone L.1.doc.k L.1.doc.n L.1.doc.t W
  go_wp2_with fail
  generalize w6'.alloc (.cells #[.int .i64 L.1.tm, .bool L.1.gone, .int .i64 L.1.doc.k, .int .i64 L.1.doc.n, .string L.1.doc.t] 45) = W6 at X6 U6 T6 HO6 x6 y6 z6 m6 ⊢
  clear t0 t1 t2 t3 t4 tl
  refine (HEQ.out _).mono ?_
  rintro e w6 ⟨rfl, hb⟩
  have X7 := X6.step hb
  have HO7 : Hid (RdC _ _ _ _) := HO6.out.next hb
  have x7 := (hb.cell m6).trans x6
  have y7 := (hb.cell m6).trans y6
  have z7 := (hb.cell m6).trans z6
  have m7 := Nat.lt_of_lt_of_le m6 hb.size
  clear hb X6 U6 T6 HO6 x6 y6 z6 m6 HEQ
  have X6 := X7
  have HO6 := HO7
  have x6 := x7
  have y6 := y7
  have z6 := z7
  have m6 := m7
  clear X7 HO7 x7 y7 z7 m7
  go_wp2_with fail
  go_region_held3 (fun w0 => w0.cell? ⟨w.heap.size, 0, none⟩ = some (.string c.name) ∧ w0.cell? ⟨w.heap.size, 1, none⟩ = some (.slice p c.chs.length cp) ∧ w0.cell? ⟨w.heap.size, 2, none⟩ = some (.slice q c.dfs.length cq) ∧ w0.cell? ⟨bx, 0, none⟩ = some (.string c.name) ∧ w0.cell? ⟨bx, 1, none⟩ = some (.slice (some ⟨g4, 0, none⟩) c.chs.length c.chs.length) ∧ w0.cell? ⟨bx, 2, none⟩ = some (.slice (some ⟨h4, 0, none⟩) c.dfs.length c.dfs.length)) ((refine keepC X6 m6 x6 y6 z6 ?_; (repeat (first | (with_reducible exact Below.refl _ _) | (with_reducible assumption) | (with_reducible apply below_drewN) | (with_reducible apply Below.drew) | ((with_reducible refine Below.setCell ?_ ?_ _); rotate_left; focus (first | (simp; done) | (simp; omega) | omega)) | ((with_reducible refine Below.alloc ?_ ?_ _); rotate_left; focus (first | (simp; done) | (simp; omega) | omega)))))) (first | (go_at_call 11; refine (HTO.out _ (HIN.out.step (X6.bel.trans ((show Below w6.heap.size w6 _ by (repeat (first | (with_reducible exact Below.refl _ _) | (with_reducible assumption) | (with_reducible apply below_drewN) | (with_reducible apply Below.drew) | ((with_reducible refine Below.setCell ?_ ?_ _); rotate_left; focus (first | (simp; done) | (simp; omega) | omega)) | ((with_reducible refine Below.alloc ?_ ?_ _); rotate_left; focus (first | (simp; done) | (simp; omega) | omega))))).mono X6.bel.size)))).mono ?_; rintro e w7 ⟨⟨g7, h7, mid7, rfl, O7, P7, m7a, m7b⟩, hb⟩; have hB7 : Below w6.heap.size w6 w7 := (show Below w6.heap.size w6 _ by (repeat (first | (with_reducible exact Below.refl _ _) | (with_reducible assumption) | (with_reducible apply below_drewN) | (with_reducible apply Below.drew) | ((with_reducible refine Below.setCell ?_ ?_ _); rotate_left; focus (first | (simp; done) | (simp; omega) | omega)) | ((with_reducible refine Below.alloc ?_ ?_ _); rotate_left; focus (first | (simp; done) | (simp; omega) | omega))))).trans (hb.mono (by simp)); have HO7 : Hid (RdCol w7 g7 h7 c) := rdCol_of O7 P7; clear hb O7 P7 m7a m7b) | (go_at_call 13; refine (eqColl_same c.name _ _ _ _ _ _ _ _ c.chs c.dfs _ (HO6.out.next hB7).rd.ch HO7.out.ch (HO6.out.next hB7).rd.df HO7.out.df HSZ.out.chl HSZ.out.vs HSZ.out.dfl HSZ.out.ps).mono ?_; rintro e w8 ⟨rfl, hb⟩; have hB8 : Below w6.heap.size w6 w8 := hB7.trans (hb.mono hB7.size); clear hb))
  have hbw := (X6.step hB8).bel
  go_wp2_with fail
  go_ret
  exact ⟨rfl, hbw⟩

theorem own : ownKnob Tryz.prog.godebug = none := by kernel_rfl
theorem laidOut : laidOutB Tryz.prog = true := by kernel_rfl

set_option maxRecDepth 100000 in
theorem lifted (os : Os) (started : os.Started) (H : Type) (enc : TypeId × Value → H) :
    ReturnsInHanded {} Tryz.checked os 5 .any (fun w args => (Rows.fnExactLastAtSpec.pre enc Tryz.prog Tryz.f5 Rows.fnExactLastAtRow.domain false w args ∧ laidMetH Tryz.prog Rows.fnExactLastAtRow.laid w) ∧ sizedMet enc Tryz.prog Tryz.f5 (OpenSpec.ofChange Rows.fnExactLastAtSpec) false w args)
      (Rows.fnExactLastAtSpec.post enc Tryz.prog Tryz.f5 false true false false) := by
  refine returnsInHanded_of_change_and (C := Tryz.checked) (X := fun w _ => laidMetH Tryz.prog Rows.fnExactLastAtRow.laid w) (fun _ _ _ hh h => h.of_heap hh) own started (by kernel_rfl) Tryz.func5
    (ChangeSpec.witness_shaped (enc := enc) (C := Tryz.checked) (os := os) (X := fun w _ => laidMetH Tryz.prog Rows.fnExactLastAtRow.laid w) false (World.laidAll Tryz.prog os Rows.fnExactLastAtRow.laid) #[.agg #[.string ByteArray.empty, .slice none 0 0, .slice none 0 0], .int .i64 0] 8 (World.laidAll_os _ _ _)
      (World.shaped_of_ZipB (by kernel_rfl) (by kernel_rfl)) (by kernel_rfl) (by kernel_rfl) (by kernel_rfl)
      (by rw [MakeChecks.laidMetH_plain _ _ _ (by kernel_rfl)]; exact laidMet_laidAll _ (by kernel_rfl) (by kernel_rfl))) ?_
  intro W base args ds gs before hval0 hW hcnd _ hL _
  have hval : ∀ (j : Nat) t v, Tryz.f5.params[j]? = some t → args[j]? = some v → Value.okWide Tryz.prog W .any base t v := hval0
  have hW' := hW
  obtain ⟨p, q, hA0, hV, rfl, hfz, hnd⟩ := hW
  have hA : DataW.TrodAll enc Tryz.prog W 0 (fun _ => true) true Tryz.f5.params.toList args.toList ds p := hA0
  rw [Tryz.params5] at hA hval
  obtain ⟨v0, vs0, d0, ds0, p0, q0, hargs, rfl, rfl, h0, r0⟩ := trodAll_cons hA
  obtain ⟨v1, vs1, d1, ds1, p1, q1, rfl, rfl, rfl, h1, r1⟩ := trodAll_cons r0
  obtain ⟨rfl, rfl, rfl⟩ := trodAll_nil r1
  obtain rfl : args = #[v0, v1] := by cases args; simp_all
  obtain ⟨rfl, rfl⟩ := trodVars_none hV
  have k0 := h0
  have lt0 : ∀ x ∈ p0, x.block < W.heap.size := by obtain ⟨m, hm⟩ := k0; exact DataW.trod_lt m _ _ _ hm
  obtain ⟨cc0, p0c, q0c, cp0, cq0, rfl, hm0, i0⟩ := open_coll (hval 0 25 v0 rfl rfl) h0
  have k1 := h1
  have lt1 : ∀ x ∈ p1, x.block < W.heap.size := by obtain ⟨m, hm⟩ := k1; exact DataW.trod_lt m _ _ _ hm
  obtain ⟨a1, rfl, e11, e12, wa1⟩ := open_int Tryz.underlying3 (hval 1 3 v1 rfl rfl) h1
  clear hA0 hval0
  refine (walk cc0 p0c q0c cp0 cq0 hm0 a1 wa1 W i0).mono fun e W' ⟨he, bel⟩ => ?_
  subst he
  exact ⟨_, rfl, _, _, _, [], _, [], hW', trodAll_mk1 (shut_bool Tryz.underlying4 _), (trodAll_cons_mk (Below.trod laidOut (by kernel_rfl) (of_decide_eq_true (by kernel_rfl)) k0 bel lt0) (trodAll_cons_mk (Below.trod laidOut (by kernel_rfl) (of_decide_eq_true (by kernel_rfl)) k1 bel lt1) trodAll_mk0)), rfl, bel.frame _, fun h => by cases h⟩
end CollLastf

theorem fnExactLastAt_row : Rows.FnExactLastAtSaid :=
  OpenClaim.holds_of_wide 5 Tryz.f5 rfl rfl rfl rfl rfl rfl rfl ⟨rfl, rfl, rfl, rfl, rfl⟩ rfl rfl rfl rfl rfl (by kernel_rfl) Tryz.func5 (by kernel_rfl)
    (of_decide_eq_true (by kernel_rfl)) (by unfold Func.isWrapper; first | (rw [if_pos (by decide +kernel)]; kernel_rfl) | (rw [if_neg (by decide +kernel)]; exact ⟨rfl, rfl⟩))
    (fun os started H enc _ => CollLastf.lifted os started H enc)
theorem fnExactLastAt_holds : Rows.FnExactLastAtCardSaid :=
  Claim7.holds_tied_plain_at .later [] [.data, .pinned] true (true, "b210bda4b009971b6d568a6468f85d98af7cb3c0458082e4f51a9556c69ed204") false
    fnExactLastAt_row (fun _ h => by cases h) (by kernel_rfl) (fun _ h => by cases h) fnExactLastAt_row_tie rfl ⟨rfl, rfl⟩ (by kernel_rfl) rfl
    (fun f fn hf hfn => by
      obtain rfl : f = 5 := Option.some.inj ((show Tryz.prog.funcNamed "loop.example/g00380/laws.FnExactLastAt" = some 5 by kernel_rfl).symm.trans hf) |>.symm
      obtain rfl : fn = Tryz.f5 := (Option.some.inj (Tryz.func5.symm.trans hfn)).symm
      exact ⟨by kernel_rfl, fun j t ht => by
        rw [Tryz.params5] at ht
        have hm : t ∈ [25, 3] := by simpa using Array.mem_of_getElem? ht
        have hall : ([25, 3].all fun u => !Tryz.prog.wantsStandIn u) = true := by kernel_rfl
        exact (show Tryz.prog.wantsStandIn t = false by simpa using List.all_eq_true.1 hall t hm)⟩)
    (by kernel_rfl)
#print axioms fnExactLastAt_holds
end Go.Proofs.YtmchpaccdnnilaaGreatDoor
