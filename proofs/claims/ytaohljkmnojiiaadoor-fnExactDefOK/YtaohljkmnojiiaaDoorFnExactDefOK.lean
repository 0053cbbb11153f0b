/- At every definition the program's DefOK answers as the specification's; it writes into no argument; the library's tables that the row lists are as its text lays them. -/
import Derived.Test.YtaohljkmnojiiaaDoorDefX
import Derived.Test.YtaohljkmnojiiaaDoorRows
import Derived.Test.YtaohljkmnojiiaaDoorTie
import Derived.Test.YtaohljkmnojiiaaDoorCards
import Derived.LaidMore
import Derived.Lay
import Derived.Stop.Joined
import Derived.SevenTiedAt
import Derived.ProofKit
import Derived.OpenShut
import Derived.ShutString
import Derived.ChangeOld
import Derived.Below
import Derived.Lib.SmallJoins
namespace Go.Proofs.YtaohljkmnojiiaaDoor
open Go.ChangeShapes Go.WideShapes Go.ChangeAt Go.RowKit Go.Joins
open Go.ChangeMaps (open_string shut_string)
set_option linter.unusedVariables false
namespace DefOKf
open Tr

theorem keepQ {w W w0 : World} {n : ByteArray} {v : Value} {bx : Nat} {a b : Value} (X : BoxD w W n v) (m : bx < W.heap.size) (x : W.cell? ⟨bx, 0, none⟩ = some a) (y : W.cell? ⟨bx, 1, none⟩ = some b) (hb : Below W.heap.size W w0) :
    w0.cell? ⟨w.heap.size, 0, none⟩ = some (.string n) ∧ w0.cell? ⟨w.heap.size, 1, none⟩ = some v ∧ w0.cell? ⟨bx, 0, none⟩ = some a ∧ w0.cell? ⟨bx, 1, none⟩ = some b :=
  ⟨(X.step hb).c0, (X.step hb).c1, (hb.cell m).trans x, (hb.cell m).trans y⟩
set_option maxRecDepth 8000 in
set_option maxHeartbeats 4000000 in
theorem walk (n : ByteArray) (a : Option Addr) (cap : Nat) (l : List Prt) (hn : n.size ≤ maxLen) (hl : l.length ≤ maxLen) (hs : ∀ v ∈ l, maxPt v) (w : World) (hin : InD w a l) :
    Calls Tryd.prog 3 #[.agg #[.string n, .slice a l.length cap]] w fun e w' => e = .returned (.bool true) ∧ Below w.heap.size w w' := by
  have X0 := BoxD.start w n (.slice a l.length cap) 24
  have HIN : Hid (InD w a l) := hin
  have HZ : Hid (∀ W : World, InD W a l → Calls _ _ _ W _) := fun W hW => szDef_any n a cap l W hW hn hl hs
  clear hin hs
  go_enter Tryd.func3, Tryd.ntmps3
  go_wp2_with fail
  refine (HZ.out _ (HIN.out.step X0.bel)).mono ?_
  rintro e w1 ⟨⟨r, rfl, hr⟩, hb⟩
  have X1 := X0.step hb
  clear hb HZ X0
  rcases hr with hneg | ⟨hr0, hr1, hr2, hr3⟩
  · have hbw := X1.bel
    go_wp2_with fail
    go_ret
    exact ⟨rfl, hbw⟩
  have hnn : ¬ r < 0 := by omega
  have HS : Hid (∀ (g : Nat) (W : World), RowD W (some ⟨g, 0, none⟩) l → Calls _ _ _ W _) := fun g W hW => specDef_any n (some ⟨g, 0, none⟩) l.length l W hW hr1 hr2 hr3
  have HI : Hid (∀ (g : Nat) (W : World), RowD W (some ⟨g, 0, none⟩) l → Calls _ _ _ W _) := fun g W hW => defOK_any n (some ⟨g, 0, none⟩) l.length l W hW hr1 hr2 (Nat.le_refl _) hr3
  obtain ⟨P, hP⟩ : ∃ P, P = defB n l := ⟨_, rfl⟩
  rw [← hP] at HS HI
  clear hr3 hP
  have c0 := X1.c0
  have c1 := X1.c1
  go_wp2_with fail
  refine (toDef_any n a cap l _ (HIN.out.step X1.bel) hr2).mono ?_
  rintro e w2 ⟨⟨g2, rfl, O2⟩, hb⟩
  have X2 := X1.step hb
  have HO2 : Hid (RowD _ _ _) := O2.rowD rfl
  clear hb X1 c0 c1 O2
  go_wp2_with fail
  refine (HS.out g2 _ HO2.out).mono ?_
  rintro e w3 ⟨rfl, hb⟩
  have X3 := X2.step hb
  clear hb X2 HO2
  have c0 := X3.c0
  have c1 := X3.c1
  go_wp2_with fail
  refine (toDef_any n a cap l _ (HIN.out.step X3.bel) hr2).mono ?_
  rintro e w4 ⟨⟨g4, rfl, O4⟩, hb⟩
  have hbA : Below w4.heap.size w4 (w4.alloc (.cells #[.string n, .slice (some ⟨g4, 0, none⟩) l.length l.length] 29)) := (Below.refl _ _).alloc (Nat.le_refl _) _
  have X5 := (X3.step hb).step hbA
  have HO5 : Hid (RowD _ _ _) := (O4.rowD rfl).next hbA
  have HI5 : Hid (InD _ _ _) := (ReadD.inD (ReadD.of_own O4)).step hbA
  have x5 : (w4.alloc (.cells #[.string n, .slice (some ⟨g4, 0, none⟩) l.length l.length] 29)).cell? ⟨w4.heap.size, 0, none⟩ = some (.string n) := by simp [go_sem]
  have y5 : (w4.alloc (.cells #[.string n, .slice (some ⟨g4, 0, none⟩) l.length l.length] 29)).cell? ⟨w4.heap.size, 1, none⟩ = some (.slice (some ⟨g4, 0, none⟩) l.length l.length) := by simp [go_sem]
  have m5 : w4.heap.size < (w4.alloc (.cells #[.string n, .slice (some ⟨g4, 0, none⟩) l.length l.length] 29)).heap.size := by simp
  clear hb X3 c0 c1 O4 hbA
  go_wp2_with fail
  generalize w4.alloc (.cells #[.string n, .slice (some ⟨g4, 0, none⟩) l.length l.length] 29) = W5 at X5 HO5 HI5 x5 y5 m5 ⊢
  refine (HI.out g4 _ HO5.out).mono ?_
  rintro e w6 ⟨rfl, hb⟩
  have X6 := X5.step hb
  have HI6 : Hid (InD _ _ _) := HI5.out.step hb
  have x6 := (hb.cell m5).trans x5
  have y6 := (hb.cell m5).trans y5
  have m6 : w4.heap.size < w6.heap.size := Nat.lt_of_lt_of_le m5 hb.size
  clear hb X5 HO5 HI5 x5 y5 m5
  obtain ⟨bx, hbx⟩ : ∃ bx, bx = w4.heap.size := ⟨_, rfl⟩
  rw [← hbx] at x6 y6 m6 ⊢
  clear hbx
  cases P
  all_goals
    go_wp2_with fail
    go_region_held3 (fun w0 => w0.cell? ⟨w.heap.size, 0, none⟩ = some (.string n) ∧ w0.cell? ⟨w.heap.size, 1, none⟩ = some (.slice a l.length cap) ∧ w0.cell? ⟨bx, 0, none⟩ = some (.string n) ∧ w0.cell? ⟨bx, 1, none⟩ = some (.slice (some ⟨g4, 0, none⟩) l.length l.length)) ((refine keepQ X6 m6 x6 y6 ?_; (repeat (first | (with_reducible exact Below.refl _ _) | (with_reducible assumption) | (with_reducible apply below_drewN) | (with_reducible apply Below.drew) | ((with_reducible refine Below.setCell ?_ ?_ _); rotate_left; focus (first | (simp; done) | (simp; omega) | omega)) | ((with_reducible refine Below.alloc ?_ ?_ _); rotate_left; focus (first | (simp; done) | (simp; omega) | omega)))))) (first | (go_at_call 6; refine (toDef_any n a cap l _ (HIN.out.step (X6.bel.trans ((show Below w6.heap.size w6 _ by (repeat (first | (with_reducible exact Below.refl _ _) | (with_reducible assumption) | (with_reducible apply below_drewN) | (with_reducible apply Below.drew) | ((with_reducible refine Below.setCell ?_ ?_ _); rotate_left; focus (first | (simp; done) | (simp; omega) | omega)) | ((with_reducible refine Below.alloc ?_ ?_ _); rotate_left; focus (first | (simp; done) | (simp; omega) | omega))))).mono X6.bel.size))) hr2).mono ?_; rintro e w7 ⟨⟨g7, rfl, O7⟩, hb⟩; have hB7 : Below w6.heap.size w6 w7 := (show Below w6.heap.size w6 _ by (repeat (first | (with_reducible exact Below.refl _ _) | (with_reducible assumption) | (with_reducible apply below_drewN) | (with_reducible apply Below.drew) | ((with_reducible refine Below.setCell ?_ ?_ _); rotate_left; focus (first | (simp; done) | (simp; omega) | omega)) | ((with_reducible refine Below.alloc ?_ ?_ _); rotate_left; focus (first | (simp; done) | (simp; omega) | omega))))).trans (hb.mono (by simp)); have HO7 : Hid (InD w7 (some ⟨g7, 0, none⟩) l) := ReadD.inD (ReadD.of_own O7); clear hb O7) | (go_at_call 8; refine (eqDef_same n _ _ _ _ l _ (HI6.out.step hB7) HO7.out hr2).mono ?_; rintro e w8 ⟨rfl, hb⟩; have hB8 : Below w6.heap.size w6 w8 := hB7.trans (hb.mono hB7.size); clear hb))
    have hbw := (X6.step hB8).bel
    go_wp2_with fail
    go_ret
    exact ⟨rfl, hbw⟩

theorem own : ownKnob Tryd.prog.godebug = none := by kernel_rfl
theorem laidOut : laidOutB Tryd.prog = true := by kernel_rfl

set_option maxRecDepth 100000 in
theorem lifted (os : Os) (started : os.Started) (H : Type) (enc : TypeId × Value → H) :
    ReturnsInHanded {} Tryd.checked os 3 .any (fun w args => (Rows.fnExactDefOKSpec.pre enc Tryd.prog Tryd.f3 Rows.fnExactDefOKRow.domain false w args ∧ laidMetH Tryd.prog Rows.fnExactDefOKRow.laid w) ∧ sizedMet enc Tryd.prog Tryd.f3 (OpenSpec.ofChange Rows.fnExactDefOKSpec) false w args)
      (Rows.fnExactDefOKSpec.post enc Tryd.prog Tryd.f3 false true false false) := by
  refine returnsInHanded_of_change_and (C := Tryd.checked) (X := fun w _ => laidMetH Tryd.prog Rows.fnExactDefOKRow.laid w) (fun _ _ _ hh h => h.of_heap hh) own started (by kernel_rfl) Tryd.func3
    (ChangeSpec.witness_shaped (enc := enc) (C := Tryd.checked) (os := os) (X := fun w _ => laidMetH Tryd.prog Rows.fnExactDefOKRow.laid w) false (World.laidAll Tryd.prog os Rows.fnExactDefOKRow.laid) #[.agg #[.string ByteArray.empty, .slice none 0 0]] 8 (World.laidAll_os _ _ _)
      (World.shaped_of_ZipB (by kernel_rfl) (by kernel_rfl)) (by kernel_rfl) (by kernel_rfl) (by kernel_rfl)
      (by rw [MakeChecks.laidMetH_plain _ _ _ (by kernel_rfl)]; exact laidMet_laidAll _ (by kernel_rfl) (by kernel_rfl))) ?_
  intro W base args ds gs before hval0 hW hcnd _ hL _
  have hval : ∀ (j : Nat) t v, Tryd.f3.params[j]? = some t → args[j]? = some v → Value.okWide Tryd.prog W .any base t v := hval0
  have hW' := hW
  obtain ⟨p, q, hA0, hV, rfl, hfz, hnd⟩ := hW
  have hA : DataW.TrodAll enc Tryd.prog W 0 (fun _ => true) true Tryd.f3.params.toList args.toList ds p := hA0
  rw [Tryd.params3] at hA hval
  obtain ⟨v0, vs0, d0, ds0, p0, q0, hargs, rfl, rfl, h0, r0⟩ := trodAll_cons hA
  obtain ⟨rfl, rfl, rfl⟩ := trodAll_nil r0
  obtain rfl : args = #[v0] := by cases args; simp_all
  obtain ⟨rfl, rfl⟩ := trodVars_none hV
  have k0 := h0
  have lt0 : ∀ x ∈ p0, x.block < W.heap.size := by obtain ⟨m, hm⟩ := k0; exact DataW.trod_lt m _ _ _ hm
  obtain ⟨nm0, x0, cap0, l0, rfl, wn0, hl0, hs0, i0⟩ := open_def (hval 0 24 v0 rfl rfl) h0
  clear hA0 hval0
  refine (walk nm0 x0 cap0 l0 wn0 hl0 hs0 W i0).mono fun e W' ⟨he, bel⟩ => ?_
  subst he
  exact ⟨_, rfl, _, _, _, [], _, [], hW', trodAll_mk1 (shut_bool Tryd.underlying4 _), (trodAll_cons_mk (Below.trod laidOut (by kernel_rfl) (of_decide_eq_true (by kernel_rfl)) k0 bel lt0) trodAll_mk0), rfl, bel.frame _, fun h => by cases h⟩
end DefOKf

theorem fnExactDefOK_row : Rows.FnExactDefOKSaid :=
  OpenClaim.holds_of_wide 3 Tryd.f3 rfl rfl rfl rfl rfl rfl rfl ⟨rfl, rfl, rfl, rfl, rfl⟩ rfl rfl rfl rfl rfl (by kernel_rfl) Tryd.func3 (by kernel_rfl)
    (of_decide_eq_true (by kernel_rfl)) (by unfold Func.isWrapper; first | (rw [if_pos (by decide +kernel)]; kernel_rfl) | (rw [if_neg (by decide +kernel)]; exact ⟨rfl, rfl⟩))
    (fun os started H enc _ => DefOKf.lifted os started H enc)
theorem fnExactDefOK_holds : Rows.FnExactDefOKCardSaid :=
  Claim7.holds_tied_plain_at .later [] [.data, .pinned] true (true, "d3f08b3eb6bf77db52292dfb1818746c98f27ba173deb39d714b47dea327c7c7") false
    fnExactDefOK_row (fun _ h => by cases h) (by kernel_rfl) (fun _ h => by cases h) fnExactDefOK_row_tie rfl ⟨rfl, rfl⟩ (by kernel_rfl) rfl
    (fun f fn hf hfn => by
      obtain rfl : f = 3 := Option.some.inj ((show Tryd.prog.funcNamed "loop.example/g00380/laws.FnExactDefOK" = some 3 by kernel_rfl).symm.trans hf) |>.symm
      obtain rfl : fn = Tryd.f3 := (Option.some.inj (Tryd.func3.symm.trans hfn)).symm
      exact ⟨by kernel_rfl, fun j t ht => by
        rw [Tryd.params3] at ht
        have hm : t ∈ [24] := by simpa using Array.mem_of_getElem? ht
        have hall : ([24].all fun u => !Tryd.prog.wantsStandIn u) = true := by kernel_rfl
        exact (show Tryd.prog.wantsStandIn t = false by simpa using List.all_eq_true.1 hall t hm)⟩)
    (by kernel_rfl)
#print axioms fnExactDefOK_holds
end Go.Proofs.YtaohljkmnojiiaaDoor
