/- At every filter the program's answer whether it is right is the specification's, and the filter reads as before, behind the call too; the library's tables that the row lists are as its text lays them. -/
import Derived.Test.YtgjknfbkkfidbaaDoorFiltX
import Derived.Test.YtgjknfbkkfidbaaDoorTie
import Derived.Test.YtgjknfbkkfidbaaDoorCards
import Derived.LaidMore
import Derived.Lay
import Derived.Stop.Joined
import Derived.SevenTiedAt
import Derived.ProofKit
import Derived.OpenShut
import Derived.ShutString
import Derived.ChangeOld
import Derived.Below
import Derived.Lib.SmallJoins
namespace Go.Proofs.YtgjknfbkkfidbaaDoor
open Go.ChangeShapes Go.WideShapes Go.ChangeAt Go.RowKit Go.Joins
open Go.ChangeMaps (open_string shut_string)
set_option linter.unusedVariables false
namespace PFil

set_option maxRecDepth 8000 in
set_option maxHeartbeats 2000000 in
theorem walk (a : Option Addr) (cap : Nat) (f : List (List Trm)) (hl : f.length ≤ maxLen) (hs : ∀ l ∈ f, maxC l) (w : World) (hin : InCl w a f) :
    Calls Tryd.prog 5 #[.agg #[.slice a f.length cap]] w fun e w' => e = .returned (.bool true) ∧ Below w.heap.size w w' := by
  have hb0 : Below w.heap.size w (w.alloc (.cells #[.slice a f.length cap] 42)) := (Below.refl _ _).alloc (Nat.le_refl _) _
  have c0 : (w.alloc (.cells #[.slice a f.length cap] 42)).cell? ⟨w.heap.size, 0, none⟩ = some (.slice a f.length cap) := by simp [go_sem]
  have hl0 : w.heap.size < (w.alloc (.cells #[.slice a f.length cap] 42)).heap.size := by simp
  have HZ : Hid (Calls _ _ _ _ _) := szFilter_any a cap f 1048576 (w.alloc (.cells #[.slice a f.length cap] 42)) (hin.step hb0) hl hs (by omega) (by omega)
  have HIN : Hid (InCl _ _ _) := hin.step hb0
  clear hin hs
  go_enter Tryd.func5, Tryd.ntmps5
  go_wp2_with fail
  generalize w.alloc (.cells #[.slice a f.length cap] 42) = W0 at hb0 c0 hl0 HZ HIN ⊢
  refine HZ.out.mono ?_
  rintro e w1 ⟨⟨r, rfl, hr⟩, hb⟩
  have B1 := hb0.trans (hb.mono hb0.size)
  have k1 := (hb.cell hl0).trans c0
  have l1 : w.heap.size < w1.heap.size := Nat.lt_of_lt_of_le hl0 hb.size
  have HIN1 : Hid (InCl _ _ _) := HIN.out.step hb
  clear hb HIN HZ c0 hl0 hb0
  rcases hr with hneg | ⟨hr0, hr1, hr2, hr3⟩
  · go_wp2_with fail
    go_ret
    exact ⟨rfl, B1⟩
  have hnn : ¬ r < 0 := by omega
  have HSZ : Hid (∀ l ∈ f, szC l) := hr3
  have HSL : Hid (∀ l ∈ f, l.length ≤ 1048576) := fun l hl => (hr3 l hl).1
  clear hr3
  obtain ⟨R, hR⟩ : ∃ R, R = filtB f := ⟨_, rfl⟩
  have HR : Hid _ := hR
  clear hR
  go_wp2_with fail
  refine (toFilter_any a cap f _ HIN1.out hr2 HSL.out).mono ?_
  rintro e w2 ⟨⟨g2, rfl, R2⟩, hb⟩
  have B2 := B1.trans (hb.mono B1.size)
  have k2 := (hb.cell l1).trans k1
  have l2 : w.heap.size < w2.heap.size := Nat.lt_of_lt_of_le l1 hb.size
  have HIN2 : Hid (InCl _ _ _) := HIN1.out.step hb
  have HR2 : Hid (ReadC _ _ _) := R2
  clear hb HIN1 k1 l1 B1 R2
  go_wp2_with fail
  refine (specFilt_any _ _ f _ (.inr ⟨g2, rfl, HR2.out⟩) hr2 HSZ.out).mono ?_
  rintro e w3 ⟨rfl, hb⟩
  rw [← HR.out]
  have B3 := B2.trans (hb.mono B2.size)
  have k3 := (hb.cell l2).trans k2
  have l3 : w.heap.size < w3.heap.size := Nat.lt_of_lt_of_le l2 hb.size
  have HIN3 : Hid (InCl _ _ _) := HIN2.out.step hb
  clear hb HIN2 k2 l2 B2 HR2
  go_wp2_with fail
  refine (toFilter_any a cap f _ HIN3.out hr2 HSL.out).mono ?_
  rintro e w4 ⟨⟨g4, rfl, R4⟩, hb⟩
  have hbA : Below w3.heap.size w3 (w4.alloc (.cells #[.slice (some ⟨g4, 0, none⟩) f.length f.length] 47)) := hb.alloc hb.size _
  have B5 := B3.trans (hbA.mono B3.size)
  have k5 := (hbA.cell l3).trans k3
  have l5 : w.heap.size < (w4.alloc (.cells #[.slice (some ⟨g4, 0, none⟩) f.length f.length] 47)).heap.size := Nat.lt_of_lt_of_le l3 hbA.size
  have HIN5 : Hid (InCl _ _ _) := HIN3.out.step hbA
  have HR5 : Hid (ReadC _ _ _) := R4.next ((Below.refl _ _).alloc (Nat.le_refl _) (.cells #[.slice (some ⟨g4, 0, none⟩) f.length f.length] 47))
  have x5 : (w4.alloc (.cells #[.slice (some ⟨g4, 0, none⟩) f.length f.length] 47)).cell? ⟨w4.heap.size, 0, none⟩ = some (.slice (some ⟨g4, 0, none⟩) f.length f.length) := by simp [go_sem]
  have m5 : w4.heap.size < (w4.alloc (.cells #[.slice (some ⟨g4, 0, none⟩) f.length f.length] 47)).heap.size := by simp
  clear hb hbA HIN3 k3 l3 B3 R4
  go_wp2_with fail
  generalize w4.alloc (.cells #[.slice (some ⟨g4, 0, none⟩) f.length f.length] 47) = W5 at B5 k5 l5 HIN5 HR5 x5 m5 ⊢
  obtain ⟨bx, hbx⟩ : ∃ bx, bx = w4.heap.size := ⟨_, rfl⟩
  rw [← hbx] at x5 m5 ⊢
  clear hbx
  refine (filterOK_any _ _ f _ (.inr ⟨g4, rfl, HR5.out⟩) hr2 HSZ.out).mono ?_
  rintro e w6 ⟨rfl, hb⟩
  rw [← HR.out]
  have B6 := B5.trans (hb.mono B5.size)
  have k6 := (hb.cell l5).trans k5
  have l6 : w.heap.size < w6.heap.size := Nat.lt_of_lt_of_le l5 hb.size
  have x6 := (hb.cell m5).trans x5
  have m6 : bx < w6.heap.size := Nat.lt_of_lt_of_le m5 hb.size
  have HIN6 : Hid (InCl _ _ _) := HIN5.out.step hb
  have HR6 : Hid (ReadC _ _ _) := HR5.out.next hb
  clear hb HIN5 k5 l5 B5 HR5 x5 m5
  go_wp2_with fail
  go_region_with (first | (go_at_call 16; refine (toFilter_any a cap f _ (HIN6.out.step (by (repeat (first | (with_reducible exact Below.refl _ _) | (with_reducible assumption) | (with_reducible apply below_drewN) | (with_reducible apply Below.drew) | ((with_reducible refine Below.setCell ?_ ?_ _); rotate_left; focus (first | (simp; done) | (simp; omega) | omega)) | ((with_reducible refine Below.alloc ?_ ?_ _); rotate_left; focus (first | (simp; done) | (simp; omega) | omega)))))) hr2 HSL.out).mono ?_; rintro e w7 ⟨⟨g7, rfl, R7⟩, hb⟩; have hB7 : Below w6.heap.size w6 w7 := (show Below w6.heap.size w6 _ by (repeat (first | (with_reducible exact Below.refl _ _) | (with_reducible assumption) | (with_reducible apply below_drewN) | (with_reducible apply Below.drew) | ((with_reducible refine Below.setCell ?_ ?_ _); rotate_left; focus (first | (simp; done) | (simp; omega) | omega)) | ((with_reducible refine Below.alloc ?_ ?_ _); rotate_left; focus (first | (simp; done) | (simp; omega) | omega))))).trans (hb.mono (by simp)); have x7 := (hB7.cell m6).trans x6; have k7 := (hB7.cell l6).trans k6; have HR7 : Hid (ReadC _ _ _) := R7; clear R7 hb) | (go_at_call 18; refine (eqFilter_same _ _ _ _ f _ (.inr ⟨g4, rfl, HR6.out.next hB7⟩) (.inr ⟨g7, rfl, HR7.out⟩) hr2 HSL.out).mono ?_; rintro e w8 ⟨rfl, hb⟩; have hB8 := hB7.trans (hb.mono hB7.size); clear hb))
  all_goals
    have hbz := B6.trans (hB8.mono B6.size)
    go_wp2_with fail
    go_ret
    exact ⟨rfl, hbz⟩

theorem own : ownKnob Tryd.prog.godebug = none := by kernel_rfl
theorem laidOut : laidOutB Tryd.prog = true := by kernel_rfl

set_option maxRecDepth 100000 in
theorem lifted (os : Os) (started : os.Started) (H : Type) (enc : TypeId × Value → H) :
    ReturnsInHanded {} Tryd.checked os 5 .any (fun w args => (Rows.fnExactFilterOKSpec.pre enc Tryd.prog Tryd.f5 Rows.fnExactFilterOKRow.domain false w args ∧ laidMetH Tryd.prog Rows.fnExactFilterOKRow.laid w) ∧ sizedMet enc Tryd.prog Tryd.f5 (OpenSpec.ofChange Rows.fnExactFilterOKSpec) false w args)
      (Rows.fnExactFilterOKSpec.post enc Tryd.prog Tryd.f5 false true false false) := by
  refine returnsInHanded_of_change_and (C := Tryd.checked) (X := fun w _ => laidMetH Tryd.prog Rows.fnExactFilterOKRow.laid w) (fun _ _ _ hh h => h.of_heap hh) own started (by kernel_rfl) Tryd.func5
    (ChangeSpec.witness_shaped (enc := enc) (C := Tryd.checked) (os := os) (X := fun w _ => laidMetH Tryd.prog Rows.fnExactFilterOKRow.laid w) false (World.laidAll Tryd.prog os Rows.fnExactFilterOKRow.laid) #[.agg #[.slice none 0 0]] 8 (World.laidAll_os _ _ _)
      (World.shaped_of_ZipB (by kernel_rfl) (by kernel_rfl)) (by kernel_rfl) (by kernel_rfl) (by kernel_rfl)
      (by rw [MakeChecks.laidMetH_plain _ _ _ (by kernel_rfl)]; exact laidMet_laidAll _ (by kernel_rfl) (by kernel_rfl))) ?_
  intro W base args ds gs before hval0 hW hcnd _ hL _
  have hval : ∀ (j : Nat) t v, Tryd.f5.params[j]? = some t → args[j]? = some v → Value.okWide Tryd.prog W .any base t v := hval0
  have hW' := hW
  obtain ⟨p, q, hA0, hV, rfl, hfz, hnd⟩ := hW
  have hA : DataW.TrodAll enc Tryd.prog W 0 (fun _ => true) true Tryd.f5.params.toList args.toList ds p := hA0
  rw [Tryd.params5] at hA hval
  obtain ⟨v0, vs0, d0, ds0, p0, q0, hargs, rfl, rfl, h0, r0⟩ := trodAll_cons hA
  obtain ⟨rfl, rfl, rfl⟩ := trodAll_nil r0
  obtain rfl : args = #[v0] := by cases args; simp_all
  obtain ⟨rfl, rfl⟩ := trodVars_none hV
  have k0 := h0
  have lt0 : ∀ x ∈ p0, x.block < W.heap.size := by obtain ⟨m, hm⟩ := k0; exact DataW.trod_lt m _ _ _ hm
  obtain ⟨x0, cap0, f0, rfl, hl0, hs0, i0⟩ := open_filter (hval 0 42 v0 rfl rfl) h0
  clear hA0 hval0
  refine (walk x0 cap0 f0 hl0 hs0 W i0).mono fun e W' ⟨he, bel⟩ => ?_
  subst he
  exact ⟨_, rfl, _, _, _, [], _, [], hW', trodAll_mk1 (shut_bool Tryd.underlying4 _), (trodAll_cons_mk (Below.trod laidOut (by kernel_rfl) (of_decide_eq_true (by kernel_rfl)) k0 bel lt0) trodAll_mk0), rfl, bel.frame _, fun h => by cases h⟩
end PFil

theorem fnExactFilterOK_row : Rows.FnExactFilterOKSaid :=
  OpenClaim.holds_of_wide 5 Tryd.f5 rfl rfl rfl rfl rfl rfl rfl ⟨rfl, rfl, rfl, rfl, rfl⟩ rfl rfl rfl rfl rfl (by kernel_rfl) Tryd.func5 (by kernel_rfl)
    (of_decide_eq_true (by kernel_rfl)) (by unfold Func.isWrapper; first | (rw [if_pos (by decide +kernel)]; kernel_rfl) | (rw [if_neg (by decide +kernel)]; exact ⟨rfl, rfl⟩))
    (fun os started H enc _ => PFil.lifted os started H enc)
theorem fnExactFilterOK_holds : Rows.FnExactFilterOKCardSaid :=
  Claim7.holds_tied_plain_at .later [] [.data, .pinned] true (true, "1dce2f2a459b6baf8befa8d4cc0fa7a05bbdaedc1a7466d4bf7cf26d5a33aef4") false
    fnExactFilterOK_row (fun _ h => by cases h) (by kernel_rfl) (fun _ h => by cases h) fnExactFilterOK_row_tie rfl ⟨rfl, rfl⟩ (by kernel_rfl) rfl
    (fun f fn hf hfn => by
      obtain rfl : f = 5 := Option.some.inj ((show Tryd.prog.funcNamed "loop.example/g00380/laws.FnExactFilterOK" = some 5 by kernel_rfl).symm.trans hf) |>.symm
      obtain rfl : fn = Tryd.f5 := (Option.some.inj (Tryd.func5.symm.trans hfn)).symm
      exact ⟨by kernel_rfl, fun j t ht => by
        rw [Tryd.params5] at ht
        have hm : t ∈ [42] := by simpa using Array.mem_of_getElem? ht
        have hall : ([42].all fun u => !Tryd.prog.wantsStandIn u) = true := by kernel_rfl
        exact (show Tryd.prog.wantsStandIn t = false by simpa using List.all_eq_true.1 hall t hm)⟩)
    (by kernel_rfl)
#print axioms fnExactFilterOK_holds
end Go.Proofs.YtgjknfbkkfidbaaDoor
