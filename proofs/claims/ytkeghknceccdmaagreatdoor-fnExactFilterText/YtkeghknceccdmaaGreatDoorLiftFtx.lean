/- The law's walk, lifted to the row. -/
import Derived.Test.YtkeghknceccdmaaGreatDoorFtxD
import Derived.Test.YtkeghknceccdmaaGreatDoorOpenF
import Derived.ChangeVars
import Derived.WalkSmall
import Derived.Test.YtkeghknceccdmaaGreatDoorRows
import Derived.Test.YtkeghknceccdmaaGreatDoorTie
import Derived.Test.YtkeghknceccdmaaGreatDoorCards
import Derived.LaidMore
import Derived.Lay
import Derived.Stop.Joined
import Derived.SevenTiedAt
import Derived.ProofKit
import Derived.OpenShut
import Derived.ShutString
import Derived.ChangeOld
import Derived.Below
import Derived.Lib.SmallJoins
import Derived.Test.YtkeghknceccdmaaGreatDoorWalkFtx
namespace Go.Proofs.YtkeghknceccdmaaGreatDoor
open Go.ChangeShapes Go.WideShapes Go.ChangeAt Go.RowKit Go.Joins
open Go.ChangeMaps (open_string shut_string)
set_option linter.unusedVariables false
namespace FtxLaw
theorem own : ownKnob Tryz.prog.godebug = none := by kernel_rfl
theorem laidOut : laidOutB Tryz.prog = true := by kernel_rfl

set_option maxRecDepth 100000 in
theorem lifted (os : Os) (started : os.Started) (H : Type) (enc : TypeId × Value → H) :
    ReturnsInHanded {} Tryz.checked os 4 .any (fun w args => (Rows.fnExactFilterTextSpec.pre enc Tryz.prog Tryz.f4 Rows.fnExactFilterTextRow.domain false w args ∧ laidMetH Tryz.prog Rows.fnExactFilterTextRow.laid w) ∧ sizedMet enc Tryz.prog Tryz.f4 (OpenSpec.ofChange Rows.fnExactFilterTextSpec) false w args)
      (Rows.fnExactFilterTextSpec.post enc Tryz.prog Tryz.f4 false true false false) := by
  refine returnsInHanded_of_change_and (C := Tryz.checked) (X := fun w _ => laidMetH Tryz.prog Rows.fnExactFilterTextRow.laid w) (fun _ _ _ hh h => h.of_heap hh) own started (by kernel_rfl) Tryz.func4
    (ChangeSpec.witness_shaped (enc := enc) (C := Tryz.checked) (os := os) (X := fun w _ => laidMetH Tryz.prog Rows.fnExactFilterTextRow.laid w) false (World.laidAll Tryz.prog os Rows.fnExactFilterTextRow.laid) #[.agg #[.slice none 0 0]] 8 (World.laidAll_os _ _ _)
      (World.shaped_of_ZipB (by kernel_rfl) (by kernel_rfl)) (by kernel_rfl) (by kernel_rfl) (by kernel_rfl)
      (by rw [MakeChecks.laidMetH_plain _ _ _ (by kernel_rfl)]; exact laidMet_laidAll _ (by kernel_rfl) (by kernel_rfl))) ?_
  intro W base args ds gs before hval0 hW hcnd _ hL _
  have hTab := tab_of_laid hL
  have hval : ∀ (j : Nat) t v, Tryz.f4.params[j]? = some t → args[j]? = some v → Value.okWide Tryz.prog W .any base t v := hval0
  have hW' := hW
  obtain ⟨p, q, hA0, hV, rfl, hfz, hnd⟩ := hW
  have hA : DataW.TrodAll enc Tryz.prog W 0 (fun _ => true) true Tryz.f4.params.toList args.toList ds p := hA0
  rw [Tryz.params4] at hA hval
  obtain ⟨v0, vs0, d0, ds0, p0, q0, hargs, rfl, rfl, h0, r0⟩ := trodAll_cons hA
  obtain ⟨rfl, rfl, rfl⟩ := trodAll_nil r0
  obtain rfl : args = #[v0] := by cases args; simp_all
  have hV1 : DataW.TrodVars enc Tryz.prog W (fun _ => true) ["loop.example/g00380/impl.termWords"] gs q := hV
  obtain ⟨gg, tt, cs, fuelv, dv, pv, rfl, hg, ht, hvar, hdv, rfl⟩ := trodVars_one hV1
  obtain rfl := Option.some.inj (gWordsT.symm.trans hg)
  obtain rfl := Option.some.inj (tWordsT.symm.trans ht)
  obtain rfl : cs = cells11 := Option.some.inj (hvar.symm.trans (cells_of_laidT hL))
  obtain ⟨rfl, rfl⟩ := DataW.Trod.unique (v := .agg cells11) ⟨fuelv, hdv⟩ ⟨3, reads_tableT enc W _⟩
  have k0 := h0
  have lt0 : ∀ x ∈ p0, x.block < W.heap.size := by obtain ⟨m, hm⟩ := k0; exact DataW.trod_lt m _ _ _ hm
  obtain ⟨x0, cap0, f0, rfl, hl0, hs0, i0⟩ := open_filter (hval 0 48 v0 rfl rfl) h0
  clear hA0 hval0
  refine (walk x0 cap0 f0 hl0 hs0 W hTab i0).mono fun e W' ⟨he, bel⟩ => ?_
  subst he
  have hvars : ∀ sp : Nat → Bool, DataW.TrodVars enc Tryz.prog W' sp ["loop.example/g00380/impl.termWords"] [tableT] (MemPlace.row ⟨0, 0, none⟩ cells11.size ++ [] ++ []) := fun sp =>
    ⟨0, 187, cells11, 3, [], [], hg, ht, var?_below bel gWordsT hTab.2.lt hvar, reads_tableT enc W' sp, rfl, rfl⟩
  exact ⟨_, rfl, _, _, _, [], _, _, hW', trodAll_mk1 (shut_bool Tryz.underlying4 _), (trodAll_cons_mk (Below.trod laidOut (by kernel_rfl) (of_decide_eq_true (by kernel_rfl)) k0 bel lt0) trodAll_mk0), hvars _, bel.frame _, fun h => by cases h⟩
end FtxLaw
end Go.Proofs.YtkeghknceccdmaaGreatDoor
