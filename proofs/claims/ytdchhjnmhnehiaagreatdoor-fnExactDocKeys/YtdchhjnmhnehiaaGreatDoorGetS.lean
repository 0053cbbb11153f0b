/- What the specification's way along a path answers, for every right value. -/
import Derived.Test.YtdchhjnmhnehiaaGreatDoorGetM
import Derived.Test.YtdchhjnmhnehiaaGreatDoorSplitS
import Derived.Test.YtdchhjnmhnehiaaGreatDoorRowF
import Derived.Test.YtdchhjnmhnehiaaGreatDoorListA
import Derived.Deep.RegionWith
namespace Go.Proofs.YtdchhjnmhnehiaaGreatDoor
open Go.RowKit
set_option linter.unusedVariables false

/-- A value, and whether it is there. -/
def fieldR (nm : ByteArray) (l : List Fld) : Val × Bool := match fieldV nm l with | none => (zv, false) | some x => (x, true)
theorem fieldR_none (nm : ByteArray) (l : List Fld) (h : fieldV nm l = none) : fieldR nm l = (zv, false) := by unfold fieldR; rw [h]
theorem fieldR_some (nm : ByteArray) (l : List Fld) (x : Val) (h : fieldV nm l = some x) : fieldR nm l = (x, true) := by unfold fieldR; rw [h]

set_option maxRecDepth 4000 in
set_option maxHeartbeats 2000000 in
theorem l02Field_any (k n : Int) (t nm : ByteArray) (l : List Fld) (w : World) (hs : t.size ≤ 1048576) (hf : fields t = some l) (hl : l.length ≤ 1048576) :
    Calls Tryz.prog 146 #[.agg #[.int .i64 k, .int .i64 n, .string t], .string nm] w fun e w' => e = .returned (.tuple #[aggV (fieldR nm l).1, .bool (fieldR nm l).2]) ∧ Below w.heap.size w w' := by
  obtain ⟨P, hP⟩ : ∃ P, P = fieldR nm l := ⟨_, rfl⟩
  rw [← hP]
  have HP : Hid _ := hP
  have HF : Hid _ := hf
  have Y0 := Res3.start (w.alloc (.cells #[.int .i64 k, .int .i64 n, .string t] 38)) (.int .i64 0) (.int .i64 0) (.string em) 38
  clear hP hf
  go_enter Tryz.func146, Tryz.ntmps146
  go_wp2_with fail
  refine (l01Fields_any t _ hs).mono ?_
  rintro e w1 ⟨⟨g, m, cap, rfl, hown0⟩, hb⟩
  obtain ⟨rfl, hown⟩ := hown0 l HF.out
  clear hown0
  rw [HF.out]
  have Y1 := Y0.step hb
  have HR : Hid _ := ReadF.of_own hown
  have hbw : Below w.heap.size w w1 := ((Below.refl _ _).alloc (Nat.le_refl _) _).trans (Y1.bel.mono (by simp))
  have HBW : Hid _ := hbw
  clear hb hown Y0 hbw
  go_wp2_with fail
  go_loopw [8] (fun i wr => ∃ q : Nat, q ≤ l.length ∧ i = .int .i64 q ∧ (∀ j (h : j < l.length), j < q → l[j].name ≠ nm) ∧ Below w1.heap.size w1 wr) (fun i _ => l.length - (intOf i).toNat)
  case atStart => exact ⟨0, Nat.zero_le _, rfl, fun j h h2 => absurd h2 (by omega), Below.refl _ _⟩
  case round =>
    obtain ⟨q, hq, rfl, hno, hbel⟩ := hrel
    have HN : Hid _ := hno
    clear hno
    have Y := Y1.step hbel
    have hbw : Below w.heap.size w wr := HBW.out.trans (hbel.mono HBW.out.size)
    have R := HR.out.next hbel
    have g0 := Y.c0
    have g1 := Y.c1
    have g2 := Y.c2
    have z0 := Y.z0
    have z1 := Y.z1
    have z2 := Y.z2
    have hlt1 := Y.lt
    simp only [heap_size_alloc] at g0 g1 g2 z0 z1 z2 hlt1
    clear Y
    by_cases hlt : q < l.length
    · obtain ⟨x0, x1, x2, x3⟩ := R.cells q hlt
      have hgl := R.lt
      clear R
      by_cases hn : l[q].name = nm
      · have hb1 : (l[q].name.toList == nm.toList) = true := (eqL _ _).mpr hn
        have hp := HP.out
        rw [fieldR_some nm l l[q].v (fieldV_at nm l q hlt HN.out hn)] at hp
        subst hp
        clear HP
        go_wp2_with fail
        refine bodyPost_ret (v := .tuple #[aggV l[q].v, .bool true]) (by simp [results, Tryz.results146, go_sem, *]) rfl ⟨rfl, ?_⟩
        (repeat (first | (with_reducible exact Below.refl _ _) | (with_reducible assumption) | (with_reducible apply below_drewN) | (with_reducible apply Below.drew) | ((with_reducible refine Below.setCell ?_ ?_ _); rotate_left; focus (first | (simp; done) | (simp; omega) | omega)) | ((with_reducible refine Below.alloc ?_ ?_ _); rotate_left; focus (first | (simp; done) | (simp; omega) | omega))))
      · have hb1 : (l[q].name.toList == nm.toList) = false := eqL_false _ _ hn
        have HQ : Hid _ := hn
        clear hn
        go_wp2_with fail
        go_roundw
        case rel =>
          refine ⟨q + 1, by omega, by go_num, ?_, hbel⟩
          intro j hj hjq
          rcases Nat.lt_or_ge j q with h | h
          · exact HN.out j hj h
          · obtain rfl : j = q := by omega
            exact HQ.out
        case measure => simp [intOf]; omega
    · have hp := HP.out
      rw [fieldR_none nm l (fieldV_none nm l (fun f hf => by
        obtain ⟨j, hj, rfl⟩ := List.getElem_of_mem hf
        exact HN.out j hj (by omega)))] at hp
      subst hp
      clear HP
      go_wp2_with fail
      refine bodyPost_ret (v := .tuple #[.agg #[.int .i64 0, .int .i64 0, .string em], .bool false]) (by simp [results, Tryz.results146, go_sem, *]) rfl ⟨rfl, ?_⟩
      (repeat (first | (with_reducible exact Below.refl _ _) | (with_reducible assumption) | (with_reducible apply below_drewN) | (with_reducible apply Below.drew) | ((with_reducible refine Below.setCell ?_ ?_ _); rotate_left; focus (first | (simp; done) | (simp; omega) | omega)) | ((with_reducible refine Below.alloc ?_ ?_ _); rotate_left; focus (first | (simp; done) | (simp; omega) | omega))))

end Go.Proofs.YtdchhjnmhnehiaaGreatDoor
