/- What the library's search among fields that rise answers, for every name. -/
import Derived.Test.YtdchhjnmhnehiaaGreatDoorFindM
import Derived.Test.YtdchhjnmhnehiaaGreatDoorOrdJ
namespace Go.Proofs.YtdchhjnmhnehiaaGreatDoor
open Go.RowKit
set_option linter.unusedVariables false

set_option maxRecDepth 4000 in
set_option maxHeartbeats 1000000 in
theorem compareName_any (m : ByteArray) (k n : Int) (t nm : ByteArray) (w : World) :
    Calls Tryz.prog 155 #[.agg #[.string m, .int .i64 k, .int .i64 n, .string t], .string nm] w fun e w' => e = .returned (.int .i64 (cB m nm)) ∧ Below w.heap.size w w' := by
  go_enter Tryz.func155, Tryz.ntmps155
  go_wp2_with (go_at_call 160; refine (cmpStr_any _ _ _).mono ?_; rintro e w1 ⟨rfl, rfl⟩)
  go_ret
  exact ⟨rfl, (Below.refl _ _).alloc (Nat.le_refl _) _⟩

/-- What a search for a name answers: its place, and whether it is there. -/
def Found (l : List Fld) (nm : ByteArray) (e : Ending) : Prop := ∃ (i : Nat) (b : Bool), e = .returned (.tuple #[.int .i64 i, .bool b]) ∧ Place l nm i b
theorem Found.mk {l : List Fld} {nm : ByteArray} {e : Ending} (i : Nat) (b : Bool) (h : e = .returned (.tuple #[.int .i64 i, .bool b])) (hp : Place l nm i b) : Found l nm e := ⟨i, b, h, hp⟩
set_option maxRecDepth 8000 in
set_option maxHeartbeats 2000000 in
theorem search_any (p : Option Addr) (cap : Nat) (l : List Fld) (nm : ByteArray) (w : World) (hr : RowF w p l) (hs : Rise l) (hl : l.length ≤ 1048576) :
    Calls Tryz.prog 154 #[.slice p l.length cap, .string nm, .func (.func 155) #[] #[]] w fun e w' => Found l nm e ∧ Below w.heap.size w w' := by
  have HR : Hid (RowF _ _ _) := hr
  have HS : Hid (Rise _) := hs
  clear hr hs
  go_enter Tryz.func154, Tryz.ntmps154
  go_wp2_with fail
  go_loopw [9, 10] (fun u v wr => ∃ i j : Nat, i ≤ j ∧ j ≤ l.length ∧ u = .int .i64 i ∧ v = .int .i64 j ∧ (∀ q (h : q < l.length), q < i → ltB l[q].name nm = true) ∧ (∀ q (h : q < l.length), j ≤ q → ltB l[q].name nm = false) ∧ Below w.heap.size w wr) (fun u v _ => (intOf v).toNat - (intOf u).toNat)
  case atStart => exact ⟨0, l.length, Nat.zero_le _, Nat.le_refl _, rfl, rfl, fun q h h2 => absurd h2 (by omega), fun q h h2 => absurd h2 (by omega), Below.refl _ _⟩
  case round =>
    obtain ⟨i, j, hij, hj, rfl, rfl, hlo, hhi, hbel⟩ := hrel
    have HL : Hid _ := hlo
    have HH : Hid _ := hhi
    have hz := hbel.size
    clear hlo hhi
    by_cases hlt : i < j
    · rcases HR.out.next hbel with h0 | ⟨g, rfl, R⟩
      · subst h0; simp at hj; omega
      · have hlt2 : (i : Int) < (j : Int) := by omega
        have hh1 : (i + j) / 2 < l.length := by omega
        have hh2 : ((i : Int) + (j : Int)) / 2 < (l.length : Int) := by omega
        obtain ⟨x0, x1, x2, x3⟩ := R.cells ((i + j) / 2) hh1
        have hgl := R.lt
        clear R
        cases hc : ltB l[(i + j) / 2].name nm
        · have hnl : ¬ cB l[(i + j) / 2].name nm < 0 := by have := cB_lt l[(i + j) / 2].name nm; rw [hc] at this; simpa using this
          have HC : Hid _ := hc
          clear hc
          go_wp2_with fail
          refine (compareName_any _ _ _ _ _ _).mono ?_
          rintro e w1 ⟨rfl, hb⟩
          go_wp2_with fail
          go_roundw
          case rel =>
            refine ⟨i, (i + j) / 2, by omega, by omega, rfl, congrArg (Value.int .i64) (by omega), HL.out, ?_, hbel.trans (hb.mono hz)⟩
            intro q hq hge
            cases hq2 : ltB l[q].name nm
            · rfl
            · rcases Nat.lt_or_ge ((i + j) / 2) q with hlt3 | hge2
              · have := ltB_trans (HS.out _ _ hh1 hq hlt3) hq2
                rw [HC.out] at this; cases this
              · obtain rfl : q = (i + j) / 2 := by omega
                rw [HC.out] at hq2; cases hq2
          case measure => simp [intOf]; omega
        · have hnl : cB l[(i + j) / 2].name nm < 0 := by have := cB_lt l[(i + j) / 2].name nm; rw [hc] at this; simpa using this
          have HC : Hid _ := hc
          clear hc
          go_wp2_with fail
          refine (compareName_any _ _ _ _ _ _).mono ?_
          rintro e w1 ⟨rfl, hb⟩
          go_wp2_with fail
          go_roundw
          case rel =>
            refine ⟨(i + j) / 2 + 1, j, by omega, by omega, congrArg (Value.int .i64) (by omega), rfl, ?_, HH.out, hbel.trans (hb.mono hz)⟩
            intro q hq hlt3
            rcases Nat.lt_or_ge q ((i + j) / 2) with h3 | h3
            · exact ltB_trans (HS.out _ _ hq hh1 h3) HC.out
            · obtain rfl : q = (i + j) / 2 := by omega
              exact HC.out
          case measure => simp [intOf]; omega
    · obtain rfl : i = j := by omega
      by_cases hi : i < l.length
      · rcases HR.out.next hbel with h0 | ⟨g, rfl, R⟩
        · subst h0; simp at hi
        · obtain ⟨x0, x1, x2, x3⟩ := R.cells i hi
          have hi2 : (i : Int) < (l.length : Int) := by omega
          have hd2 : decide ((i : Int) < (l.length : Int)) = true := by simp; omega
          have hgl := R.lt
          clear R
          go_wp2_with fail
          refine (compareName_any _ _ _ _ _ _).mono ?_
          rintro e w1 ⟨rfl, hb⟩
          obtain ⟨b, hb0⟩ : ∃ b, b = (cB l[i].name nm == 0) := ⟨_, rfl⟩
          go_wp2_with fail
          go_ret2
          refine ⟨Found.mk i b (by rw [hb0]; rfl) ⟨hj, HL.out, HH.out, ?_⟩, hbel.trans (hb.mono hz)⟩
          rw [hb0, beq_iff_eq, cB_zero]
          exact ⟨fun h => ⟨hi, h⟩, fun ⟨_, h⟩ => h⟩
      · have hi2 : ¬ (i : Int) < (l.length : Int) := by omega
        have hd2 : decide ((i : Int) < (l.length : Int)) = false := by simp; omega
        go_wp2_with fail
        go_ret2
        exact ⟨Found.mk i false rfl ⟨hj, HL.out, HH.out, ⟨fun h => absurd h (by simp), fun ⟨h, _⟩ => absurd h hi⟩⟩, hbel⟩

set_option maxRecDepth 4000 in
set_option maxHeartbeats 1000000 in
theorem fieldPlace_any (p : Option Addr) (cap : Nat) (l : List Fld) (nm : ByteArray) (w : World) (hr : RowF w p l) (hs : Rise l) (hl : l.length ≤ 1048576) :
    Calls Tryz.prog 141 #[.slice p l.length cap, .string nm] w fun e w' => Found l nm e ∧ Below w.heap.size w w' := by
  have HR : Hid (RowF _ _ _) := hr
  have HS : Hid (Rise _) := hs
  clear hr hs
  go_enter Tryz.func141, Tryz.ntmps141
  go_wp2_with fail
  refine (search_any p cap l nm _ HR.out HS.out hl).mono ?_
  rintro e w1 ⟨⟨i, b, rfl, hp⟩, hb⟩
  have HP : Hid _ := hp
  clear hp
  go_wp2_with fail
  go_ret2
  exact ⟨Found.mk i b rfl HP.out, hb⟩

end Go.Proofs.YtdchhjnmhnehiaaGreatDoor
