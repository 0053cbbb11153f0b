/- Where an entry stands on its page: what the program's search answers. -/
import Derived.Test.YtnmpfooegnmknaaTrX
import Derived.Deep.RegionHeld3
namespace Go.Proofs.Ytnmpfooegnmknaa.Tr
open Go.RowKit
set_option linter.unusedVariables false

/-- Entries that rise. -/
def RiseE (l : List Ent) : Prop := ∀ i j (hi : i < l.length) (hj : j < l.length), i < j → lessE l[i] l[j] = true
/-- Where an entry stands, or would, and whether it does. -/
structure PlaceE (l : List Ent) (e : Ent) (i : Nat) (b : Bool) : Prop where
  le : i ≤ l.length
  lo : ∀ q (h : q < l.length), q < i → lessE l[q] e = true
  hi : ∀ q (h : q < l.length), i ≤ q → lessE l[q] e = false
  at_ : b = true ↔ ∃ h : i < l.length, l[i] = e
set_option maxRecDepth 8000 in
set_option maxHeartbeats 2000000 in
theorem searchE_any (p : Option Addr) (cap : Nat) (l : List Ent) (e : Ent) (w : World) (hr : InE w p l) (hs : RiseE l) (hl : l.length ≤ 1048576) :
    Calls Try.prog 133 #[.slice p l.length cap, .agg #[.string e.key, .int .i64 e.id], .func (.func 103) #[] #[]] w fun e' w' => (∃ i b, e' = .returned (.tuple #[.int .i64 (i : Nat), .bool b]) ∧ PlaceE l e i b) ∧ Below w.heap.size w w' := by
  have hb0 : Below w.heap.size w (w.alloc (.cells #[.string e.key, .int .i64 e.id] 40)) := (Below.refl _ _).alloc (Nat.le_refl _) _
  have d0 : (w.alloc (.cells #[.string e.key, .int .i64 e.id] 40)).cell? ⟨w.heap.size, 0, none⟩ = some (.string e.key) := by simp [go_sem]
  have d1 : (w.alloc (.cells #[.string e.key, .int .i64 e.id] 40)).cell? ⟨w.heap.size, 1, none⟩ = some (.int .i64 e.id) := by simp [go_sem]
  have l0 : w.heap.size < (w.alloc (.cells #[.string e.key, .int .i64 e.id] 40)).heap.size := by simp
  have HR : Hid (InE _ _ _) := hr.step hb0
  have HS : Hid (RiseE _) := hs
  clear hr hs
  go_enter Try.func133, Try.ntmps133
  go_wp2_with fail
  generalize w.alloc (.cells #[.string e.key, .int .i64 e.id] 40) = W0 at hb0 d0 d1 l0 HR ⊢
  go_loopw [9, 10] (fun u v wr => ∃ i j : Nat, i ≤ j ∧ j ≤ l.length ∧ u = .int .i64 i ∧ v = .int .i64 j ∧ (∀ q (h : q < l.length), q < i → lessE l[q] e = true) ∧ (∀ q (h : q < l.length), j ≤ q → lessE l[q] e = false) ∧ Below W0.heap.size W0 wr) (fun u v _ => (intOf v).toNat - (intOf u).toNat)
  case atStart => exact ⟨0, l.length, Nat.zero_le _, Nat.le_refl _, rfl, rfl, (fun q h h2 => absurd h2 (by omega)), (fun q h h2 => absurd h2 (by omega)), Below.refl _ _⟩
  case round =>
    obtain ⟨i, j, hij, hj, rfl, rfl, hlo, hhi, hbel⟩ := hrel
    have HL : Hid _ := hlo
    have HH : Hid _ := hhi
    have hz := hbel.size
    have hlz : w.heap.size < wr.heap.size := by omega
    have u2 : ∀ u : Under wr, u.x.cell? ⟨w.heap.size, 0, none⟩ = some (.string e.key) := fun u => (u.h.cell hlz).trans ((hbel.cell l0).trans d0)
    have u3 : ∀ u : Under wr, u.x.cell? ⟨w.heap.size, 1, none⟩ = some (.int .i64 e.id) := fun u => (u.h.cell hlz).trans ((hbel.cell l0).trans d1)
    have hnu : Nonempty (Under wr) := ⟨⟨wr, Below.refl _ _⟩⟩
    clear hlo hhi
    by_cases hlt : i < j
    · rcases HR.out.step hbel with h0 | ⟨b2, off, rfl, hbl, hc⟩
      · omega
      have hlt2 : (i : Int) < (j : Int) := by omega
      have hh1 : (i + j) / 2 < l.length := by omega
      have hh2 : ((i : Int) + (j : Int)) / 2 < (l.length : Int) := by omega
      obtain ⟨z0, z1⟩ := hc ((i + j) / 2) hh1
      obtain ⟨fe, hfe⟩ : ∃ fe, fe = l[(i + j) / 2] := ⟨_, rfl⟩
      rw [← hfe] at z0 z1
      have HFE : Hid (fe = l[(i + j) / 2]) := hfe
      have u4 : ∀ u : Under wr, u.x.cell? ⟨b2, off + (i + j) / 2 * 2, none⟩ = some (.string fe.key) := fun u => (u.h.cell hbl).trans z0
      have u5 : ∀ u : Under wr, u.x.cell? ⟨b2, off + (i + j) / 2 * 2 + 1, none⟩ = some (.int .i64 fe.id) := fun u => (u.h.cell hbl).trans z1
      have hcm := cmpE_lt fe e
      obtain ⟨cm, hcm0⟩ : ∃ cm, cm = cmpE fe e := ⟨_, rfl⟩
      have HCM : Hid (∀ u : Under wr, Calls Try.prog 103 #[.agg #[.string fe.key, .int .i64 fe.id], .agg #[.string e.key, .int .i64 e.id]] u.x fun e w' => e = .returned (.int .i64 cm) ∧ Below u.x.heap.size u.x w') := fun u => by rw [hcm0]; exact compareEntries_any fe e u.x
      rw [← hcm0] at hcm
      clear hc z0 z1 hfe hcm0
      cases hC : lessE fe e
      · rw [hC] at hcm
        have hnl : ¬ cm < 0 := of_decide_eq_false hcm
        have HC : Hid _ := hC
        clear hC hcm
        go_wp2_with fail
        refine wp_region_under (by kernel_rfl) (by kernel_rfl) ?_
        repeat (go_big_quiet_step ((go_at_call 103; exact calls_under _ (HCM.out _))))
        refine wpQuiet_nil ?_
        rintro _ ⟨u, rfl⟩
        go_wp2_with fail
        go_roundw
        case rel =>
          refine ⟨i, (i + j) / 2, by omega, by omega, rfl, congrArg (Value.int .i64) (by omega), HL.out, ?_, hbel.trans (u.h.mono hz)⟩
          intro q hq hge
          cases hq2 : lessE l[q] e
          · rfl
          · rcases Nat.lt_or_ge ((i + j) / 2) q with hlt3 | hge2
            · have := lessE_trans (HS.out _ _ hh1 hq hlt3) hq2
              rw [← HFE.out, HC.out] at this; cases this
            · obtain rfl : q = (i + j) / 2 := by omega
              rw [← HFE.out, HC.out] at hq2; cases hq2
        case measure => simp [intOf]; omega
      · rw [hC] at hcm
        have hnl : cm < 0 := of_decide_eq_true hcm
        have HC : Hid _ := hC
        clear hC hcm
        go_wp2_with fail
        refine wp_region_under (by kernel_rfl) (by kernel_rfl) ?_
        repeat (go_big_quiet_step ((go_at_call 103; exact calls_under _ (HCM.out _))))
        refine wpQuiet_nil ?_
        rintro _ ⟨u, rfl⟩
        go_wp2_with fail
        go_roundw
        case rel =>
          refine ⟨(i + j) / 2 + 1, j, by omega, by omega, congrArg (Value.int .i64) (by omega), rfl, ?_, HH.out, hbel.trans (u.h.mono hz)⟩
          intro q hq hlt3
          rcases Nat.lt_or_ge q ((i + j) / 2) with h3 | h3
          · exact lessE_trans (HS.out _ _ hq hh1 h3) (by rw [← HFE.out]; exact HC.out)
          · obtain rfl : q = (i + j) / 2 := by omega
            rw [← HFE.out]; exact HC.out
        case measure => simp [intOf]; omega
    · obtain rfl : i = j := by omega
      by_cases hi : i < l.length
      · rcases HR.out.step hbel with h0 | ⟨b2, off, rfl, hbl, hc⟩
        · omega
        obtain ⟨z0, z1⟩ := hc i hi
        obtain ⟨fe, hfe⟩ : ∃ fe, fe = l[i] := ⟨_, rfl⟩
        rw [← hfe] at z0 z1
        have HFE : Hid (fe = l[i]) := hfe
        have u4 : ∀ u : Under wr, u.x.cell? ⟨b2, off + i * 2, none⟩ = some (.string fe.key) := fun u => (u.h.cell hbl).trans z0
        have u5 : ∀ u : Under wr, u.x.cell? ⟨b2, off + i * 2 + 1, none⟩ = some (.int .i64 fe.id) := fun u => (u.h.cell hbl).trans z1
        have hi2 : (i : Int) < (l.length : Int) := by omega
        have hd2 : decide (i < l.length) = true := decide_eq_true hi
        have HCZ : Hid (cmpE fe e = 0 ↔ fe = e) := cmpE_zero fe e
        obtain ⟨cm, hcm0⟩ : ∃ cm, cm = cmpE fe e := ⟨_, rfl⟩
        have HCM : Hid (∀ u : Under wr, Calls Try.prog 103 #[.agg #[.string fe.key, .int .i64 fe.id], .agg #[.string e.key, .int .i64 e.id]] u.x fun e w' => e = .returned (.int .i64 cm) ∧ Below u.x.heap.size u.x w') := fun u => by rw [hcm0]; exact compareEntries_any fe e u.x
        rw [← hcm0] at HCZ
        clear hc z0 z1 hfe hcm0
        cases hz0 : (cm == 0)
        · have HZ : Hid (¬ cm = 0) := beq_eq_false_iff_ne.mp hz0
          go_wp2_with fail
          refine wp_region_under (by kernel_rfl) (by kernel_rfl) ?_
          repeat (go_big_quiet_step ((go_at_call 103; exact calls_under _ (HCM.out _))))
          refine wpQuiet_nil ?_
          rintro _ ⟨u, rfl⟩
          go_wp2_with fail
          go_ret2
          exact ⟨⟨i, false, rfl, ⟨hj, HL.out, HH.out, ⟨(fun h => by cases h), (fun ⟨_, h⟩ => absurd (HCZ.out.2 (HFE.out.trans h)) HZ.out)⟩⟩⟩, hb0.trans ((hbel.trans (u.h.mono hz)).mono hb0.size)⟩
        · have HZ : Hid (cm = 0) := beq_iff_eq.mp hz0
          go_wp2_with fail
          refine wp_region_under (by kernel_rfl) (by kernel_rfl) ?_
          repeat (go_big_quiet_step ((go_at_call 103; exact calls_under _ (HCM.out _))))
          refine wpQuiet_nil ?_
          rintro _ ⟨u, rfl⟩
          go_wp2_with fail
          go_ret2
          exact ⟨⟨i, true, rfl, ⟨hj, HL.out, HH.out, ⟨(fun _ => ⟨hi, HFE.out.symm.trans (HCZ.out.1 HZ.out)⟩), (fun _ => rfl)⟩⟩⟩, hb0.trans ((hbel.trans (u.h.mono hz)).mono hb0.size)⟩
      · have hi2 : ¬ (i : Int) < (l.length : Int) := by omega
        have hd2 : decide (i < l.length) = false := decide_eq_false hi
        go_wp2_with fail
        refine wp_region_under (by kernel_rfl) (by kernel_rfl) ?_
        repeat (go_big_quiet_step (fail))
        refine wpQuiet_nil ?_
        rintro _ ⟨u, rfl⟩
        go_wp2_with fail
        go_ret2
        exact ⟨⟨i, false, rfl, ⟨hj, HL.out, HH.out, ⟨(fun h => by cases h), (fun ⟨h, _⟩ => absurd h hi)⟩⟩⟩, hb0.trans ((hbel.trans (u.h.mono hz)).mono hb0.size)⟩

set_option maxRecDepth 4000 in
set_option maxHeartbeats 1000000 in
theorem entryPlace_any (b o : Nat) (p : Pg) (e : Ent) (w : World) (hr : PageAtA w b o p) (hs : RiseE p.es) (hl : p.es.length ≤ 1048576) :
    Calls Try.prog 94 #[.pointer (some ⟨b, o, none⟩), .agg #[.string e.key, .int .i64 e.id]] w fun e' w' => (∃ i b, e' = .returned (.tuple #[.int .i64 (i : Nat), .bool b]) ∧ PlaceE p.es e i b) ∧ Below w.heap.size w w' := by
  have hb0 : Below w.heap.size w (w.alloc (.cells #[.string e.key, .int .i64 e.id] 40)) := (Below.refl _ _).alloc (Nat.le_refl _) _
  have d0 : (w.alloc (.cells #[.string e.key, .int .i64 e.id] 40)).cell? ⟨w.heap.size, 0, none⟩ = some (.string e.key) := by simp [go_sem]
  have d1 : (w.alloc (.cells #[.string e.key, .int .i64 e.id] 40)).cell? ⟨w.heap.size, 1, none⟩ = some (.int .i64 e.id) := by simp [go_sem]
  obtain ⟨hbl, c0, q, c, c1, hin⟩ := hr.next hb0
  have HIN : Hid (InE _ _ _) := hin
  clear hr hin
  go_enter Try.func94, Try.ntmps94
  go_wp2_with fail
  generalize w.alloc (.cells #[.string e.key, .int .i64 e.id] 40) = W0 at hb0 d0 d1 hbl c0 c1 HIN ⊢
  go_region_with (go_at_call 133; refine (searchE_any q c p.es e _ (HIN.out.step (by (repeat (first | (with_reducible exact Below.refl _ _) | (with_reducible assumption) | (with_reducible apply below_drewN) | (with_reducible apply Below.drew) | ((with_reducible refine Below.setCell ?_ ?_ _); rotate_left; focus (first | (simp; done) | (simp; omega) | omega)) | ((with_reducible refine Below.alloc ?_ ?_ _); rotate_left; focus (first | (simp; done) | (simp; omega) | omega)))))) hs hl).mono ?_; rintro e' w2 ⟨⟨i, bb, rfl, hP⟩, hb⟩; have hB2 : Below W0.heap.size W0 w2 := (show Below W0.heap.size W0 _ by (repeat (first | (with_reducible exact Below.refl _ _) | (with_reducible assumption) | (with_reducible apply below_drewN) | (with_reducible apply Below.drew) | ((with_reducible refine Below.setCell ?_ ?_ _); rotate_left; focus (first | (simp; done) | (simp; omega) | omega)) | ((with_reducible refine Below.alloc ?_ ?_ _); rotate_left; focus (first | (simp; done) | (simp; omega) | omega))))).trans (hb.mono (by simp)); have HP : Hid (PlaceE _ _ _ _) := hP; clear hb hP)
  all_goals
    go_wp2_with fail
    go_ret2
    exact ⟨⟨i, bb, rfl, HP.out⟩, hb0.trans (hB2.mono hb0.size)⟩

end Go.Proofs.Ytnmpfooegnmknaa.Tr
