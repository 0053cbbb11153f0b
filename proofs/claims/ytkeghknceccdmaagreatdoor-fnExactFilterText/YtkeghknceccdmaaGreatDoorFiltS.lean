/- What the specification's asking whether a filter is right answers, for every filter. -/
import Derived.Test.YtkeghknceccdmaaGreatDoorFiltI
namespace Go.Proofs.YtkeghknceccdmaaGreatDoor
open Go.RowKit
set_option linter.unusedVariables false

set_option maxRecDepth 8000 in
set_option maxHeartbeats 2000000 in
theorem specFilt_any (p : Option Addr) (cap : Nat) (f : List (List Trm)) (w : World) (hr : RowC w p f) (hl : f.length ≤ 1048576) (hs : ∀ l ∈ f, szC l) :
    Calls Tryz.prog 67 #[.agg #[.slice p f.length cap]] w fun e w' => e = .returned (.bool (filtB f)) ∧ Below w.heap.size w w' := by
  have hb0 : Below w.heap.size w (w.alloc (.cells #[.slice p f.length cap] 53)) := (Below.refl _ _).alloc (Nat.le_refl _) _
  have c0 : (w.alloc (.cells #[.slice p f.length cap] 53)).cell? ⟨w.heap.size, 0, none⟩ = some (.slice p f.length cap) := by simp [go_sem]
  have hl0 : w.heap.size < (w.alloc (.cells #[.slice p f.length cap] 53)).heap.size := by simp
  obtain ⟨R, hR⟩ : ∃ R, R = filtB f := ⟨_, rfl⟩
  rw [← hR]
  have HR : Hid _ := hR
  have HRC : Hid (RowC _ _ _) := hr.next hb0
  have HS : Hid _ := hs
  clear hr hs hR
  by_cases hin : 1 ≤ f.length ∧ f.length ≤ 3
  case neg =>
    have hd : decide ((1 : Int) ≤ (f.length : Int) ∧ (f.length : Int) ≤ 3) = false := decide_eq_false (by omega)
    have hRf : R = false := by rw [HR.out]; unfold filtB; rw [decide_eq_false hin, Bool.false_and]
    have HD : Hid _ := hd
    clear HR hd
    subst hRf
    go_enter Tryz.func67, Tryz.ntmps67
    go_wp2_with fail
    refine (l01In_any _ 1 3 _).mono ?_
    rintro e w1 ⟨rfl, rfl⟩
    rw [HD.out]
    go_wp2_with fail
    go_ret
    exact ⟨rfl, hb0⟩
  case pos =>
  have hd : decide ((1 : Int) ≤ (f.length : Int) ∧ (f.length : Int) ≤ 3) = true := decide_eq_true (by omega)
  have hRa : R = f.all clauseB := by rw [HR.out]; unfold filtB; rw [decide_eq_true hin, Bool.true_and]
  have HD : Hid _ := hd
  have HRA : Hid _ := hRa
  clear HR hd hRa
  go_enter Tryz.func67, Tryz.ntmps67
  go_wp2_with fail
  refine (l01In_any _ 1 3 _).mono ?_
  rintro e w1 ⟨rfl, rfl⟩
  rw [HD.out]
  go_wp2_with fail
  generalize w.alloc (.cells #[.slice p f.length cap] 53) = W0 at hb0 c0 hl0 HRC ⊢
  go_loopw [3] (fun i wr => ∃ k : Nat, k ≤ f.length ∧ i = .int .i64 k ∧ (∀ l ∈ f.take k, clauseB l = true) ∧ Below W0.heap.size W0 wr) (fun i _ => f.length - (intOf i).toNat)
  case atStart => exact ⟨0, Nat.zero_le _, rfl, (fun l hl => by simp at hl), Below.refl _ _⟩
  case round =>
    obtain ⟨k, hk, rfl, hall, hbel⟩ := hrel
    have HA : Hid _ := hall
    have hc := (hbel.cell hl0).trans c0
    have hlw : w.heap.size < wr.heap.size := Nat.lt_of_lt_of_le hl0 hbel.size
    have hbw := hb0.trans (hbel.mono hb0.size)
    clear hall
    by_cases hlt : k < f.length
    · rcases HRC.out.next hbel with h0 | ⟨g, rfl, RC⟩
      · subst h0; simp at hlt
      obtain ⟨pk, ck, x0, xr⟩ := RC.cells k hlt
      have hgl := RC.lt
      have hlt2 : (k : Int) < (f.length : Int) := by omega
      have hsk := HS.out f[k] (List.getElem_mem _)
      have HSK : Hid (szC _) := hsk
      have HXR : Hid (RowT _ _ _) := xr
      have hlen := hsk.1
      clear RC xr hsk
      obtain ⟨fk, hfk⟩ : ∃ fk, fk = f[k] := ⟨_, rfl⟩
      rw [← hfk] at x0 HSK HXR hlen
      have HFK : Hid _ := hfk
      clear hfk
      by_cases h4 : fk.length ≤ 4
      · have h4' : ¬ (4 : Int) < (fk.length : Int) := by omega
        go_wp2_with fail
        obtain ⟨wo, hwo⟩ : ∃ wo, wo = wr := ⟨_, rfl⟩
        subst hwo
        go_loopw [4] (fun j wr2 => ∃ q : Nat, q ≤ fk.length ∧ j = .int .i64 q ∧ (∀ t ∈ fk.take q, okT t = true) ∧ Below wo.heap.size wo wr2) (fun j _ => fk.length - (intOf j).toNat)
        case atStart => exact ⟨0, Nat.zero_le _, rfl, (fun t ht => by simp at ht), Below.refl _ _⟩
        case round =>
          obtain ⟨q, hq, rfl, hall2, hbel2⟩ := hrel
          have HA2 : Hid _ := hall2
          have hc2 := (hbel2.cell hlw).trans hc
          have hx2 := (hbel2.cell hgl).trans x0
          have hbw2 := hbw.trans (hbel2.mono hbw.size)
          have hbel3 := hbel.trans (hbel2.mono hbel.size)
          clear hall2
          by_cases hqt : q < fk.length
          · rcases HXR.out.next hbel2 with h0 | ⟨gt, rfl, RT⟩
            · subst h0; simp at hqt
            obtain ⟨y0, y1, y2, y3, y4⟩ := RT.cells q hqt
            have hqt2 : (q : Int) < (fk.length : Int) := by omega
            have hst := HSK.out.2 fk[q] (List.getElem_mem _)
            have HC0 : ∀ W : World, Calls Tryz.prog 64 #[.agg #[.int .i64 fk[q].op, .string fk[q].p, .int .i64 fk[q].c.k, .int .i64 fk[q].c.n, .string fk[q].c.t]] W fun e w' => e = .returned (.bool (okT fk[q])) ∧ Below W.heap.size W w' := fun W => specTerm_any fk[q].op fk[q].p fk[q].c.k fk[q].c.n fk[q].c.t W hst.1 hst.2
            clear RT hst
            cases hP : okT fk[q]
            · rw [hP] at HC0
              have HC : Hid _ := HC0
              have hRf : R = false := by
                rw [HRA.out, Bool.eq_false_iff]; intro hh
                have h1 := List.all_eq_true.mp hh f[k] (List.getElem_mem _)
                rw [← HFK.out] at h1
                unfold clauseB at h1
                rw [Bool.and_eq_true] at h1
                have := List.all_eq_true.mp h1.2 fk[q] (List.getElem_mem _)
                rw [hP] at this; cases this
              clear HC0 hP HRA
              subst hRf
              go_wp2_with fail
              refine (HC.out _).mono ?_
              rintro e w3 ⟨rfl, hb⟩
              have hb3 := hbw2.trans (hb.mono hbw2.size)
              clear hb
              go_wp2_with fail
              go_ret
              exact ⟨rfl, hb3⟩
            · rw [hP] at HC0
              have HC : Hid _ := HC0
              have HPK : Hid _ := hP
              clear HC0 hP
              go_wp2_with fail
              refine (HC.out _).mono ?_
              rintro e w3 ⟨rfl, hb⟩
              have hb3 := hbel2.trans (hb.mono hbel2.size)
              clear hb
              go_wp2_with fail
              go_roundw
              case rel => exact ⟨q + 1, by omega, by go_num, take_allT _ fk q hqt HA2.out HPK.out, hb3⟩
              case measure => simp [intOf]; omega
          · have hqt2 : ¬ (q : Int) < (fk.length : Int) := by omega
            have hcl : clauseB f[k] = true := by
              rw [← HFK.out]
              unfold clauseB
              rw [decide_eq_true h4, Bool.true_and]
              exact List.all_eq_true.mpr (fun u hu => HA2.out u (by rw [List.take_of_length_le (by omega)]; exact hu))
            have HCL : Hid _ := hcl
            clear hcl
            go_wp2_with fail
            go_roundw
            case rel => exact ⟨k + 1, by omega, by go_num, take_allC _ f k hlt HA.out HCL.out, hbel3⟩
            case measure => simp [intOf]; omega
      · have h4' : (4 : Int) < (fk.length : Int) := by omega
        have hRf : R = false := by
          rw [HRA.out, Bool.eq_false_iff]; intro hh
          have h1 := List.all_eq_true.mp hh f[k] (List.getElem_mem _)
          rw [← HFK.out] at h1
          unfold clauseB at h1
          rw [decide_eq_false h4] at h1; cases h1
        clear HRA
        subst hRf
        go_wp2_with fail
        go_ret
        exact ⟨rfl, hbw⟩
    · have hlt2 : ¬ (k : Int) < (f.length : Int) := by omega
      have hRt : R = true := by
        rw [HRA.out]
        exact List.all_eq_true.mpr (fun u hu => HA.out u (by rw [List.take_of_length_le (by omega)]; exact hu))
      clear HRA
      subst hRt
      go_wp2_with fail
      go_ret
      exact ⟨rfl, hbw⟩

end Go.Proofs.YtkeghknceccdmaaGreatDoor
