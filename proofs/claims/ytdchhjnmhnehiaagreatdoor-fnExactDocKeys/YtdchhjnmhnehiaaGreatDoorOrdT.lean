/- What the specification's order of values answers, for every two right values. -/
import Derived.Test.YtdchhjnmhnehiaaGreatDoorOrdS
namespace Go.Proofs.YtdchhjnmhnehiaaGreatDoor
open Go.RowKit
set_option linter.unusedVariables false

set_option maxRecDepth 4000 in
set_option maxHeartbeats 4000000 in
theorem l01Order_doc (d : Nat) (ih : l01OrderAt d) (n : Int) (t t' : ByteArray) (la lb : List Fld) (w : World) (hs : t.size ≤ 1048576) (hs' : t'.size ≤ 1048576) (hne : t ≠ t') (hi : fields t = some la) (hi' : fields t' = some lb)
    (hall : ∀ f ∈ la, fits d f.v = true ∧ f.v.t.size ≤ t.size ∧ f.name.size ≤ t.size) (hall' : ∀ f ∈ lb, fits d f.v = true ∧ f.v.t.size ≤ t'.size ∧ f.name.size ≤ t'.size) :
    Calls Tryz.prog 135 #[.agg #[.int .i64 5, .int .i64 n, .string t], .agg #[.int .i64 5, .int .i64 n, .string t']] w fun e w' => e = .returned (.int .i64 (lexG (cF (ordV d)) la lb)) ∧ Below w.heap.size w w' := by
  have hb := toList_ne hne
  have hnz : lexG (cF (ordV d)) la lb ≠ 0 := fun h => hne (by
    have := lexG_zero _ la lb (fun x hx y hy hp => by
      unfold cF at hp
      split at hp
      · rename_i hm
        have e1 := (cB_zero _ _).mp hm
        have e2 := ordV_zero d x.v y.v (hall x hx).1 (hall' y hy).1 hp
        cases x; cases y; simp_all
      · rename_i hm; exact absurd hp hm) h
    subst this
    exact fields_inj la _ _ hi hi')
  obtain ⟨R, hR⟩ : ∃ R, R = lexG (cF (ordV d)) la lb := ⟨_, rfl⟩
  rw [← hR] at hnz
  rw [← hR]
  have hlen := (fields_len t.size t la (Nat.le_refl _) hi).1
  have hlen' := (fields_len t'.size t' lb (Nat.le_refl _) hi').1
  have HR : Hid _ := hR
  have HZ : Hid _ := hnz
  have HI : Hid _ := hi
  have HI' : Hid _ := hi'
  have HA : Hid _ := hall
  have HA' : Hid _ := hall'
  have X0 := Boxed.start w (.int .i64 5) (.int .i64 n) (.string t) 38
  have Y0 := Boxed.start (w.alloc (.cells #[.int .i64 5, .int .i64 n, .string t] 38)) (.int .i64 5) (.int .i64 n) (.string t') 38
  have X1 := X0.step Y0.bel
  clear hR hnz hi hi' hall hall' hne X0
  go_enter Tryz.func135, Tryz.ntmps135
  go_wp2_with fail
  refine (l01Fields_any t _ hs).mono ?_
  rintro e w1 ⟨⟨g, m, cap, rfl, hown0⟩, hb1⟩
  obtain ⟨rfl, hown⟩ := hown0 la HI.out
  clear hown0
  rw [HI.out]
  have X2 := X1.step hb1
  have Y2 := Y0.step hb1
  have y0 := Y2.c0
  have y1 := Y2.c1
  have y2 := Y2.c2
  simp only [heap_size_alloc] at y0 y1 y2
  have RA : Hid _ := ReadF.of_own hown
  clear hb1 hown X1 Y0
  go_wp2_with fail
  refine (l01Fields_any t' _ hs').mono ?_
  rintro e w2 ⟨⟨g', m', cap', rfl, hown0⟩, hb1⟩
  obtain ⟨rfl, hown⟩ := hown0 lb HI'.out
  clear hown0
  rw [HI'.out]
  have X3 := X2.step hb1
  have RB : Hid _ := ReadF.of_own hown
  have RA2 : Hid _ := RA.out.next hb1
  have hbw := X3.bel
  clear hb1 hown X2 Y2 y0 y1 y2 X3 RA
  go_wp2_with fail
  go_loopw [15] (fun i wr => ∃ k : Nat, k ≤ la.length ∧ k ≤ lb.length ∧ i = .int .i64 k ∧ R = lexG (cF (ordV d)) (la.drop k) (lb.drop k) ∧ Below w2.heap.size w2 wr) (fun i _ => la.length - (intOf i).toNat)
  case atStart => exact ⟨0, Nat.zero_le _, Nat.zero_le _, rfl, HR.out, Below.refl _ _⟩
  case round =>
    obtain ⟨k, hk, hk', rfl, hr, hbel⟩ := hrel
    have HT : Hid _ := hr
    clear hr HR
    have hz := hbel.size
    have hbw2 : Below w.heap.size w wr := hbw.trans (hbel.mono hbw.size)
    by_cases hlt : k < la.length
    · by_cases hlt' : k < lb.length
      · have x1 := (RA2.out.next hbel).cells k hlt
        have x2 := (RB.out.next hbel).cells k hlt'
        have l1 := (RA2.out.next hbel).lt
        have l2 := (RB.out.next hbel).lt
        have hk1 : (k : Int) < (la.length : Int) := by omega
        have hk2 : (k : Int) < (lb.length : Int) := by omega
        have q0 : ∀ u : Under wr, u.x.cell? ⟨g, k * 4, none⟩ = some (.string la[k].name) := fun u => (u.h.cell l1).trans (x1.1)
        have q1 : ∀ u : Under wr, u.x.cell? ⟨g, k * 4 + 1, none⟩ = some (.int .i64 la[k].v.k) := fun u => (u.h.cell l1).trans (x1.2.1)
        have q2 : ∀ u : Under wr, u.x.cell? ⟨g, k * 4 + 2, none⟩ = some (.int .i64 la[k].v.n) := fun u => (u.h.cell l1).trans (x1.2.2.1)
        have q3 : ∀ u : Under wr, u.x.cell? ⟨g, k * 4 + 3, none⟩ = some (.string la[k].v.t) := fun u => (u.h.cell l1).trans (x1.2.2.2)
        have r0 : ∀ u : Under wr, u.x.cell? ⟨g', k * 4, none⟩ = some (.string lb[k].name) := fun u => (u.h.cell l2).trans (x2.1)
        have r1 : ∀ u : Under wr, u.x.cell? ⟨g', k * 4 + 1, none⟩ = some (.int .i64 lb[k].v.k) := fun u => (u.h.cell l2).trans (x2.2.1)
        have r2 : ∀ u : Under wr, u.x.cell? ⟨g', k * 4 + 2, none⟩ = some (.int .i64 lb[k].v.n) := fun u => (u.h.cell l2).trans (x2.2.2.1)
        have r3 : ∀ u : Under wr, u.x.cell? ⟨g', k * 4 + 3, none⟩ = some (.string lb[k].v.t) := fun u => (u.h.cell l2).trans (x2.2.2.2)
        have hnu : Nonempty (Under wr) := ⟨⟨wr, Below.refl _ _⟩⟩
        have hstep := lexG_step (cF (ordV d)) la lb k hlt hlt'
        rw [← HT.out] at hstep
        have HS : Hid _ := hstep
        clear x1 x2 hstep HT
        by_cases hnm : la[k].name = lb[k].name
        · have hq := HA.out la[k] (List.getElem_mem _)
          have hq' := HA'.out lb[k] (List.getElem_mem _)
          have HC0 : ∀ W : World, Calls Tryz.prog 135 #[.agg #[.int .i64 la[k].v.k, .int .i64 la[k].v.n, .string la[k].v.t], .agg #[.int .i64 lb[k].v.k, .int .i64 lb[k].v.n, .string lb[k].v.t]] W fun e w' => e = .returned (.int .i64 (ordV d la[k].v lb[k].v)) ∧ Below W.heap.size W w' := fun W => ih la[k].v lb[k].v W (by omega) (by omega) hq.1 hq'.1
          have hcf : cF (ordV d) la[k] lb[k] = ordV d la[k].v lb[k].v := by unfold cF; rw [if_pos ((cB_zero _ _).mpr hnm)]
          have hst2 := HS.out
          rw [hcf] at hst2
          obtain ⟨O, hO⟩ : ∃ O, O = ordV d la[k].v lb[k].v := ⟨_, rfl⟩
          rw [← hO] at HC0 hst2
          have HC : Hid _ := HC0
          have HS2 : Hid _ := hst2
          have hnb : (la[k].name.toList == lb[k].name.toList) = true := by rw [hnm]; simp
          clear hq hq' HC0 hst2 hO hcf HS
          have hnm2 := hnm
          clear hnm
          by_cases hO0 : O = 0
          · have e0 : (O == 0) = true := by simp [hO0]
            go_wp2_with fail
            refine wp_region_under (by kernel_rfl) (by kernel_rfl) ?_
            repeat (go_big_quiet_step (fail))
            refine wpQuiet_nil ?_
            rintro _ ⟨u, rfl⟩
            have l1' : g < u.x.heap.size := Nat.lt_of_lt_of_le l1 u.h.size
            have l2' : g' < u.x.heap.size := Nat.lt_of_lt_of_le l2 u.h.size
            have p0 : ∀ u2 : Under u.x, u2.x.cell? ⟨g, k * 4, none⟩ = some (.string la[k].name) := fun u2 => (u2.h.cell l1').trans (q0 u)
            have p1 : ∀ u2 : Under u.x, u2.x.cell? ⟨g, k * 4 + 1, none⟩ = some (.int .i64 la[k].v.k) := fun u2 => (u2.h.cell l1').trans (q1 u)
            have p2 : ∀ u2 : Under u.x, u2.x.cell? ⟨g, k * 4 + 2, none⟩ = some (.int .i64 la[k].v.n) := fun u2 => (u2.h.cell l1').trans (q2 u)
            have p3 : ∀ u2 : Under u.x, u2.x.cell? ⟨g, k * 4 + 3, none⟩ = some (.string la[k].v.t) := fun u2 => (u2.h.cell l1').trans (q3 u)
            have s0 : ∀ u2 : Under u.x, u2.x.cell? ⟨g', k * 4, none⟩ = some (.string lb[k].name) := fun u2 => (u2.h.cell l2').trans (r0 u)
            have s1 : ∀ u2 : Under u.x, u2.x.cell? ⟨g', k * 4 + 1, none⟩ = some (.int .i64 lb[k].v.k) := fun u2 => (u2.h.cell l2').trans (r1 u)
            have s2 : ∀ u2 : Under u.x, u2.x.cell? ⟨g', k * 4 + 2, none⟩ = some (.int .i64 lb[k].v.n) := fun u2 => (u2.h.cell l2').trans (r2 u)
            have s3 : ∀ u2 : Under u.x, u2.x.cell? ⟨g', k * 4 + 3, none⟩ = some (.string lb[k].v.t) := fun u2 => (u2.h.cell l2').trans (r3 u)
            have hnu2 : Nonempty (Under u.x) := ⟨⟨u.x, Below.refl _ _⟩⟩
            have hb2 : Below w2.heap.size w2 u.x := hbel.trans (u.h.mono hbel.size)
            have hb3 : Below w.heap.size w u.x := hbw2.trans (u.h.mono hbw2.size)
            go_wp2_with fail
            refine wp_region_under (by kernel_rfl) (by kernel_rfl) ?_
            repeat (go_big_quiet_step ((go_at_call 135; exact calls_under _ (HC.out _))))
            refine wpQuiet_nil ?_
            rintro _ ⟨u2, rfl⟩
            go_wp2_with fail
            go_roundw
            case rel => exact ⟨k + 1, by omega, by omega, by go_num, by rw [HS2.out, if_pos hO0], hb2.trans (u2.h.mono hb2.size)⟩
            case measure => simp [intOf]; omega
          · have e0 : (O == 0) = false := beq_eq_false_iff_ne.mpr hO0
            go_wp2_with fail
            refine wp_region_under (by kernel_rfl) (by kernel_rfl) ?_
            repeat (go_big_quiet_step (fail))
            refine wpQuiet_nil ?_
            rintro _ ⟨u, rfl⟩
            have l1' : g < u.x.heap.size := Nat.lt_of_lt_of_le l1 u.h.size
            have l2' : g' < u.x.heap.size := Nat.lt_of_lt_of_le l2 u.h.size
            have p0 : ∀ u2 : Under u.x, u2.x.cell? ⟨g, k * 4, none⟩ = some (.string la[k].name) := fun u2 => (u2.h.cell l1').trans (q0 u)
            have p1 : ∀ u2 : Under u.x, u2.x.cell? ⟨g, k * 4 + 1, none⟩ = some (.int .i64 la[k].v.k) := fun u2 => (u2.h.cell l1').trans (q1 u)
            have p2 : ∀ u2 : Under u.x, u2.x.cell? ⟨g, k * 4 + 2, none⟩ = some (.int .i64 la[k].v.n) := fun u2 => (u2.h.cell l1').trans (q2 u)
            have p3 : ∀ u2 : Under u.x, u2.x.cell? ⟨g, k * 4 + 3, none⟩ = some (.string la[k].v.t) := fun u2 => (u2.h.cell l1').trans (q3 u)
            have s0 : ∀ u2 : Under u.x, u2.x.cell? ⟨g', k * 4, none⟩ = some (.string lb[k].name) := fun u2 => (u2.h.cell l2').trans (r0 u)
            have s1 : ∀ u2 : Under u.x, u2.x.cell? ⟨g', k * 4 + 1, none⟩ = some (.int .i64 lb[k].v.k) := fun u2 => (u2.h.cell l2').trans (r1 u)
            have s2 : ∀ u2 : Under u.x, u2.x.cell? ⟨g', k * 4 + 2, none⟩ = some (.int .i64 lb[k].v.n) := fun u2 => (u2.h.cell l2').trans (r2 u)
            have s3 : ∀ u2 : Under u.x, u2.x.cell? ⟨g', k * 4 + 3, none⟩ = some (.string lb[k].v.t) := fun u2 => (u2.h.cell l2').trans (r3 u)
            have hnu2 : Nonempty (Under u.x) := ⟨⟨u.x, Below.refl _ _⟩⟩
            have hb2 : Below w2.heap.size w2 u.x := hbel.trans (u.h.mono hbel.size)
            have hb3 : Below w.heap.size w u.x := hbw2.trans (u.h.mono hbw2.size)
            go_wp2_with fail
            refine wp_region_under (by kernel_rfl) (by kernel_rfl) ?_
            repeat (go_big_quiet_step ((go_at_call 135; exact calls_under _ (HC.out _))))
            refine wpQuiet_nil ?_
            rintro _ ⟨u2, rfl⟩
            go_wp2_with fail
            go_ret
            exact ⟨by rw [HS2.out, if_neg hO0]; rfl, hb3.trans (u2.h.mono hb3.size)⟩
        · have hnb := toList_ne hnm
          have hcf : cF (ordV d) la[k] lb[k] = cB la[k].name lb[k].name := by unfold cF; rw [if_neg (fun h => hnm ((cB_zero _ _).mp h))]
          have hst2 := HS.out
          rw [hcf, if_neg (fun h => hnm ((cB_zero _ _).mp h)), cB_ne _ _ hnm] at hst2
          have hgl := leB_not la[k].name lb[k].name
          rw [hnb, Bool.or_false] at hgl
          clear hcf HS hnm
          cases hg : ltB lb[k].name la[k].name
          · rw [hg] at hst2 hgl
            have hR1 : R = -1 := by simpa using hst2
            have hgl2 : Op.bytesLess la[k].name.toList lb[k].name.toList = true := by simpa using hgl
            clear hst2 hgl hg
            go_wp2_with fail
            refine wp_region_under (by kernel_rfl) (by kernel_rfl) ?_
            repeat (go_big_quiet_step (fail))
            refine wpQuiet_nil ?_
            rintro _ ⟨u, rfl⟩
            have l1' : g < u.x.heap.size := Nat.lt_of_lt_of_le l1 u.h.size
            have l2' : g' < u.x.heap.size := Nat.lt_of_lt_of_le l2 u.h.size
            have p0 : ∀ u2 : Under u.x, u2.x.cell? ⟨g, k * 4, none⟩ = some (.string la[k].name) := fun u2 => (u2.h.cell l1').trans (q0 u)
            have p1 : ∀ u2 : Under u.x, u2.x.cell? ⟨g, k * 4 + 1, none⟩ = some (.int .i64 la[k].v.k) := fun u2 => (u2.h.cell l1').trans (q1 u)
            have p2 : ∀ u2 : Under u.x, u2.x.cell? ⟨g, k * 4 + 2, none⟩ = some (.int .i64 la[k].v.n) := fun u2 => (u2.h.cell l1').trans (q2 u)
            have p3 : ∀ u2 : Under u.x, u2.x.cell? ⟨g, k * 4 + 3, none⟩ = some (.string la[k].v.t) := fun u2 => (u2.h.cell l1').trans (q3 u)
            have s0 : ∀ u2 : Under u.x, u2.x.cell? ⟨g', k * 4, none⟩ = some (.string lb[k].name) := fun u2 => (u2.h.cell l2').trans (r0 u)
            have s1 : ∀ u2 : Under u.x, u2.x.cell? ⟨g', k * 4 + 1, none⟩ = some (.int .i64 lb[k].v.k) := fun u2 => (u2.h.cell l2').trans (r1 u)
            have s2 : ∀ u2 : Under u.x, u2.x.cell? ⟨g', k * 4 + 2, none⟩ = some (.int .i64 lb[k].v.n) := fun u2 => (u2.h.cell l2').trans (r2 u)
            have s3 : ∀ u2 : Under u.x, u2.x.cell? ⟨g', k * 4 + 3, none⟩ = some (.string lb[k].v.t) := fun u2 => (u2.h.cell l2').trans (r3 u)
            have hnu2 : Nonempty (Under u.x) := ⟨⟨u.x, Below.refl _ _⟩⟩
            have hb2 : Below w2.heap.size w2 u.x := hbel.trans (u.h.mono hbel.size)
            have hb3 : Below w.heap.size w u.x := hbw2.trans (u.h.mono hbw2.size)
            have hbit : ∀ u2 : Under u.x, Calls Tryz.prog 151 #[.bool false] u2.x fun e w' => e = .returned (.int .i64 0) ∧ w' = u2.x := fun u2 => l01Bit_any false _
            have HBit : Hid _ := hbit
            clear hbit
            go_wp2_with fail
            refine wp_region_under (by kernel_rfl) (by kernel_rfl) ?_
            repeat (go_big_quiet_step ((go_at_call 151; exact calls_under_same _ (HBit.out _))))
            refine wpQuiet_nil ?_
            rintro _ ⟨u2, rfl⟩
            go_wp2_with fail
            go_ret
            exact ⟨by rw [hR1]; rfl, hb3.trans (u2.h.mono hb3.size)⟩
          · rw [hg] at hst2 hgl
            have hR1 : R = 1 := by simpa using hst2
            have hgl2 : Op.bytesLess la[k].name.toList lb[k].name.toList = false := by simpa using hgl
            clear hst2 hgl hg
            go_wp2_with fail
            refine wp_region_under (by kernel_rfl) (by kernel_rfl) ?_
            repeat (go_big_quiet_step (fail))
            refine wpQuiet_nil ?_
            rintro _ ⟨u, rfl⟩
            have l1' : g < u.x.heap.size := Nat.lt_of_lt_of_le l1 u.h.size
            have l2' : g' < u.x.heap.size := Nat.lt_of_lt_of_le l2 u.h.size
            have p0 : ∀ u2 : Under u.x, u2.x.cell? ⟨g, k * 4, none⟩ = some (.string la[k].name) := fun u2 => (u2.h.cell l1').trans (q0 u)
            have p1 : ∀ u2 : Under u.x, u2.x.cell? ⟨g, k * 4 + 1, none⟩ = some (.int .i64 la[k].v.k) := fun u2 => (u2.h.cell l1').trans (q1 u)
            have p2 : ∀ u2 : Under u.x, u2.x.cell? ⟨g, k * 4 + 2, none⟩ = some (.int .i64 la[k].v.n) := fun u2 => (u2.h.cell l1').trans (q2 u)
            have p3 : ∀ u2 : Under u.x, u2.x.cell? ⟨g, k * 4 + 3, none⟩ = some (.string la[k].v.t) := fun u2 => (u2.h.cell l1').trans (q3 u)
            have s0 : ∀ u2 : Under u.x, u2.x.cell? ⟨g', k * 4, none⟩ = some (.string lb[k].name) := fun u2 => (u2.h.cell l2').trans (r0 u)
            have s1 : ∀ u2 : Under u.x, u2.x.cell? ⟨g', k * 4 + 1, none⟩ = some (.int .i64 lb[k].v.k) := fun u2 => (u2.h.cell l2').trans (r1 u)
            have s2 : ∀ u2 : Under u.x, u2.x.cell? ⟨g', k * 4 + 2, none⟩ = some (.int .i64 lb[k].v.n) := fun u2 => (u2.h.cell l2').trans (r2 u)
            have s3 : ∀ u2 : Under u.x, u2.x.cell? ⟨g', k * 4 + 3, none⟩ = some (.string lb[k].v.t) := fun u2 => (u2.h.cell l2').trans (r3 u)
            have hnu2 : Nonempty (Under u.x) := ⟨⟨u.x, Below.refl _ _⟩⟩
            have hb2 : Below w2.heap.size w2 u.x := hbel.trans (u.h.mono hbel.size)
            have hb3 : Below w.heap.size w u.x := hbw2.trans (u.h.mono hbw2.size)
            have hbit : ∀ u2 : Under u.x, Calls Tryz.prog 151 #[.bool true] u2.x fun e w' => e = .returned (.int .i64 1) ∧ w' = u2.x := fun u2 => l01Bit_any true _
            have HBit : Hid _ := hbit
            clear hbit
            go_wp2_with fail
            refine wp_region_under (by kernel_rfl) (by kernel_rfl) ?_
            repeat (go_big_quiet_step ((go_at_call 151; exact calls_under_same _ (HBit.out _))))
            refine wpQuiet_nil ?_
            rintro _ ⟨u2, rfl⟩
            go_wp2_with fail
            go_ret
            exact ⟨by rw [hR1]; rfl, hb3.trans (u2.h.mono hb3.size)⟩
      · have hkl : ¬ (k : Int) < (lb.length : Int) := by omega
        have hR1 : R = 1 := by rw [HT.out]; exact lexG_end2 _ la lb k hlt (by omega)
        have hgt : (lb.length : Int) < (la.length : Int) := by omega
        go_wp2_with (go_at_call 151; refine (l01Bit_any _ _).mono ?_; rintro e w3 ⟨rfl, rfl⟩)
        go_ret
        exact ⟨by rw [hR1]; simp, hbw2⟩
    · have hR1 := lexG_end1 (cF (ordV d)) la lb k (by omega)
      rw [← HT.out] at hR1
      by_cases h2 : k < lb.length
      · rw [if_pos h2] at hR1
        have hgt : ¬ (lb.length : Int) < (la.length : Int) := by omega
        go_wp2_with (go_at_call 151; refine (l01Bit_any _ _).mono ?_; rintro e w3 ⟨rfl, rfl⟩)
        go_ret
        exact ⟨by rw [hR1]; simp, hbw2⟩
      · rw [if_neg h2] at hR1; exact absurd hR1 HZ.out

theorem plain_t {d : Nat} {v : Val} (hf : fits d v = true) (h3 : v.k ≠ 3) (h4 : v.k ≠ 4) (h5 : v.k ≠ 5) : v.t = em := by
  rw [fits_base d v h4 h5] at hf
  unfold base at hf
  split at hf
  · rw [decide_eq_true_eq] at hf; exact empty_of _ hf.2
  · split at hf
    · rw [decide_eq_true_eq] at hf; exact empty_of _ hf.2.2
    · split at hf
      · rw [decide_eq_true_eq] at hf; exact empty_of _ hf.2.2
      · first | cases hf | (rw [if_neg h3] at hf; cases hf)
theorem l01Order_at : ∀ d : Nat, l01OrderAt d
  | d => by
    intro a b w hs hs' ha hb
    by_cases he : a = b
    · subst he; rw [ordV_refl]; exact l01Order_same a.k a.n a.t w
    · by_cases hk : a.k = b.k
      · by_cases hn : a.n = b.n
        · have ht : a.t ≠ b.t := fun e => he (val_ext hk hn e)
          by_cases h4 : a.k = 4
          · obtain ⟨e, la, rfl, ia, _, _, alla⟩ := fits_items h4 ha
            obtain ⟨e2, lb, hee, ib, _, _, allb⟩ := fits_items (hk ▸ h4) hb
            have : e2 = e := by omega
            subst this
            rw [ordV_list e2 a b la lb hk hn h4 ia ib, ← hk, ← hn, h4]
            exact l01Order_list e2 (l01Order_at e2) a.n a.t b.t la lb w hs hs' ht ia ib alla allb
          · by_cases h5 : a.k = 5
            · obtain ⟨e, la, rfl, ia, _, _, _, alla⟩ := fits_fields h5 ha
              obtain ⟨e2, lb, hee, ib, _, _, _, allb⟩ := fits_fields (hk ▸ h5) hb
              have : e2 = e := by omega
              subst this
              rw [ordV_doc e2 a b la lb hk hn h5 ia ib, ← hk, ← hn, h5]
              exact l01Order_doc e2 (l01Order_at e2) a.n a.t b.t la lb w hs hs' ht ia ib alla allb
            · rw [ordV_t d a b hk hn h4 h5]
              by_cases h3 : a.k = 3
              · rw [← hk, ← hn, h3]; exact l01Order_text a.n a.t b.t w ht
              · exact absurd ((plain_t ha h3 h4 h5).trans (plain_t hb (hk ▸ h3) (hk ▸ h4) (hk ▸ h5)).symm) ht
        · rw [ordV_n d a b hk hn, ← hk]; exact l01Order_n a.k a.n b.n a.t b.t w hn
      · rw [ordV_k d a b hk]; exact l01Order_k a.k a.n b.k b.n a.t b.t w hk

end Go.Proofs.YtdchhjnmhnehiaaGreatDoor
