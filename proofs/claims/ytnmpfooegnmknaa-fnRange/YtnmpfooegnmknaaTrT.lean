/- What the specification's test of trees answers. -/
import Derived.Test.YtnmpfooegnmknaaTrS
import Derived.Test.YtnmpfooegnmknaaTrK
namespace Go.Proofs.Ytnmpfooegnmknaa.Tr
open Go.RowKit
set_option linter.unusedVariables false

theorem one_step (n : Nat) (next : Int) (f : List Pg) (k : Nat) (last : Ent) (h : k < f.length) : oneB n next (f.take k) last (f.drop k) = (numB next (f.take k) f[k] && sizeB n f[k] && (chainB last f[k].es && oneB n next (f.take (k + 1)) (lastE last f[k].es) (f.drop (k + 1)))) := by
  rw [drop_cons f k h, oneB_cons, List.take_succ_eq_append_getElem h, Bool.and_assoc]

set_option maxRecDepth 4000 in
set_option maxHeartbeats 4000000 in
theorem specTreeOK_any (p : Option Addr) (cap : Nat) (f : List Pg) (next : Int) (w : World) (hr : RowP w p f) (hl : f.length ≤ 1048576) (hs : ∀ l ∈ f, szP l) :
    Calls Try.prog 50 #[.agg #[.slice p f.length cap, .int .i64 next]] w fun e w' => e = .returned (.bool (treeB f next)) ∧ Below w.heap.size w w' := by
  have hb0 : Below w.heap.size w (w.alloc (.cells #[.slice p f.length cap, .int .i64 next] 37)) := (Below.refl _ _).alloc (Nat.le_refl _) _
  have HR : Hid (RowP _ _ _) := hr.next hb0
  have HS : Hid _ := hs
  clear hr hs
  have c0 : (w.alloc (.cells #[.slice p f.length cap, .int .i64 next] 37)).cell? ⟨w.heap.size, 0, none⟩ = some (.slice p f.length cap) := by simp [go_sem]
  have c1 : (w.alloc (.cells #[.slice p f.length cap, .int .i64 next] 37)).cell? ⟨w.heap.size, 1, none⟩ = some (.int .i64 next) := by simp [go_sem]
  have l0 : w.heap.size < (w.alloc (.cells #[.slice p f.length cap, .int .i64 next] 37)).heap.size := by simp
  have HI1 : Hid (∀ W : World, Calls _ _ _ W _) := fun W => in_any (f.length : Int) 1 60 W
  have HI2 : Hid (∀ W : World, Calls _ _ _ W _) := fun W => in_any next 2 100000 W
  cases hH : headB f next
  · have e : treeB f next = false := by unfold treeB; rw [hH, Bool.false_and]
    rw [e]
    clear e
    cases hq1 : (decide ((1 : Int) ≤ (f.length : Int)) && decide ((f.length : Int) ≤ 60))
    · clear hH
      have HQ1 : Hid _ := hq1
      clear hq1
      go_enter Try.func50, Try.ntmps50
      go_wp2_with fail
      refine (HI1.out _).mono ?_
      rintro e w1 ⟨rfl, rfl⟩
      rw [HQ1.out]
      go_wp2_with fail
      go_ret
      exact ⟨rfl, hb0⟩
    · have hq2 : (decide ((2 : Int) ≤ next) && decide (next ≤ 100000)) = false := by
        rw [Bool.eq_false_iff]
        intro hh
        unfold headB at hH
        simp at hq1 hh hH
        omega
      have HQ1 : Hid _ := hq1
      have HQ2 : Hid _ := hq2
      clear hq1 hq2 hH
      go_enter Try.func50, Try.ntmps50
      go_wp2_with fail
      refine (HI1.out _).mono ?_
      rintro e w1 ⟨rfl, rfl⟩
      rw [HQ1.out]
      go_wp2_with fail
      refine (HI2.out _).mono ?_
      rintro e w1 ⟨rfl, rfl⟩
      rw [HQ2.out]
      go_wp2_with fail
      go_ret
      exact ⟨rfl, hb0⟩
  · have e : treeB f next = oneB f.length next [] e0 f := by unfold treeB; rw [hH, Bool.true_and, oneB_eq]
    obtain ⟨R, hR⟩ : ∃ R, R = oneB f.length next [] e0 f := ⟨_, rfl⟩
    rw [e, ← hR]
    have HRR : Hid _ := hR
    clear e hR
    obtain ⟨h1, h2, h3, h4⟩ := head_true hH
    have HQ1 : Hid ((decide ((1 : Int) ≤ (f.length : Int)) && decide ((f.length : Int) ≤ 60)) = true) := by rw [decide_eq_true (by omega), decide_eq_true (by omega)]; rfl
    have HQ2 : Hid ((decide ((2 : Int) ≤ next) && decide (next ≤ 100000)) = true) := by rw [decide_eq_true (by omega), decide_eq_true (by omega)]; rfl
    clear hH
    go_enter Try.func50, Try.ntmps50
    go_wp2_with fail
    refine (HI1.out _).mono ?_
    rintro e w1 ⟨rfl, rfl⟩
    rw [HQ1.out]
    go_wp2_with fail
    refine (HI2.out _).mono ?_
    rintro e w1 ⟨rfl, rfl⟩
    rw [HQ2.out]
    go_wp2_with fail
    have V0 := Var.start (Below.refl _ (w.alloc (.cells #[.slice p f.length cap, .int .i64 next] 37))) em (-1) 40
    have hs0 : (w.alloc (.cells #[.slice p f.length cap, .int .i64 next] 37)).heap.size = w.heap.size + 1 := by simp
    generalize w.alloc (.cells #[.slice p f.length cap, .int .i64 next] 37) = W0 at V0 hb0 c0 c1 l0 HR hs0 ⊢
    generalize W0.alloc (.cells #[.string em, .int .i64 (-1)] 40) = W1 at V0 ⊢
    obtain ⟨lb, hlb⟩ : ∃ lb, lb = w.heap.size + 1 := ⟨_, rfl⟩
    rw [hs0] at V0
    rw [← hlb] at V0 ⊢
    obtain ⟨bx, hbx⟩ : ∃ bx, bx = w.heap.size := ⟨_, rfl⟩
    have HB0 : Hid (Below w.heap.size w W0) := hb0
    rw [← hbx] at c0 c1 l0 ⊢
    have hlb0 : bx < lb := by omega
    clear hlb hbx hs0 hb0 HI1 HI2 HQ1 HQ2
    go_loopw [4] (fun i wr => ∃ (k : Nat) (last : Ent), k ≤ f.length ∧ i = .int .i64 k ∧ R = oneB f.length next (f.take k) last (f.drop k) ∧ Var W0 wr lb last) (fun i _ => f.length - (intOf i).toNat)
    case atStart => exact ⟨0, e0, Nat.zero_le _, rfl, HRR.out, V0⟩
    case round =>
      obtain ⟨k, last, hk, rfl, hall, V⟩ := hrel
      have HA : Hid _ := hall
      clear hall V0
      have k0 := (V.bel.cell l0).trans c0
      have k1 := (V.bel.cell l0).trans c1
      have m0 : bx < wr.heap.size := Nat.lt_of_lt_of_le l0 V.bel.size
      by_cases hlt : k < f.length
      · rcases HR.out with h0 | ⟨g, rfl, R1⟩
        · subst h0; simp at hlt
        obtain ⟨x0', pa, ca, x1', t1⟩ := R1.cells k hlt
        have x0 := (V.bel.cell R1.lt).trans x0'
        have x1 := (V.bel.cell R1.lt).trans x1'
        have hlt2 : (k : Int) < (f.length : Int) := by omega
        obtain ⟨hsz1, hsz2⟩ := HS.out f[k] (List.getElem_mem _)
        have HZ : Hid _ := hsz2
        have hst := HA.out.trans (one_step f.length next f k last hlt)
        have hbA : Below wr.heap.size wr (wr.alloc (.cells #[.int .i64 f[k].num, .slice pa f[k].es.length ca] 86)) := (Below.refl _ _).alloc (Nat.le_refl _) _
        have V2 := V.step hbA
        have HT : Hid (InE _ _ _) := t1
        have HRD : Hid (ReadP _ _ _) := R1
        have j0 := (hbA.cell m0).trans k0
        have j1 := (hbA.cell m0).trans k1
        have p0 : (wr.alloc (.cells #[.int .i64 f[k].num, .slice pa f[k].es.length ca] 86)).cell? ⟨wr.heap.size, 0, none⟩ = some (.int .i64 f[k].num) := by simp [go_sem]
        have p1 : (wr.alloc (.cells #[.int .i64 f[k].num, .slice pa f[k].es.length ca] 86)).cell? ⟨wr.heap.size, 1, none⟩ = some (.slice pa f[k].es.length ca) := by simp [go_sem]
        have pl : wr.heap.size < (wr.alloc (.cells #[.int .i64 f[k].num, .slice pa f[k].es.length ca] 86)).heap.size := by simp
        have plb : lb < wr.heap.size := V.lt
        have HI3 : Hid (∀ W : World, Calls _ _ _ W _) := fun W => in_any f[k].num 1 (next - 1) W
        have hin : (decide (1 ≤ f[k].num) && decide (f[k].num ≤ next - 1)) = (decide (1 ≤ f[k].num) && decide (f[k].num < next)) := by
          congr 1; exact decide_eq_decide.2 ⟨fun h => by omega, fun h => by omega⟩
        have hnb : numB next (f.take k) f[k] = ((decide (1 ≤ f[k].num) && decide (f[k].num ≤ next - 1)) && !((f.take k).any fun q => decide (q.num = f[k].num))) := by rw [hin, numB_def, Bool.and_assoc]
        clear R1 t1 hsz2 V x0' x1' hbA hin
        cases hq : (decide (1 ≤ f[k].num) && decide (f[k].num ≤ next - 1))
        · rw [hnb, hq, Bool.false_and, Bool.false_and, Bool.false_and] at hst
          have HF : Hid (R = false) := hst
          have HQ : Hid _ := hq
          clear hst hq hnb
          go_wp2_with fail
          refine (HI3.out _).mono ?_
          rintro e w2 ⟨rfl, hw⟩
          rw [HQ.out]
          subst hw
          go_wp2_with fail
          go_ret
          exact ⟨by rw [HF.out]; rfl, HB0.out.trans (V2.bel.mono HB0.out.size)⟩
        · rw [hq, Bool.true_and] at hnb
          have HQ : Hid _ := hq
          clear hq
          cases hB : sizeB f.length f[k]
          · rw [hB, Bool.and_false, Bool.false_and] at hst
            have HF : Hid (R = false) := hst
            clear hst hnb
            rcases sizeB_false hB with h4 | ⟨h5, h6⟩
            · have h4' : 4 < (f[k].es.length : Int) := by omega
              clear hB h4
              go_wp2_with fail
              refine (HI3.out _).mono ?_
              rintro e w2 ⟨rfl, hw⟩
              rw [HQ.out]
              subst hw
              go_wp2_with fail
              go_ret
              exact ⟨by rw [HF.out]; rfl, HB0.out.trans (V2.bel.mono HB0.out.size)⟩
            · have h4' : ¬ 4 < (f[k].es.length : Int) := by omega
              have h5' : (f[k].es.length : Int) = 0 := by omega
              have h6' : 1 < (f.length : Int) := by omega
              clear hB h5 h6
              go_wp2_with fail
              refine (HI3.out _).mono ?_
              rintro e w2 ⟨rfl, hw⟩
              rw [HQ.out]
              subst hw
              go_wp2_with fail
              go_ret
              exact ⟨by rw [HF.out]; rfl, HB0.out.trans (V2.bel.mono HB0.out.size)⟩
          · rw [hB, Bool.and_true, hnb] at hst
            obtain ⟨h4, h5⟩ := sizeB_true hB
            have h4' : ¬ 4 < (f[k].es.length : Int) := by omega
            have HST : Hid (R = _) := hst
            clear hB hst hnb
            by_cases h6 : f[k].es.length = 0
            · have h6' : (f[k].es.length : Int) = 0 := by omega
              have h7' : ¬ 1 < (f.length : Int) := by omega
              clear h4 h5 h6
              go_wp2_with fail
              refine (HI3.out _).mono ?_
              rintro e w2 ⟨rfl, hw⟩
              rw [HQ.out]
              subst hw
              go_wp2_with fail
              generalize wr.alloc (.cells #[.int .i64 f[k].num, .slice pa f[k].es.length ca] 86) = W2 at V2 j0 j1 p0 p1 pl ⊢
              obtain ⟨pb, hpb⟩ : ∃ pb, pb = wr.heap.size := ⟨_, rfl⟩
              rw [← hpb] at p0 p1 pl plb ⊢
              have hm0 : bx < W2.heap.size := by omega
              clear hpb m0 k0 k1 x0 x1 h4'
              go_loopw [6] (fun i wq => ∃ q : Nat, q ≤ k ∧ i = .int .i64 q ∧ (∀ u ∈ f.take q, u.num ≠ f[k].num) ∧ Below W2.heap.size W2 wq) (fun i _ => k - (intOf i).toNat)
              case atStart => exact ⟨0, Nat.zero_le _, rfl, fun u hu => by simp at hu, Below.refl _ _⟩
              case round =>
                obtain ⟨q, hq, rfl, hno, hbq⟩ := hrel
                have HNO : Hid _ := hno
                clear hno
                have q0 := (hbq.cell hm0).trans j0
                have q2 := (hbq.cell pl).trans p0
                have q3 := (hbq.cell pl).trans p1
                by_cases hqk : q < k
                · have hqk2 : (q : Int) < (k : Int) := by omega
                  have hqn : (q : Int) < (f.length : Int) := by omega
                  have hqf : q < f.length := by omega
                  have q1 := (hbq.cell (Nat.lt_of_lt_of_le HRD.out.lt V2.bel.size)).trans ((V2.bel.cell HRD.out.lt).trans (HRD.out.cells q hqf).1)
                  by_cases hne : f[q].num = f[k].num
                  · have hany : ((f.take k).any fun q => decide (q.num = f[k].num)) = true := List.any_eq_true.mpr ⟨f[q], by rw [List.mem_take_iff_getElem]; exact ⟨q, by omega, rfl⟩, decide_eq_true hne⟩
                    have HF : Hid (R = false) := HST.out.trans (by rw [hany]; rfl)
                    have hne' : (f[q].num == f[k].num) = true := beq_iff_eq.mpr hne
                    obtain ⟨nq, hnq⟩ : ∃ nq, nq = f[q].num := ⟨_, rfl⟩
                    rw [← hnq] at q1 hne'
                    clear hany hne hnq
                    go_wp2_with fail
                    go_quiet (fail)
                    go_wp2_with fail
                    go_ret
                    exact ⟨by rw [HF.out]; rfl, HB0.out.trans ((V2.step (below_drewN hbq _)).bel.mono HB0.out.size)⟩
                  · have hne' : (f[q].num == f[k].num) = false := beq_eq_false_iff_ne.mpr hne
                    have HNE : Hid (f[q].num ≠ f[k].num) := hne
                    obtain ⟨nq, hnq⟩ : ∃ nq, nq = f[q].num := ⟨_, rfl⟩
                    rw [← hnq] at q1 hne'
                    clear hne hnq
                    go_wp2_with fail
                    go_quiet (fail)
                    go_wp2_with fail
                    go_roundw
                    case rel => exact ⟨q + 1, by omega, by go_num, take_allP _ f q hqf HNO.out HNE.out, below_drewN hbq _⟩
                    case measure => simp [intOf]; omega
                · have hqk2 : ¬ (q : Int) < (k : Int) := by omega
                  have hany : ((f.take k).any fun q => decide (q.num = f[k].num)) = false := by
                    rw [Bool.eq_false_iff]; intro hh
                    obtain ⟨u, hu, he⟩ := List.any_eq_true.mp hh
                    exact HNO.out u (by rw [show q = k by omega]; exact hu) (of_decide_eq_true he)
                  have HST2 : Hid (R = (chainB last f[k].es && oneB f.length next (f.take (k + 1)) (lastE last f[k].es) (f.drop (k + 1)))) := HST.out.trans (by rw [hany, Bool.not_false, Bool.true_and])
                  have V3 := V2.step hbq
                  have hpl3 : pb < wr.heap.size := Nat.lt_of_lt_of_le pl hbq.size
                  clear hany
                  go_wp2_with fail
                  generalize wr = W3 at V3 hpl3 q0 q2 q3 ⊢
                  obtain ⟨OB, hOB⟩ : ∃ OB : Ent → Bool, OB = fun e => oneB f.length next (f.take (k + 1)) e (f.drop (k + 1)) := ⟨_, rfl⟩
                  have HST3 : Hid (R = (chainB last f[k].es && OB (lastE last f[k].es))) := by rw [hOB]; exact HST2.out
                  have HOB : Hid _ := hOB
                  clear hOB HST2 HST V2 j0 j1 p0 p1 pl hm0 q0 q2 hbq
                  go_loopw [7] (fun i wq => ∃ (j : Nat) (lst : Ent), j ≤ f[k].es.length ∧ i = .int .i64 j ∧ R = (chainB lst (f[k].es.drop j) && OB (lastE lst (f[k].es.drop j))) ∧ Var W0 wq lb lst ∧ wq.cell? ⟨pb, 1, none⟩ = some (.slice pa f[k].es.length ca) ∧ pb < wq.heap.size) (fun i _ => f[k].es.length - (intOf i).toNat)
                  case atStart => exact ⟨0, last, Nat.zero_le _, rfl, HST3.out, V3, q3, hpl3⟩
                  case round =>
                    obtain ⟨j, lst, hj, rfl, hall, V, q4, hpl4⟩ := hrel
                    have HJ : Hid _ := hall
                    clear hall V3 HST3 q3 hpl3
                    by_cases hjl : j < f[k].es.length
                    · exfalso; omega
                    · have hjl2 : ¬ (j : Int) < (f[k].es.length : Int) := by omega
                      have HN3 : Hid (R = OB lst) := HJ.out.trans (by rw [List.drop_of_length_le (by omega)]; exact Bool.true_and _)
                      go_wp2_with fail
                      go_roundw
                      case rel => exact ⟨k + 1, lst, by omega, by go_num, by rw [HN3.out, HOB.out], V⟩
                      case measure => simp [intOf]; omega
            · have h6' : ¬ f[k].es = [] := fun e => h6 (by rw [e]; rfl)
              clear h4 h5 h6
              go_wp2_with fail
              refine (HI3.out _).mono ?_
              rintro e w2 ⟨rfl, hw⟩
              rw [HQ.out]
              subst hw
              go_wp2_with fail
              generalize wr.alloc (.cells #[.int .i64 f[k].num, .slice pa f[k].es.length ca] 86) = W2 at V2 j0 j1 p0 p1 pl ⊢
              obtain ⟨pb, hpb⟩ : ∃ pb, pb = wr.heap.size := ⟨_, rfl⟩
              rw [← hpb] at p0 p1 pl plb ⊢
              have hm0 : bx < W2.heap.size := by omega
              clear hpb m0 k0 k1 x0 x1 h4'
              go_loopw [6] (fun i wq => ∃ q : Nat, q ≤ k ∧ i = .int .i64 q ∧ (∀ u ∈ f.take q, u.num ≠ f[k].num) ∧ Below W2.heap.size W2 wq) (fun i _ => k - (intOf i).toNat)
              case atStart => exact ⟨0, Nat.zero_le _, rfl, fun u hu => by simp at hu, Below.refl _ _⟩
              case round =>
                obtain ⟨q, hq, rfl, hno, hbq⟩ := hrel
                have HNO : Hid _ := hno
                clear hno
                have q0 := (hbq.cell hm0).trans j0
                have q2 := (hbq.cell pl).trans p0
                have q3 := (hbq.cell pl).trans p1
                by_cases hqk : q < k
                · have hqk2 : (q : Int) < (k : Int) := by omega
                  have hqn : (q : Int) < (f.length : Int) := by omega
                  have hqf : q < f.length := by omega
                  have q1 := (hbq.cell (Nat.lt_of_lt_of_le HRD.out.lt V2.bel.size)).trans ((V2.bel.cell HRD.out.lt).trans (HRD.out.cells q hqf).1)
                  by_cases hne : f[q].num = f[k].num
                  · have hany : ((f.take k).any fun q => decide (q.num = f[k].num)) = true := List.any_eq_true.mpr ⟨f[q], by rw [List.mem_take_iff_getElem]; exact ⟨q, by omega, rfl⟩, decide_eq_true hne⟩
                    have HF : Hid (R = false) := HST.out.trans (by rw [hany]; rfl)
                    have hne' : (f[q].num == f[k].num) = true := beq_iff_eq.mpr hne
                    obtain ⟨nq, hnq⟩ : ∃ nq, nq = f[q].num := ⟨_, rfl⟩
                    rw [← hnq] at q1 hne'
                    clear hany hne hnq
                    go_wp2_with fail
                    go_quiet (fail)
                    go_wp2_with fail
                    go_ret
                    exact ⟨by rw [HF.out]; rfl, HB0.out.trans ((V2.step (below_drewN hbq _)).bel.mono HB0.out.size)⟩
                  · have hne' : (f[q].num == f[k].num) = false := beq_eq_false_iff_ne.mpr hne
                    have HNE : Hid (f[q].num ≠ f[k].num) := hne
                    obtain ⟨nq, hnq⟩ : ∃ nq, nq = f[q].num := ⟨_, rfl⟩
                    rw [← hnq] at q1 hne'
                    clear hne hnq
                    go_wp2_with fail
                    go_quiet (fail)
                    go_wp2_with fail
                    go_roundw
                    case rel => exact ⟨q + 1, by omega, by go_num, take_allP _ f q hqf HNO.out HNE.out, below_drewN hbq _⟩
                    case measure => simp [intOf]; omega
                · have hqk2 : ¬ (q : Int) < (k : Int) := by omega
                  have hany : ((f.take k).any fun q => decide (q.num = f[k].num)) = false := by
                    rw [Bool.eq_false_iff]; intro hh
                    obtain ⟨u, hu, he⟩ := List.any_eq_true.mp hh
                    exact HNO.out u (by rw [show q = k by omega]; exact hu) (of_decide_eq_true he)
                  have HST2 : Hid (R = (chainB last f[k].es && oneB f.length next (f.take (k + 1)) (lastE last f[k].es) (f.drop (k + 1)))) := HST.out.trans (by rw [hany, Bool.not_false, Bool.true_and])
                  have V3 := V2.step hbq
                  have hpl3 : pb < wr.heap.size := Nat.lt_of_lt_of_le pl hbq.size
                  clear hany
                  go_wp2_with fail
                  generalize wr = W3 at V3 hpl3 q0 q2 q3 ⊢
                  obtain ⟨OB, hOB⟩ : ∃ OB : Ent → Bool, OB = fun e => oneB f.length next (f.take (k + 1)) e (f.drop (k + 1)) := ⟨_, rfl⟩
                  have HST3 : Hid (R = (chainB last f[k].es && OB (lastE last f[k].es))) := by rw [hOB]; exact HST2.out
                  have HOB : Hid _ := hOB
                  clear hOB HST2 HST V2 j0 j1 p0 p1 pl hm0 q0 q2 hbq
                  go_loopw [7] (fun i wq => ∃ (j : Nat) (lst : Ent), j ≤ f[k].es.length ∧ i = .int .i64 j ∧ R = (chainB lst (f[k].es.drop j) && OB (lastE lst (f[k].es.drop j))) ∧ Var W0 wq lb lst ∧ wq.cell? ⟨pb, 1, none⟩ = some (.slice pa f[k].es.length ca) ∧ pb < wq.heap.size) (fun i _ => f[k].es.length - (intOf i).toNat)
                  case atStart => exact ⟨0, last, Nat.zero_le _, rfl, HST3.out, V3, q3, hpl3⟩
                  case round =>
                    obtain ⟨j, lst, hj, rfl, hall, V, q4, hpl4⟩ := hrel
                    have HJ : Hid _ := hall
                    clear hall V3 HST3 q3 hpl3
                    by_cases hjl : j < f[k].es.length
                    · rcases HT.out.step V.bel with h0 | ⟨b, off, rfl, hbl, hc⟩
                      · omega
                      obtain ⟨y0, y1⟩ := hc j hjl
                      have hjl2 : (j : Int) < (f[k].es.length : Int) := by omega
                      have hks := HZ.out f[k].es[j] (List.getElem_mem _)
                      have hst := HJ.out.trans (chain_step lst f[k].es j hjl OB)
                      obtain ⟨en, hen⟩ : ∃ en, en = f[k].es[j] := ⟨_, rfl⟩
                      rw [← hen] at y0 y1 hks hst
                      have u0 : ∀ u : Under wr, u.x.cell? ⟨pb, 1, none⟩ = some (.slice (some ⟨b, off, none⟩) f[k].es.length ca) := fun u => (u.h.cell hpl4).trans q4
                      have u1 : ∀ u : Under wr, u.x.cell? ⟨b, off + j * 2, none⟩ = some (.string en.key) := fun u => (u.h.cell hbl).trans y0
                      have u2 : ∀ u : Under wr, u.x.cell? ⟨b, off + j * 2 + 1, none⟩ = some (.int .i64 en.id) := fun u => (u.h.cell hbl).trans y1
                      have u3 : ∀ u : Under wr, u.x.cell? ⟨lb, 0, none⟩ = some (.string lst.key) := fun u => (u.h.cell V.lt).trans V.c0
                      have u4 : ∀ u : Under wr, u.x.cell? ⟨lb, 1, none⟩ = some (.int .i64 lst.id) := fun u => (u.h.cell V.lt).trans V.c1
                      have HOK0 := fun u : Under wr => specEntry_any en.key en.id u.x hks
                      have HLS0 := fun u : Under wr => specLess_any lst.key en.key lst.id en.id u.x
                      have hnu : Nonempty (Under wr) := ⟨⟨wr, Below.refl _ _⟩⟩
                      clear hc hen
                      cases hE : entB en
                      · rw [show entB ⟨en.key, en.id⟩ = false from hE] at HOK0
                        rw [hE, Bool.false_and, Bool.false_and] at hst
                        have HOK : Hid (∀ u : Under wr, Calls _ _ _ u.x _) := HOK0
                        have HF : Hid (R = false) := hst
                        clear HOK0 HLS0 hst hE
                        go_wp2_with fail
                        refine wp_region_under (by kernel_rfl) (by kernel_rfl) ?_
                        repeat (go_big_quiet_step ((go_at_call 51; exact calls_under _ (HOK.out _))))
                        refine wpQuiet_nil ?_
                        rintro _ ⟨u, rfl⟩
                        go_wp2_with fail
                        go_ret
                        exact ⟨by rw [HF.out]; rfl, HB0.out.trans ((V.step u.h).bel.mono HB0.out.size)⟩
                      · rw [show entB ⟨en.key, en.id⟩ = true from hE] at HOK0
                        rw [hE, Bool.true_and] at hst
                        have HOK : Hid (∀ u : Under wr, Calls _ _ _ u.x _) := HOK0
                        cases hL : lessE lst en
                        · rw [show lessE ⟨lst.key, lst.id⟩ ⟨en.key, en.id⟩ = false from hL] at HLS0
                          rw [hL, Bool.false_and] at hst
                          have HLS : Hid (∀ u : Under wr, Calls _ _ _ u.x _) := HLS0
                          have HF : Hid (R = false) := hst
                          clear HOK0 HLS0 hst hE hL
                          go_wp2_with fail
                          refine wp_region_under (by kernel_rfl) (by kernel_rfl) ?_
                          repeat (go_big_quiet_step ((first | (go_at_call 51; exact calls_under _ (HOK.out _)) | (go_at_call 99; exact calls_under _ (HLS.out _)))))
                          refine wpQuiet_nil ?_
                          rintro _ ⟨u, rfl⟩
                          go_wp2_with fail
                          go_ret
                          exact ⟨by rw [HF.out]; rfl, HB0.out.trans ((V.step u.h).bel.mono HB0.out.size)⟩
                        · rw [show lessE ⟨lst.key, lst.id⟩ ⟨en.key, en.id⟩ = true from hL] at HLS0
                          rw [hL, Bool.true_and] at hst
                          have HLS : Hid (∀ u : Under wr, Calls _ _ _ u.x _) := HLS0
                          have HN2 : Hid (R = _) := hst
                          clear HOK0 HLS0 hst hE hL
                          go_wp2_with fail
                          refine wp_region_under (by kernel_rfl) (by kernel_rfl) ?_
                          repeat (go_big_quiet_step ((first | (go_at_call 51; exact calls_under _ (HOK.out _)) | (go_at_call 99; exact calls_under _ (HLS.out _)))))
                          refine wpQuiet_nil ?_
                          rintro _ ⟨u, rfl⟩
                          have V4 := V.step u.h
                          have a0 := u0 u
                          have a1 := u1 u
                          have a2 := u2 u
                          have a3 := V4.c0
                          have a4 := V4.c1
                          have a5 := V4.z0
                          have a6 := V4.z1
                          have HV5 : Hid (Var _ _ _ _) := V4.set en.key en.id
                          have hpl5 : pb < u.x.heap.size := Nat.lt_of_lt_of_le hpl4 u.h.size
                          have hnb : lb ≠ pb := by omega
                          have HP5 : Hid (((u.x.setCell ⟨lb, 0, none⟩ (.string en.key)).setCell ⟨lb, 1, none⟩ (.int .i64 en.id)).cell? ⟨pb, 1, none⟩ = some (.slice (some ⟨b, off, none⟩) f[k].es.length ca)) := by
                            rw [World.cell?_of_block (grown_set.block pb (by simpa [World.setCell] using hpl5) (fun e => by injection e; omega)), World.cell?_of_block (grown_set.block pb hpl5 (fun e => by injection e; omega))]; exact a0
                          clear u0 u1 u2 u3 u4 V4
                          go_wp2_with fail
                          go_roundw
                          case rel => exact ⟨j + 1, en, by omega, by go_num, HN2.out, HV5.out, HP5.out, by simpa [World.setCell] using hpl5⟩
                          case measure => simp [intOf]; omega
                    · have hjl2 : ¬ (j : Int) < (f[k].es.length : Int) := by omega
                      have HN3 : Hid (R = OB lst) := HJ.out.trans (by rw [List.drop_of_length_le (by omega)]; exact Bool.true_and _)
                      go_wp2_with fail
                      go_roundw
                      case rel => exact ⟨k + 1, lst, by omega, by go_num, by rw [HN3.out, HOB.out], V⟩
                      case measure => simp [intOf]; omega
      · have hlt2 : ¬ (k : Int) < (f.length : Int) := by omega
        have HT : Hid (R = true) := HA.out.trans (by rw [List.drop_of_length_le (by omega)]; rfl)
        go_wp2_with fail
        go_ret
        exact ⟨by rw [HT.out]; rfl, HB0.out.trans (V.bel.mono HB0.out.size)⟩

end Go.Proofs.Ytnmpfooegnmknaa.Tr
