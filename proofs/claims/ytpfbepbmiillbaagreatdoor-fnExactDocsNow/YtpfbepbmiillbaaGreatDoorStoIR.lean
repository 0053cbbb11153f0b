/- Whether a store is right: what the program answers. -/
import Derived.Test.YtpfbepbmiillbaaGreatDoorNwtIR
import Derived.Test.YtpfbepbmiillbaaGreatDoorTxoIR
import Derived.Test.YtpfbepbmiillbaaGreatDoorDnsIR
import Derived.BigQuiet
import Derived.Test.YtpfbepbmiillbaaGreatDoorTxnIR
namespace Go.Proofs.YtpfbepbmiillbaaGreatDoor.Tx
open Go.RowKit Tr Co Rea Ce
set_option linter.unusedVariables false

/-- Is a store right, as the program asks. -/
def stoB (s : Sto) : Bool := decide (0 ≤ s.clk) && (decide (s.clk ≤ 10000) && (decide (0 < s.cs.length) && ((decide (s.cs.length ≤ 3) && colsB s.cs) && (txsB s.cs (-1) s.ts && (donesB s.ds && decide (newestB s ≤ s.clk))))))
set_option maxRecDepth 4000 in
set_option maxHeartbeats 4000000 in
theorem storeOK_any (bs gc gt gd cc ct cd : Nat) (s : Sto) (w : World) (hm : MadeSto w bs gc gt gd s) (hz : SzSto s) :
    Calls Tryz.prog 11 #[.agg #[.slice (some ⟨gc, 0, none⟩) s.cs.length cc, .slice (some ⟨gt, 0, none⟩) s.ts.length ct, .slice (some ⟨gd, 0, none⟩) s.ds.length cd, .int .i64 s.clk]] w fun e w' => e = .returned (.bool (stoB s)) ∧ Below w.heap.size w w' := by
  have X0 := BxTn.start w (.slice (some ⟨gc, 0, none⟩) s.cs.length cc) (.slice (some ⟨gt, 0, none⟩) s.ts.length ct) (.slice (some ⟨gd, 0, none⟩) s.ds.length cd) (.int .i64 s.clk) 33
  have hb0 := X0.bel
  have HM := hm.next X0.bel
  obtain ⟨_, hl, k0, k1, k2, k3⟩ := X0
  have a0 : ∀ u : Under (w.alloc (.cells #[.slice (some ⟨gc, 0, none⟩) s.cs.length cc, .slice (some ⟨gt, 0, none⟩) s.ts.length ct, .slice (some ⟨gd, 0, none⟩) s.ds.length cd, .int .i64 s.clk] 33)), u.x.cell? ⟨w.heap.size, 0, none⟩ = some (.slice (some ⟨gc, 0, none⟩) s.cs.length cc) := fun u => (u.h.cell hl).trans k0
  have a1 : ∀ u : Under (w.alloc (.cells #[.slice (some ⟨gc, 0, none⟩) s.cs.length cc, .slice (some ⟨gt, 0, none⟩) s.ts.length ct, .slice (some ⟨gd, 0, none⟩) s.ds.length cd, .int .i64 s.clk] 33)), u.x.cell? ⟨w.heap.size, 1, none⟩ = some (.slice (some ⟨gt, 0, none⟩) s.ts.length ct) := fun u => (u.h.cell hl).trans k1
  have a2 : ∀ u : Under (w.alloc (.cells #[.slice (some ⟨gc, 0, none⟩) s.cs.length cc, .slice (some ⟨gt, 0, none⟩) s.ts.length ct, .slice (some ⟨gd, 0, none⟩) s.ds.length cd, .int .i64 s.clk] 33)), u.x.cell? ⟨w.heap.size, 2, none⟩ = some (.slice (some ⟨gd, 0, none⟩) s.ds.length cd) := fun u => (u.h.cell hl).trans k2
  have a3 : ∀ u : Under (w.alloc (.cells #[.slice (some ⟨gc, 0, none⟩) s.cs.length cc, .slice (some ⟨gt, 0, none⟩) s.ts.length ct, .slice (some ⟨gd, 0, none⟩) s.ds.length cd, .int .i64 s.clk] 33)), u.x.cell? ⟨w.heap.size, 3, none⟩ = some (.int .i64 s.clk) := fun u => (u.h.cell hl).trans k3
  have HC0 := fun u : Under (w.alloc (.cells #[.slice (some ⟨gc, 0, none⟩) s.cs.length cc, .slice (some ⟨gt, 0, none⟩) s.ts.length ct, .slice (some ⟨gd, 0, none⟩) s.ds.length cd, .int .i64 s.clk] 33)) => implColls_any gc cc bs s.cs u.x (HM.c.next u.h) hz.c0 hz.c1
  have HT0 := fun u : Under (w.alloc (.cells #[.slice (some ⟨gc, 0, none⟩) s.cs.length cc, .slice (some ⟨gt, 0, none⟩) s.ts.length ct, .slice (some ⟨gd, 0, none⟩) s.ds.length cd, .int .i64 s.clk] 33)) => txnsOK_any gt ct bs gc bs cc s.ts s.cs u.x (HM.t.next u.h) hz.t0 hz.t1 (HM.c.next u.h) hz.c0
  have HD0 := fun u : Under (w.alloc (.cells #[.slice (some ⟨gc, 0, none⟩) s.cs.length cc, .slice (some ⟨gt, 0, none⟩) s.ts.length ct, .slice (some ⟨gd, 0, none⟩) s.ds.length cd, .int .i64 s.clk] 33)) => doneListOK_any gd cd bs s.ds u.x (HM.d.next u.h) hz.d0 hz.d1
  have HN0 := fun u : Under (w.alloc (.cells #[.slice (some ⟨gc, 0, none⟩) s.cs.length cc, .slice (some ⟨gt, 0, none⟩) s.ts.length ct, .slice (some ⟨gd, 0, none⟩) s.ds.length cd, .int .i64 s.clk] 33)) => newest_any bs gc gt gd cc ct cd s u.x (HM.next u.h) hz
  clear hm hz HM k0 k1 k2 k3
  obtain ⟨R, hR⟩ : ∃ R, R = stoB s := ⟨_, rfl⟩
  rw [← hR]
  obtain ⟨C, hC⟩ : ∃ C, C = (decide (s.cs.length ≤ 3) && colsB s.cs) := ⟨_, rfl⟩
  obtain ⟨T, hT⟩ : ∃ T, T = txsB s.cs (-1) s.ts := ⟨_, rfl⟩
  obtain ⟨D, hD⟩ : ∃ D, D = donesB s.ds := ⟨_, rfl⟩
  obtain ⟨N, hN⟩ : ∃ N, N = newestB s := ⟨_, rfl⟩
  unfold stoB at hR
  rw [← hC, ← hT, ← hD, ← hN] at hR
  rw [← hC] at HC0
  rw [← hT] at HT0
  rw [← hD] at HD0
  rw [← hN] at HN0
  clear hC hT hD hN
  by_cases s0 : 0 ≤ s.clk
  case neg =>
    rw [decide_eq_false s0, Bool.false_and] at hR
    have hds0 : decide (0 ≤ s.clk) = false := decide_eq_false s0
    have HRR : Hid (R = false) := hR
    clear hR HC0 HT0 HD0 HN0
    go_enter Tryz.func11, Tryz.ntmps11
    go_wp2_with fail
    generalize w.alloc (.cells #[.slice (some ⟨gc, 0, none⟩) s.cs.length cc, .slice (some ⟨gt, 0, none⟩) s.ts.length ct, .slice (some ⟨gd, 0, none⟩) s.ds.length cd, .int .i64 s.clk] 33) = WA at a0 a1 a2 a3 hb0 hl ⊢
    have hnu : Nonempty (Under WA) := ⟨⟨WA, Below.refl _ _⟩⟩
    refine wp_region_under (by kernel_rfl) (by kernel_rfl) ?_
    repeat (go_big_quiet_step (fail))
    refine wpQuiet_nil ?_
    rintro _ ⟨u, rfl⟩
    go_wp2_with fail
    go_ret
    exact ⟨by rw [HRR.out]; rfl, hb0.trans (u.h.mono hb0.size)⟩
  rw [decide_eq_true s0, Bool.true_and] at hR
  have hds0 : decide (0 ≤ s.clk) = true := decide_eq_true s0
  by_cases s1 : s.clk ≤ 10000
  case neg =>
    rw [decide_eq_false s1, Bool.false_and] at hR
    have hds1 : decide (s.clk ≤ 10000) = false := decide_eq_false s1
    have HRR : Hid (R = false) := hR
    clear hR HC0 HT0 HD0 HN0
    go_enter Tryz.func11, Tryz.ntmps11
    go_wp2_with fail
    generalize w.alloc (.cells #[.slice (some ⟨gc, 0, none⟩) s.cs.length cc, .slice (some ⟨gt, 0, none⟩) s.ts.length ct, .slice (some ⟨gd, 0, none⟩) s.ds.length cd, .int .i64 s.clk] 33) = WA at a0 a1 a2 a3 hb0 hl ⊢
    have hnu : Nonempty (Under WA) := ⟨⟨WA, Below.refl _ _⟩⟩
    refine wp_region_under (by kernel_rfl) (by kernel_rfl) ?_
    repeat (go_big_quiet_step (fail))
    refine wpQuiet_nil ?_
    rintro _ ⟨u, rfl⟩
    go_wp2_with fail
    go_ret
    exact ⟨by rw [HRR.out]; rfl, hb0.trans (u.h.mono hb0.size)⟩
  rw [decide_eq_true s1, Bool.true_and] at hR
  have hds1 : decide (s.clk ≤ 10000) = true := decide_eq_true s1
  by_cases s2 : 0 < s.cs.length
  case neg =>
    have s2' : ¬ (0 : Int) < (s.cs.length : Int) := by omega
    have hds2 : decide ((0 : Int) < (s.cs.length : Int)) = false := decide_eq_false s2'
    rw [decide_eq_false s2, Bool.false_and] at hR
    have HRR : Hid (R = false) := hR
    clear hR HC0 HT0 HD0 HN0
    go_enter Tryz.func11, Tryz.ntmps11
    go_wp2_with fail
    generalize w.alloc (.cells #[.slice (some ⟨gc, 0, none⟩) s.cs.length cc, .slice (some ⟨gt, 0, none⟩) s.ts.length ct, .slice (some ⟨gd, 0, none⟩) s.ds.length cd, .int .i64 s.clk] 33) = WA at a0 a1 a2 a3 hb0 hl ⊢
    have hnu : Nonempty (Under WA) := ⟨⟨WA, Below.refl _ _⟩⟩
    refine wp_region_under (by kernel_rfl) (by kernel_rfl) ?_
    repeat (go_big_quiet_step (fail))
    refine wpQuiet_nil ?_
    rintro _ ⟨u, rfl⟩
    go_wp2_with fail
    go_ret
    exact ⟨by rw [HRR.out]; rfl, hb0.trans (u.h.mono hb0.size)⟩
  have s2' : (0 : Int) < (s.cs.length : Int) := by omega
  have hds2 : decide ((0 : Int) < (s.cs.length : Int)) = true := decide_eq_true s2'
  rw [decide_eq_true s2, Bool.true_and] at hR
  cases C
  · rw [Bool.false_and] at hR
    have HC : Hid (∀ u : Under _, Calls _ _ _ u.x _) := HC0
    have HRR : Hid (R = false) := hR
    clear hR HC0 HT0 HD0 HN0
    go_enter Tryz.func11, Tryz.ntmps11
    go_wp2_with fail
    generalize w.alloc (.cells #[.slice (some ⟨gc, 0, none⟩) s.cs.length cc, .slice (some ⟨gt, 0, none⟩) s.ts.length ct, .slice (some ⟨gd, 0, none⟩) s.ds.length cd, .int .i64 s.clk] 33) = WA at a0 a1 a2 a3 hb0 hl HC ⊢
    have hnu : Nonempty (Under WA) := ⟨⟨WA, Below.refl _ _⟩⟩
    refine wp_region_under (by kernel_rfl) (by kernel_rfl) ?_
    repeat (go_big_quiet_step ((first | (go_at_call 39; exact calls_under _ (HC.out _)))))
    refine wpQuiet_nil ?_
    rintro _ ⟨u, rfl⟩
    go_wp2_with fail
    go_ret
    exact ⟨by rw [HRR.out]; rfl, hb0.trans (u.h.mono hb0.size)⟩
  rw [Bool.true_and] at hR
  cases T
  · rw [Bool.false_and] at hR
    have HC : Hid (∀ u : Under _, Calls _ _ _ u.x _) := HC0
    have HT : Hid (∀ u : Under _, Calls _ _ _ u.x _) := HT0
    have HRR : Hid (R = false) := hR
    clear hR HC0 HT0 HD0 HN0
    go_enter Tryz.func11, Tryz.ntmps11
    go_wp2_with fail
    generalize w.alloc (.cells #[.slice (some ⟨gc, 0, none⟩) s.cs.length cc, .slice (some ⟨gt, 0, none⟩) s.ts.length ct, .slice (some ⟨gd, 0, none⟩) s.ds.length cd, .int .i64 s.clk] 33) = WA at a0 a1 a2 a3 hb0 hl HC HT ⊢
    have hnu : Nonempty (Under WA) := ⟨⟨WA, Below.refl _ _⟩⟩
    refine wp_region_under (by kernel_rfl) (by kernel_rfl) ?_
    repeat (go_big_quiet_step ((first | (go_at_call 39; exact calls_under _ (HC.out _)) | (go_at_call 40; exact calls_under _ (HT.out _)))))
    refine wpQuiet_nil ?_
    rintro _ ⟨u, rfl⟩
    go_wp2_with fail
    go_ret
    exact ⟨by rw [HRR.out]; rfl, hb0.trans (u.h.mono hb0.size)⟩
  rw [Bool.true_and] at hR
  cases D
  · rw [Bool.false_and] at hR
    have HC : Hid (∀ u : Under _, Calls _ _ _ u.x _) := HC0
    have HT : Hid (∀ u : Under _, Calls _ _ _ u.x _) := HT0
    have HD : Hid (∀ u : Under _, Calls _ _ _ u.x _) := HD0
    have HRR : Hid (R = false) := hR
    clear hR HC0 HT0 HD0 HN0
    go_enter Tryz.func11, Tryz.ntmps11
    go_wp2_with fail
    generalize w.alloc (.cells #[.slice (some ⟨gc, 0, none⟩) s.cs.length cc, .slice (some ⟨gt, 0, none⟩) s.ts.length ct, .slice (some ⟨gd, 0, none⟩) s.ds.length cd, .int .i64 s.clk] 33) = WA at a0 a1 a2 a3 hb0 hl HC HT HD ⊢
    have hnu : Nonempty (Under WA) := ⟨⟨WA, Below.refl _ _⟩⟩
    refine wp_region_under (by kernel_rfl) (by kernel_rfl) ?_
    repeat (go_big_quiet_step ((first | (go_at_call 39; exact calls_under _ (HC.out _)) | (go_at_call 40; exact calls_under _ (HT.out _)) | (go_at_call 41; exact calls_under _ (HD.out _)))))
    refine wpQuiet_nil ?_
    rintro _ ⟨u, rfl⟩
    go_wp2_with fail
    go_ret
    exact ⟨by rw [HRR.out]; rfl, hb0.trans (u.h.mono hb0.size)⟩
  rw [Bool.true_and] at hR
  by_cases s3 : N ≤ s.clk
  · rw [decide_eq_true s3] at hR
    have hds3 : decide (N ≤ s.clk) = true := decide_eq_true s3
    have HC : Hid (∀ u : Under _, Calls _ _ _ u.x _) := HC0
    have HT : Hid (∀ u : Under _, Calls _ _ _ u.x _) := HT0
    have HD : Hid (∀ u : Under _, Calls _ _ _ u.x _) := HD0
    have HN : Hid (∀ u : Under _, Calls _ _ _ u.x _) := HN0
    have HRR : Hid (R = true) := hR
    clear hR HC0 HT0 HD0 HN0
    go_enter Tryz.func11, Tryz.ntmps11
    go_wp2_with fail
    generalize w.alloc (.cells #[.slice (some ⟨gc, 0, none⟩) s.cs.length cc, .slice (some ⟨gt, 0, none⟩) s.ts.length ct, .slice (some ⟨gd, 0, none⟩) s.ds.length cd, .int .i64 s.clk] 33) = WA at a0 a1 a2 a3 hb0 hl HC HT HD HN ⊢
    have hnu : Nonempty (Under WA) := ⟨⟨WA, Below.refl _ _⟩⟩
    refine wp_region_under (by kernel_rfl) (by kernel_rfl) ?_
    repeat (go_big_quiet_step ((first | (go_at_call 39; exact calls_under _ (HC.out _)) | (go_at_call 40; exact calls_under _ (HT.out _)) | (go_at_call 41; exact calls_under _ (HD.out _)) | (go_at_call 42; exact calls_under _ (HN.out _)))))
    refine wpQuiet_nil ?_
    rintro _ ⟨u, rfl⟩
    go_wp2_with fail
    go_ret
    exact ⟨by rw [HRR.out]; rfl, hb0.trans (u.h.mono hb0.size)⟩
  · rw [decide_eq_false s3] at hR
    have hds3 : decide (N ≤ s.clk) = false := decide_eq_false s3
    have HC : Hid (∀ u : Under _, Calls _ _ _ u.x _) := HC0
    have HT : Hid (∀ u : Under _, Calls _ _ _ u.x _) := HT0
    have HD : Hid (∀ u : Under _, Calls _ _ _ u.x _) := HD0
    have HN : Hid (∀ u : Under _, Calls _ _ _ u.x _) := HN0
    have HRR : Hid (R = false) := hR
    clear hR HC0 HT0 HD0 HN0
    go_enter Tryz.func11, Tryz.ntmps11
    go_wp2_with fail
    generalize w.alloc (.cells #[.slice (some ⟨gc, 0, none⟩) s.cs.length cc, .slice (some ⟨gt, 0, none⟩) s.ts.length ct, .slice (some ⟨gd, 0, none⟩) s.ds.length cd, .int .i64 s.clk] 33) = WA at a0 a1 a2 a3 hb0 hl HC HT HD HN ⊢
    have hnu : Nonempty (Under WA) := ⟨⟨WA, Below.refl _ _⟩⟩
    refine wp_region_under (by kernel_rfl) (by kernel_rfl) ?_
    repeat (go_big_quiet_step ((first | (go_at_call 39; exact calls_under _ (HC.out _)) | (go_at_call 40; exact calls_under _ (HT.out _)) | (go_at_call 41; exact calls_under _ (HD.out _)) | (go_at_call 42; exact calls_under _ (HN.out _)))))
    refine wpQuiet_nil ?_
    rintro _ ⟨u, rfl⟩
    go_wp2_with fail
    go_ret
    exact ⟨by rw [HRR.out]; rfl, hb0.trans (u.h.mono hb0.size)⟩

end Go.Proofs.YtpfbepbmiillbaaGreatDoor.Tx

/- Whether a transaction is right: what the specification answers. -/
namespace Go.Proofs.YtpfbepbmiillbaaGreatDoor.Tx
open Go.RowKit Tr Co Rea Ce
set_option linter.unusedVariables false

/-- The box of the argument, through later worlds. -/
structure BxT (w W : World) (x : Tn) (gr gw cr cw : Nat) : Prop where
  bx : BxTn w W (.int .i64 x.sn) (.int .i64 x.sp) (.slice (some ⟨gr, 0, none⟩) x.rs.length cr) (.slice (some ⟨gw, 0, none⟩) x.cs.length cw)
theorem BxT.start (w : World) (x : Tn) (gr gw cr cw : Nat) (T : TypeId) : BxT w (w.alloc (.cells #[.int .i64 x.sn, .int .i64 x.sp, .slice (some ⟨gr, 0, none⟩) x.rs.length cr, .slice (some ⟨gw, 0, none⟩) x.cs.length cw] T)) x gr gw cr cw := ⟨BxTn.start w _ _ _ _ T⟩
theorem BxT.step {w W W' : World} {x : Tn} {gr gw cr cw : Nat} (h : BxT w W x gr gw cr cw) (hb : Below W.heap.size W W') : BxT w W' x gr gw cr cw := ⟨h.bx.step hb⟩
def smallW (x : Tn) : Bool := decide (x.cs.length ≤ 60)
theorem sesB_in (n : Int) : decide (0 ≤ n ∧ n ≤ 3) = sesB n := by
  unfold sesB
  rw [Bool.decide_and]
  congr 1
  by_cases h : n ≤ 3
  · rw [decide_eq_true h, decide_eq_true (by omega)]
  · rw [decide_eq_false h, decide_eq_false (by omega)]
theorem snpB_in (n : Int) : decide (0 ≤ n ∧ n ≤ 10000) = snpB n := by unfold snpB; rw [Bool.decide_and]
set_option maxRecDepth 4000 in
set_option maxHeartbeats 8000000 in
theorem specTxn_any (gr gw cr cw bs : Nat) (x : Tn) (w : World) (h1 : MadeRd w bs gr x.rs) (h2 : ReadWs w gw x.cs) (hz : SzTn x.rs x.cs) :
    Calls Tryz.prog 34 #[.agg #[.int .i64 x.sn, .int .i64 x.sp, .slice (some ⟨gr, 0, none⟩) x.rs.length cr, .slice (some ⟨gw, 0, none⟩) x.cs.length cw]] w fun e w' => e = .returned (.bool (txnB x && smallW x)) ∧ Below w.heap.size w w' := by
  have X0 := BxT.start w x gr gw cr cw 75
  have HR1 : Hid (MadeRd _ _ _ _) := h1
  have HR2 : Hid (ReadWs _ _ _) := h2
  have HZ : Hid (SzTn _ _) := hz
  have HS0 := fun W : World => l01In_any x.sn 0 3 W
  have HP0 := fun W : World => l01In_any x.sp 0 10000 W
  rw [sesB_in] at HS0
  rw [snpB_in] at HP0
  obtain ⟨R, hR⟩ : ∃ R, R = (txnB x && smallW x) := ⟨_, rfl⟩
  rw [← hR]
  have HRR : Hid (R = (sesB x.sn && (snpB x.sp && (decide (x.rs.length ≤ 20) && (x.rs.all okR && wrsB x.cs))) && decide (x.cs.length ≤ 60))) := hR
  obtain ⟨b0, e0⟩ : ∃ b, b = sesB x.sn := ⟨_, rfl⟩
  obtain ⟨b1, e1⟩ : ∃ b, b = snpB x.sp := ⟨_, rfl⟩
  rw [← e0] at HS0
  rw [← e1] at HP0
  have HS : Hid (∀ W : World, Calls _ _ _ W _) := HS0
  have HP : Hid (∀ W : World, Calls _ _ _ W _) := HP0
  have hRb := HRR.out
  rw [← e0, ← e1] at hRb
  obtain ⟨_, kl, k0, k1, k2, k3⟩ := X0.bx
  have kb := X0.bx.bel
  clear h1 h2 hz HS0 HP0 hR HRR e0 e1
  cases b0
  · have HF : Hid (R = false) := by show R = false; rw [hRb]; simp
    clear hRb
    go_enter Tryz.func34, Tryz.ntmps34
    go_wp2_with fail
    refine (HS.out _).mono ?_
    rintro e w1 ⟨rfl, rfl⟩
    go_wp2_with fail
    go_ret
    exact ⟨by rw [HF.out]; rfl, kb⟩
  cases b1
  · have HF : Hid (R = false) := by show R = false; rw [hRb]; simp
    clear hRb
    go_enter Tryz.func34, Tryz.ntmps34
    go_wp2_with fail
    refine (HS.out _).mono ?_
    rintro e w1 ⟨rfl, rfl⟩
    go_wp2_with fail
    refine (HP.out _).mono ?_
    rintro e w2 ⟨rfl, rfl⟩
    go_wp2_with fail
    go_ret
    exact ⟨by rw [HF.out]; rfl, kb⟩
  by_cases s2 : x.rs.length ≤ 20
  case neg =>
    have s2' : (20 : Int) < (x.rs.length : Int) := by omega
    have HF : Hid (R = false) := by show R = false; rw [hRb, decide_eq_false s2]; simp
    clear hRb
    go_enter Tryz.func34, Tryz.ntmps34
    go_wp2_with fail
    refine (HS.out _).mono ?_
    rintro e w1 ⟨rfl, rfl⟩
    go_wp2_with fail
    refine (HP.out _).mono ?_
    rintro e w2 ⟨rfl, rfl⟩
    go_wp2_with fail
    go_ret
    exact ⟨by rw [HF.out]; rfl, kb⟩
  have s2' : ¬ (20 : Int) < (x.rs.length : Int) := by omega
  by_cases s3 : x.cs.length ≤ 60
  case neg =>
    have s3' : (60 : Int) < (x.cs.length : Int) := by omega
    have HF : Hid (R = false) := by show R = false; rw [hRb, decide_eq_false s3]; simp
    clear hRb
    go_enter Tryz.func34, Tryz.ntmps34
    go_wp2_with fail
    refine (HS.out _).mono ?_
    rintro e w1 ⟨rfl, rfl⟩
    go_wp2_with fail
    refine (HP.out _).mono ?_
    rintro e w2 ⟨rfl, rfl⟩
    go_wp2_with fail
    go_ret
    exact ⟨by rw [HF.out]; rfl, kb⟩
  have s3' : ¬ (60 : Int) < (x.cs.length : Int) := by omega
  have HRB : Hid (R = (x.rs.all okR && wrsB x.cs)) := by show R = _; rw [hRb, decide_eq_true s2, decide_eq_true s3]; simp
  clear hRb s2 s3
  go_enter Tryz.func34, Tryz.ntmps34
  go_wp2_with fail
  refine (HS.out _).mono ?_
  rintro e w1 ⟨rfl, rfl⟩
  go_wp2_with fail
  refine (HP.out _).mono ?_
  rintro e w2 ⟨rfl, rfl⟩
  clear HS HP
  go_wp2_with fail
  generalize w.alloc (.cells #[.int .i64 x.sn, .int .i64 x.sp, .slice (some ⟨gr, 0, none⟩) x.rs.length cr, .slice (some ⟨gw, 0, none⟩) x.cs.length cw] 75) = W0 at X0 k0 k1 k2 k3 kl kb ⊢
  clear k0 k1 k2 k3 kl kb s2' s3'
  go_loopw [3] (fun i wr => ∃ k : Nat, k ≤ x.rs.length ∧ i = .int .i64 k ∧ (∀ v ∈ x.rs.take k, okR v = true) ∧ BxT w wr x gr gw cr cw) (fun i _ => x.rs.length - (intOf i).toNat)
  case atStart => exact ⟨0, Nat.zero_le _, rfl, fun v hv => by simp at hv, X0⟩
  case round =>
    obtain ⟨k, hk, rfl, hall, X⟩ := hrel
    have HA : Hid (∀ v ∈ x.rs.take k, okR v = true) := hall
    obtain ⟨hbel, kl, k0, k1, k2, k3⟩ := X.bx
    clear hall X0
    by_cases hlt : k < x.rs.length
    · have hlt2 : (k : Int) < (x.rs.length : Int) := by omega
      have R1 := HR1.out.next hbel
      obtain ⟨y0, gk, y1, yr⟩ := R1.cells k hlt
      have hg := R1.lt
      have hsz := HZ.out.r1 _ (List.getElem_mem hlt)
      have HK0 := fun W (hW : Below wr.heap.size wr W) => specRead_any x.rs[k].coll (some ⟨gk, 0, none⟩) x.rs[k].f.length x.rs[k].f W (.inr ⟨gk, rfl, yr.read.next hW⟩) hsz
      have ho : readB x.rs[k].coll x.rs[k].f = okR x.rs[k] := rfl
      rw [ho] at HK0
      cases hP : okR x.rs[k]
      · rw [hP] at HK0
        have HK : Hid (∀ W : World, Below wr.heap.size wr W → Calls _ _ _ W _) := HK0
        have hal : x.rs.all okR = false := by
          rw [Bool.eq_false_iff]; intro hh
          have := List.all_eq_true.mp hh x.rs[k] (List.getElem_mem _)
          rw [hP] at this; cases this
        have HF : Hid (R = false) := by show R = false; rw [HRB.out, hal, Bool.false_and]
        clear R1 yr hP HK0 hal X hsz ho
        go_wp2_with fail
        refine (HK.out _ (Below.refl _ _)).mono ?_
        rintro e w1 ⟨rfl, hb⟩
        have hb1 := hbel.trans (hb.mono hbel.size)
        clear hb
        go_wp2_with fail
        go_ret
        exact ⟨by rw [HF.out]; rfl, hb1⟩
      · rw [hP] at HK0
        have HK : Hid (∀ W : World, Below wr.heap.size wr W → Calls _ _ _ W _) := HK0
        have HPK : Hid _ := hP
        have HX : Hid (BxT _ _ _ _ _ _ _) := X
        clear R1 yr hP HK0 X hsz ho
        go_wp2_with fail
        refine (HK.out _ (Below.refl _ _)).mono ?_
        rintro e w1 ⟨rfl, hb⟩
        have HX1 : Hid (BxT _ _ _ _ _ _ _) := HX.out.step hb
        clear hb
        go_wp2_with fail
        go_roundw
        case rel =>
          refine ⟨k + 1, by omega, by go_num, ?_, HX1.out⟩
          intro u hu
          rw [List.take_succ_eq_append_getElem hlt] at hu
          rcases List.mem_append.mp hu with h | h
          · exact HA.out u h
          · simp at h; subst h; exact HPK.out
        case measure => simp [intOf]; omega
    · have hlt2 : ¬ (k : Int) < (x.rs.length : Int) := by omega
      have hal : x.rs.all okR = true := List.all_eq_true.mpr (fun u hu => HA.out u (by rw [List.take_of_length_le (by omega)]; exact hu))
      have HRC : Hid (R = riseW (lastW x.cs 0) (x.cs.drop 0)) := by show R = _; rw [HRB.out, hal, Bool.true_and]; rfl
      have X0 := X
      clear hal HRB HA X
      go_wp2_with fail
      clear hbel kl k0 k1 k2 k3
      generalize hWW : wr = W1 at X0 ⊢
      clear hWW
      go_loopw [4] (fun i wr => ∃ k : Nat, k ≤ x.cs.length ∧ i = .int .i64 k ∧ R = riseW (lastW x.cs k) (x.cs.drop k) ∧ BxT w wr x gr gw cr cw) (fun i _ => x.cs.length - (intOf i).toNat)
      case atStart => exact ⟨0, Nat.zero_le _, rfl, HRC.out, X0⟩
      case round =>
        obtain ⟨k, hk, rfl, hrk, X⟩ := hrel
        clear HRC X0
        obtain ⟨hbel, kl, k0, k1, k2, k3⟩ := X.bx
        by_cases hlt : k < x.cs.length
        · have hlt2 : (k : Int) < (x.cs.length : Int) := by omega
          have R1 := HR2.out.next hbel
          obtain ⟨x0, x1, x2, x3, x4, x5⟩ := R1.cells k hlt
          have hg := R1.lt
          have hsz := HZ.out.s1 x.cs[k] (List.getElem_mem _)
          obtain ⟨y, hy⟩ : ∃ y, y = x.cs[k] := ⟨_, rfl⟩
          have HY : Hid (y = x.cs[k]) := hy
          rw [← hy] at x0 x1 x2 x3 x4 x5 hsz
          have HW0 := fun W : World => specWrite_any y W hsz
          have HX : Hid (BxT _ _ _ _ _ _ _) := X
          have u1 : ∀ u : Under wr, u.x.cell? ⟨w.heap.size, 3, none⟩ = some (.slice (some ⟨gw, 0, none⟩) x.cs.length cw) := fun u => (u.h.cell kl).trans k3
          have p0 : ∀ u : Under wr, u.x.cell? ⟨gw, k * 6, none⟩ = some (.string y.coll) := fun u => (u.h.cell hg).trans x0
          have p1 : ∀ u : Under wr, u.x.cell? ⟨gw, k * 6 + 1, none⟩ = some (.int .i64 y.id) := fun u => (u.h.cell hg).trans x1
          have p2 : ∀ u : Under wr, u.x.cell? ⟨gw, k * 6 + 2, none⟩ = some (.bool y.gone) := fun u => (u.h.cell hg).trans x2
          have p3 : ∀ u : Under wr, u.x.cell? ⟨gw, k * 6 + 3, none⟩ = some (.int .i64 y.doc.k) := fun u => (u.h.cell hg).trans x3
          have p4 : ∀ u : Under wr, u.x.cell? ⟨gw, k * 6 + 4, none⟩ = some (.int .i64 y.doc.n) := fun u => (u.h.cell hg).trans x4
          have p5 : ∀ u : Under wr, u.x.cell? ⟨gw, k * 6 + 5, none⟩ = some (.string y.doc.t) := fun u => (u.h.cell hg).trans x5
          have hnu : Nonempty (Under wr) := ⟨⟨wr, Below.refl _ _⟩⟩
          clear hy
          cases hW : writeB y
          · rw [hW] at HW0
            have HW : Hid (∀ W : World, Calls _ _ _ W _) := HW0
            have hF : R = false := by
              rw [hrk]
              rcases Nat.eq_zero_or_pos k with rfl | h0
              · rw [riseW_first x.cs hlt, ← HY.out, hW, Bool.false_and]
              · rw [riseW_step x.cs k h0 hlt, ← HY.out, hW, Bool.false_and]
            have HF : Hid (R = false) := hF
            clear HW0 hW hrk hF R1 X
            go_wp2_with fail
            refine wp_region_under (by kernel_rfl) (by kernel_rfl) ?_
            repeat (go_big_quiet_step ((go_at_call 66; exact calls_under _ (HW.out _))))
            refine wpQuiet_nil ?_
            rintro _ ⟨u, rfl⟩
            go_wp2_with fail
            go_ret
            exact ⟨by rw [HF.out]; rfl, hbel.trans (u.h.mono hbel.size)⟩
          · rw [hW] at HW0
            have HW : Hid (∀ W : World, Calls _ _ _ W _) := HW0
            clear HW0
            rcases Nat.eq_zero_or_pos k with rfl | h0
            · rw [riseW_first x.cs hlt, ← HY.out, hW, Bool.true_and] at hrk
              have HC : Hid (R = _) := hrk
              have hd0 : decide ((0 : Int) < ((0 : Nat) : Int)) = false := by decide
              clear hW hrk R1 X
              go_wp2_with fail
              refine wp_region_under (by kernel_rfl) (by kernel_rfl) ?_
              repeat (go_big_quiet_step ((go_at_call 66; exact calls_under _ (HW.out _))))
              refine wpQuiet_nil ?_
              rintro _ ⟨u, rfl⟩
              go_wp2_with fail
              go_roundw
              case rel => exact ⟨0 + 1, by omega, by go_num, HC.out, HX.out.step u.h⟩
              case measure => simp [intOf]; omega
            · have h0' : (0 : Int) < (k : Int) := by omega
              have hd0 : decide ((0 : Int) < (k : Int)) = true := decide_eq_true h0'
              have hk1 : k - 1 < x.cs.length := by omega
              rw [riseW_step x.cs k h0 hlt, ← HY.out, hW, Bool.true_and] at hrk
              obtain ⟨y0, y1, y2, y3, y4, y5⟩ := R1.cells (k - 1) hk1
              obtain ⟨z, hz⟩ : ∃ z, z = x.cs[k - 1] := ⟨_, rfl⟩
              rw [← hz] at y0 y1 y2 y3 y4 y5 hrk
              have HC0 := fun W : World => l10Less_any z y W
              have HRK : Hid (R = (lessE (ew z) (ew y) && riseW (lastW x.cs (k + 1)) (x.cs.drop (k + 1)))) := hrk
              have q0 : ∀ u : Under wr, u.x.cell? ⟨gw, (k - 1) * 6, none⟩ = some (.string z.coll) := fun u => (u.h.cell hg).trans y0
              have q1 : ∀ u : Under wr, u.x.cell? ⟨gw, (k - 1) * 6 + 1, none⟩ = some (.int .i64 z.id) := fun u => (u.h.cell hg).trans y1
              have q2 : ∀ u : Under wr, u.x.cell? ⟨gw, (k - 1) * 6 + 2, none⟩ = some (.bool z.gone) := fun u => (u.h.cell hg).trans y2
              have q3 : ∀ u : Under wr, u.x.cell? ⟨gw, (k - 1) * 6 + 3, none⟩ = some (.int .i64 z.doc.k) := fun u => (u.h.cell hg).trans y3
              have q4 : ∀ u : Under wr, u.x.cell? ⟨gw, (k - 1) * 6 + 4, none⟩ = some (.int .i64 z.doc.n) := fun u => (u.h.cell hg).trans y4
              have q5 : ∀ u : Under wr, u.x.cell? ⟨gw, (k - 1) * 6 + 5, none⟩ = some (.string z.doc.t) := fun u => (u.h.cell hg).trans y5
              clear hW hz R1 X hrk y0 y1 y2 y3 y4 y5
              cases hL : lessE (ew z) (ew y)
              · rw [hL] at HC0
                have HC : Hid (∀ W : World, Calls _ _ _ W _) := HC0
                have hF : R = false := by rw [HRK.out, hL, Bool.false_and]
                have HF : Hid (R = false) := hF
                clear hL HRK hF HC0
                go_wp2_with fail
                refine wp_region_under (by kernel_rfl) (by kernel_rfl) ?_
                repeat (go_big_quiet_step ((first | (go_at_call 66; exact calls_under _ (HW.out _)) | (go_at_call 67; exact calls_under _ (HC.out _)))))
                refine wpQuiet_nil ?_
                rintro _ ⟨u, rfl⟩
                go_wp2_with fail
                go_ret
                exact ⟨by rw [HF.out]; rfl, hbel.trans (u.h.mono hbel.size)⟩
              · rw [hL] at HC0
                have HC : Hid (∀ W : World, Calls _ _ _ W _) := HC0
                have hN : R = riseW (lastW x.cs (k + 1)) (x.cs.drop (k + 1)) := by rw [HRK.out, hL, Bool.true_and]
                have HN : Hid (R = _) := hN
                clear hL HRK hN HC0
                go_wp2_with fail
                refine wp_region_under (by kernel_rfl) (by kernel_rfl) ?_
                repeat (go_big_quiet_step ((first | (go_at_call 66; exact calls_under _ (HW.out _)) | (go_at_call 67; exact calls_under _ (HC.out _)))))
                refine wpQuiet_nil ?_
                rintro _ ⟨u, rfl⟩
                go_wp2_with fail
                go_roundw
                case rel => exact ⟨k + 1, by omega, by go_num, HN.out, HX.out.step u.h⟩
                case measure => simp [intOf]; omega
        · have hlt2 : ¬ (k : Int) < (x.cs.length : Int) := by omega
          have hT : R = true := by rw [hrk, List.drop_of_length_le (by omega), riseW_nil]
          have HT : Hid (R = true) := hT
          clear hrk hT X
          go_wp2_with fail
          go_ret
          exact ⟨by rw [HT.out]; rfl, hbel⟩

end Go.Proofs.YtpfbepbmiillbaaGreatDoor.Tx
