/- What the specification's trial of a document by a term answers. -/
import Derived.Test.YtdchhjnmhnehiaaGreatDoorTermS
import Derived.Test.YtdchhjnmhnehiaaGreatDoorCutS
import Derived.Test.YtdchhjnmhnehiaaGreatDoorGetU
import Derived.Deep.RegionWith
namespace Go.Proofs.YtdchhjnmhnehiaaGreatDoor
open Go.RowKit
set_option linter.unusedVariables false

theorem lets_exists (c : Val) (L : List Val) : letsT 8 c L = (decide (0 < (L.length : Int)) == (c.n == 1)) := by
  unfold letsT; rw [if_pos rfl]; congr 1
theorem op_two (op : Int) : (op == 2) = decide (op = 2) := by rw [Bool.eq_iff_iff]; simp

set_option maxRecDepth 4000 in
set_option maxHeartbeats 1000000 in
theorem l02Values_any (v : Val) (p : ByteArray) (w : World) (hv : okB v = true) (hp : p.size ≤ 300) :
    Calls Tryz.prog 98 #[.agg #[.int .i64 v.k, .int .i64 v.n, .string v.t], .string p] w fun e w' => OutV (getP (pieces p) v) w' e ∧ Below w.heap.size w w' := by
  have X0 := Boxed.start w (.int .i64 v.k) (.int .i64 v.n) (.string v.t) 38
  have hs := ok_size v hv
  have hpl := pieces_len_le p
  have HV : Hid (okB v = true) := hv
  clear hv
  go_enter Tryz.func98, Tryz.ntmps98
  go_wp2_with fail
  go_region_with (first | (go_at_call 56; refine (l00CutC_any p _ (by omega)).mono ?_; rintro e w1 ⟨⟨g, cap, rfl, hcap, R⟩, hb⟩; have X1 := (X0.step (Below.refl _ _).drew).step hb; have HR : Hid (ReadS _ _ _ _) := R; have a0 := X1.c0; have a1 := X1.c1; have a2 := X1.c2; clear R hb) | (go_at_call 125; refine (get_at (pieces p) (by omega) 5 v g 0 cap _ HV.out hs hcap HR.out).mono ?_; rintro e w2 ⟨⟨g2, cap2, rfl, R2⟩, hb2⟩; have hbw := (X1.step hb2).bel; have HR2 : Hid (ReadV _ _ _) := R2; clear R2 hb2))
  all_goals
    go_wp2_with fail
    go_ret
    exact ⟨OutV.mk g2 cap2 rfl HR2.out, hbw⟩

set_option maxRecDepth 8000 in
set_option maxHeartbeats 4000000 in
theorem l03Term_any (op : Int) (p : ByteArray) (c doc : Val) (w : World) (hp : p.size ≤ 300) (hop : 1 ≤ op ∧ op ≤ 10) (h7 : op = 7 → c.k = 4) (hc : okB c = true) (hd : okB doc = true) :
    Calls Tryz.prog 90 #[.agg #[.int .i64 op, .string p, .int .i64 c.k, .int .i64 c.n, .string c.t], .agg #[.int .i64 doc.k, .int .i64 doc.n, .string doc.t]] w fun e w' => e = .returned (.bool (termL op p c doc)) ∧ Below w.heap.size w w' := by
  have X0 := B53.start w (.int .i64 op) (.string p) (.int .i64 c.k) (.int .i64 c.n) (.string c.t) (.int .i64 doc.k) (.int .i64 doc.n) (.string doc.t) 85 38
  have hgl := getP_len (pieces p) doc
  have hsd := ok_size doc hd
  have hLO := getP_ok (pieces p) doc hd
  have HV0 : Hid (∀ W : World, Calls _ _ _ W _) := fun W => l02Values_any doc p W hd hp
  unfold termL
  obtain ⟨L, hL⟩ : ∃ L, L = getP (pieces p) doc := ⟨_, rfl⟩
  rw [← hL] at hgl hLO HV0 ⊢
  obtain ⟨RR, hRR⟩ : ∃ RR, RR = letsT op c L := ⟨_, rfl⟩
  rw [← hRR]
  have HRR : Hid _ := hRR
  clear hRR
  have HC : Hid (okB c = true) := hc
  have H7 : Hid _ := h7
  have HLO : Hid _ := hLO
  clear hc hd hL h7 hLO
  go_enter Tryz.func90, Tryz.ntmps90
  go_wp2_with fail
  refine (HV0.out _).mono ?_
  rintro e w1 ⟨⟨g1, cap1, rfl, R1⟩, hb⟩
  have X1 := X0.step hb
  have a0 := X1.c0
  have a3 := X1.c3
  have hbw1 := X1.bel
  have HR1 : Hid (ReadV _ _ _) := R1
  clear hb X0 R1
  by_cases h8 : op = 8
  · subst h8
    go_wp2_with fail
    go_ret
    exact ⟨ret_bool (by rw [HRR.out, lets_exists]; simp), hbw1⟩
  have e8 : (op == 8) = false := beq_eq_false_iff_ne.mpr h8
  have hRo : RR = ((heldT op L).any (oneT op c) != decide (op = 2)) := by rw [HRR.out]; unfold letsT; rw [if_neg h8]
  clear HRR
  obtain ⟨M, hM⟩ : ∃ M, M = heldT op L := ⟨_, rfl⟩
  have hMO := heldT_ok op L HLO.out
  rw [← hM] at hMO hRo
  have HMO : Hid _ := hMO
  have HR : Hid _ := hRo
  have HOP : Hid (1 ≤ op ∧ op ≤ 10 ∧ op ≠ 8) := ⟨hop.1, hop.2, h8⟩
  unfold heldT at hM
  clear hRo hMO h8 hop
  by_cases hB : L = [] ∧ op ≠ 9
  · rw [if_pos hB.1, if_neg hB.2] at hM
    have hl0 : ((L.length : Int) == 0) = true := by rw [hB.1]; rfl
    have e9 : (op == 9) = false := beq_eq_false_iff_ne.mpr hB.2
    have e9' : (op != 9) = true := by simp [hB.2]
    have hMl : M.length = 1 := by rw [hM]; rfl
    have hRZ : ReadV (w1.alloc (.cells #[.int .i64 0, .int .i64 0, .string em] 38)) w1.heap.size M := by
      rw [hM]; exact ReadV.of_own (l := [⟨0, 0, em⟩]) (owns_one w1 ⟨0, 0, em⟩ (base := w1.heap.size) (Nat.le_refl _))
    have XM := X1.step ((Below.refl _ _).alloc (Nat.le_refl _) (.cells #[.int .i64 0, .int .i64 0, .string em] 38))
    have HRM : Hid (ReadV _ _ _) := hRZ
    clear HR1 hM hB hRZ X1
    go_wp2_with fail
    obtain ⟨gM, hgM⟩ : ∃ gM, gM = w1.heap.size := ⟨_, rfl⟩
    rw [← hgM] at HRM ⊢
    clear hgM
    generalize w1.alloc (.cells #[.int .i64 0, .int .i64 0, .string em] 38) = Wm at XM HRM ⊢
    go_loopw [6, 7] (fun s i wr => ∃ k : Nat, k ≤ 1 ∧ i = .int .i64 k ∧ s = .bool ((M.take k).any (oneT op c)) ∧ Below Wm.heap.size Wm wr) (fun _ i _ => 1 - (intOf i).toNat)
    case atStart => exact ⟨0, Nat.zero_le _, rfl, by simp, Below.refl _ _⟩
    case round =>
      obtain ⟨k, hk, rfl, rfl, hbel⟩ := hrel
      have Y := XM.step hbel
      have hlY : w.heap.size < wr.heap.size := Nat.lt_of_succ_lt Y.lt
      by_cases hlt : k < M.length
      · obtain rfl : k = 0 := by omega
        have RR := HRM.out.next hbel
        obtain ⟨x0, x1, x2⟩ := RR.cells 0 hlt
        simp only [Nat.zero_mul, Nat.zero_add] at x0 x1 x2
        have hgr := RR.lt
        have hlt2 : ((0 : Nat) : Int) < ((1 : Nat) : Int) := by omega
        have q0 : ∀ u : Under wr, u.x.cell? ⟨w.heap.size, 0, none⟩ = some (.int .i64 op) := fun u => (u.h.cell hlY).trans Y.c0
        have q1 : ∀ u : Under wr, u.x.cell? ⟨w.heap.size, 1, none⟩ = some (.string p) := fun u => (u.h.cell hlY).trans Y.c1
        have q2 : ∀ u : Under wr, u.x.cell? ⟨w.heap.size, 2, none⟩ = some (.int .i64 c.k) := fun u => (u.h.cell hlY).trans Y.c2
        have q3 : ∀ u : Under wr, u.x.cell? ⟨w.heap.size, 3, none⟩ = some (.int .i64 c.n) := fun u => (u.h.cell hlY).trans Y.c3
        have q4 : ∀ u : Under wr, u.x.cell? ⟨w.heap.size, 4, none⟩ = some (.string c.t) := fun u => (u.h.cell hlY).trans Y.c4
        have y0 : ∀ u : Under wr, u.x.cell? ⟨gM, 0, none⟩ = some (.int .i64 M[0].k) := fun u => (u.h.cell hgr).trans x0
        have y1 : ∀ u : Under wr, u.x.cell? ⟨gM, 1, none⟩ = some (.int .i64 M[0].n) := fun u => (u.h.cell hgr).trans x1
        have y2 : ∀ u : Under wr, u.x.cell? ⟨gM, 2, none⟩ = some (.string M[0].t) := fun u => (u.h.cell hgr).trans x2
        have hnu : Nonempty (Under wr) := ⟨⟨wr, Below.refl _ _⟩⟩
        have HC1 : Hid (∀ W : World, Calls _ _ _ W _) := fun W => l03One_any op p c M[0] W HOP.out H7.out HC.out (HMO.out M[0] (List.getElem_mem _))
        have hsucc : (M.take (0 + 1)).any (oneT op c) = ((M.take 0).any (oneT op c) || oneT op c M[0]) := by rw [List.take_succ_eq_append_getElem hlt, List.any_append]; simp
        obtain ⟨S, hS⟩ : ∃ S, S = (M.take 0).any (oneT op c) := ⟨_, rfl⟩
        obtain ⟨O, hO⟩ : ∃ O, O = oneT op c M[0] := ⟨_, rfl⟩
        rw [← hS, ← hO] at hsucc
        rw [← hS]
        rw [← hO] at HC1
        have HSU : Hid _ := hsucc
        clear hsucc hS hO RR x0 x1 x2
        cases S
        · go_wp2_with fail
          refine wp_region_under (by kernel_rfl) (by kernel_rfl) ?_
          repeat (go_big_quiet_step ((go_at_call 114; exact calls_under _ (HC1.out _))))
          refine wpQuiet_nil ?_
          rintro _ ⟨u, rfl⟩
          have hbu := hbel.trans (u.h.mono hbel.size)
          clear q0 q1 q2 q3 q4 y0 y1 y2 hnu
          go_wp2_with fail
          go_roundw
          case rel => exact ⟨0 + 1, by omega, by go_num, by rw [HSU.out]; simp, hbu⟩
          case measure => simp [intOf] <;> omega
        · go_wp2_with fail
          refine wp_region_under (by kernel_rfl) (by kernel_rfl) ?_
          repeat (go_big_quiet_step (fail))
          refine wpQuiet_nil ?_
          rintro _ ⟨u, rfl⟩
          have hbu := hbel.trans (u.h.mono hbel.size)
          clear q0 q1 q2 q3 q4 y0 y1 y2 hnu
          go_wp2_with fail
          go_roundw
          case rel => exact ⟨0 + 1, by omega, by go_num, by rw [HSU.out]; simp, hbu⟩
          case measure => simp [intOf] <;> omega
      · have hlt2 : ¬ (k : Int) < ((1 : Nat) : Int) := by omega
        have z0 := Y.c0
        have hbw := Y.bel
        have e : M.take k = M := List.take_of_length_le (by omega)
        rw [e]
        obtain ⟨S, hS⟩ : ∃ S, S = M.any (oneT op c) := ⟨_, rfl⟩
        rw [← hS]
        have hRo := HR.out
        rw [← hS] at hRo
        have HRO : Hid _ := hRo
        clear hRo HR hS Y
        go_wp2_with fail
        go_ret
        exact ⟨ret_bool (by rw [HRO.out, ← op_two]; generalize (op == 2) = b; cases S <;> cases b <;> rfl), hbw⟩
  · have hM' : M = L := by
      rw [hM]
      by_cases hL0 : L = []
      · rw [if_pos hL0, if_pos (by rcases Decidable.em (op = 9) with h | h; exact h; exact absurd ⟨hL0, h⟩ hB), hL0]
      · rw [if_neg hL0]
    clear hM
    subst hM'
    have HRM : Hid (ReadV _ _ _) := HR1.out
    obtain ⟨Wm, hWm⟩ : ∃ Wm, Wm = w1 := ⟨_, rfl⟩
    subst hWm
    obtain ⟨gM, hgM⟩ : ∃ gM, gM = g1 := ⟨_, rfl⟩
    subst hgM
    have XM := X1
    clear HR1 X1
    by_cases hL0 : M = []
    · have e9 : (op == 9) = true := by rcases Decidable.em (op = 9) with h | h; simp [h]; exact absurd ⟨hL0, h⟩ hB
      have e9' : (op != 9) = false := by rcases Decidable.em (op = 9) with h | h; simp [h]; exact absurd ⟨hL0, h⟩ hB
      have hl0 : ((M.length : Int) == 0) = true := by rw [hL0]; rfl
      clear hB hL0
      go_wp2_with fail
      go_loopw [6, 7] (fun s i wr => ∃ k : Nat, k ≤ M.length ∧ i = .int .i64 k ∧ s = .bool ((M.take k).any (oneT op c)) ∧ Below Wm.heap.size Wm wr) (fun _ i _ => M.length - (intOf i).toNat)
      case atStart => exact ⟨0, Nat.zero_le _, rfl, by simp, Below.refl _ _⟩
      case round =>
        obtain ⟨k, hk, rfl, rfl, hbel⟩ := hrel
        have Y := XM.step hbel
        have hlY : w.heap.size < wr.heap.size := Nat.lt_of_succ_lt Y.lt
        by_cases hlt : k < M.length
        · have RR := HRM.out.next hbel
          obtain ⟨x0, x1, x2⟩ := RR.cells k hlt
          have hgr := RR.lt
          have hlt2 : (k : Int) < ((M.length : Nat) : Int) := by omega
          have q0 : ∀ u : Under wr, u.x.cell? ⟨w.heap.size, 0, none⟩ = some (.int .i64 op) := fun u => (u.h.cell hlY).trans Y.c0
          have q1 : ∀ u : Under wr, u.x.cell? ⟨w.heap.size, 1, none⟩ = some (.string p) := fun u => (u.h.cell hlY).trans Y.c1
          have q2 : ∀ u : Under wr, u.x.cell? ⟨w.heap.size, 2, none⟩ = some (.int .i64 c.k) := fun u => (u.h.cell hlY).trans Y.c2
          have q3 : ∀ u : Under wr, u.x.cell? ⟨w.heap.size, 3, none⟩ = some (.int .i64 c.n) := fun u => (u.h.cell hlY).trans Y.c3
          have q4 : ∀ u : Under wr, u.x.cell? ⟨w.heap.size, 4, none⟩ = some (.string c.t) := fun u => (u.h.cell hlY).trans Y.c4
          have y0 : ∀ u : Under wr, u.x.cell? ⟨gM, k * 3, none⟩ = some (.int .i64 M[k].k) := fun u => (u.h.cell hgr).trans x0
          have y1 : ∀ u : Under wr, u.x.cell? ⟨gM, k * 3 + 1, none⟩ = some (.int .i64 M[k].n) := fun u => (u.h.cell hgr).trans x1
          have y2 : ∀ u : Under wr, u.x.cell? ⟨gM, k * 3 + 2, none⟩ = some (.string M[k].t) := fun u => (u.h.cell hgr).trans x2
          have hnu : Nonempty (Under wr) := ⟨⟨wr, Below.refl _ _⟩⟩
          have HC1 : Hid (∀ W : World, Calls _ _ _ W _) := fun W => l03One_any op p c M[k] W HOP.out H7.out HC.out (HMO.out M[k] (List.getElem_mem _))
          have hsucc : (M.take (k + 1)).any (oneT op c) = ((M.take k).any (oneT op c) || oneT op c M[k]) := by rw [List.take_succ_eq_append_getElem hlt, List.any_append]; simp
          obtain ⟨S, hS⟩ : ∃ S, S = (M.take k).any (oneT op c) := ⟨_, rfl⟩
          obtain ⟨O, hO⟩ : ∃ O, O = oneT op c M[k] := ⟨_, rfl⟩
          rw [← hS, ← hO] at hsucc
          rw [← hS]
          rw [← hO] at HC1
          have HSU : Hid _ := hsucc
          clear hsucc hS hO RR x0 x1 x2
          cases S
          · go_wp2_with fail
            refine wp_region_under (by kernel_rfl) (by kernel_rfl) ?_
            repeat (go_big_quiet_step ((go_at_call 114; exact calls_under _ (HC1.out _))))
            refine wpQuiet_nil ?_
            rintro _ ⟨u, rfl⟩
            have hbu := hbel.trans (u.h.mono hbel.size)
            clear q0 q1 q2 q3 q4 y0 y1 y2 hnu
            go_wp2_with fail
            go_roundw
            case rel => exact ⟨k + 1, by omega, by go_num, by rw [HSU.out]; simp, hbu⟩
            case measure => simp [intOf] <;> omega
          · go_wp2_with fail
            refine wp_region_under (by kernel_rfl) (by kernel_rfl) ?_
            repeat (go_big_quiet_step (fail))
            refine wpQuiet_nil ?_
            rintro _ ⟨u, rfl⟩
            have hbu := hbel.trans (u.h.mono hbel.size)
            clear q0 q1 q2 q3 q4 y0 y1 y2 hnu
            go_wp2_with fail
            go_roundw
            case rel => exact ⟨k + 1, by omega, by go_num, by rw [HSU.out]; simp, hbu⟩
            case measure => simp [intOf] <;> omega
        · have hlt2 : ¬ (k : Int) < ((M.length : Nat) : Int) := by omega
          have z0 := Y.c0
          have hbw := Y.bel
          have e : M.take k = M := List.take_of_length_le (by omega)
          rw [e]
          obtain ⟨S, hS⟩ : ∃ S, S = M.any (oneT op c) := ⟨_, rfl⟩
          rw [← hS]
          have hRo := HR.out
          rw [← hS] at hRo
          have HRO : Hid _ := hRo
          clear hRo HR hS Y
          go_wp2_with fail
          go_ret
          exact ⟨ret_bool (by rw [HRO.out, ← op_two]; generalize (op == 2) = b; cases S <;> cases b <;> rfl), hbw⟩
    · have hl0 : ((M.length : Int) == 0) = false := beq_eq_false_iff_ne.mpr (fun e => hL0 (List.eq_nil_of_length_eq_zero (by omega)))
      clear hB hL0
      go_wp2_with fail
      go_loopw [6, 7] (fun s i wr => ∃ k : Nat, k ≤ M.length ∧ i = .int .i64 k ∧ s = .bool ((M.take k).any (oneT op c)) ∧ Below Wm.heap.size Wm wr) (fun _ i _ => M.length - (intOf i).toNat)
      case atStart => exact ⟨0, Nat.zero_le _, rfl, by simp, Below.refl _ _⟩
      case round =>
        obtain ⟨k, hk, rfl, rfl, hbel⟩ := hrel
        have Y := XM.step hbel
        have hlY : w.heap.size < wr.heap.size := Nat.lt_of_succ_lt Y.lt
        by_cases hlt : k < M.length
        · have RR := HRM.out.next hbel
          obtain ⟨x0, x1, x2⟩ := RR.cells k hlt
          have hgr := RR.lt
          have hlt2 : (k : Int) < ((M.length : Nat) : Int) := by omega
          have q0 : ∀ u : Under wr, u.x.cell? ⟨w.heap.size, 0, none⟩ = some (.int .i64 op) := fun u => (u.h.cell hlY).trans Y.c0
          have q1 : ∀ u : Under wr, u.x.cell? ⟨w.heap.size, 1, none⟩ = some (.string p) := fun u => (u.h.cell hlY).trans Y.c1
          have q2 : ∀ u : Under wr, u.x.cell? ⟨w.heap.size, 2, none⟩ = some (.int .i64 c.k) := fun u => (u.h.cell hlY).trans Y.c2
          have q3 : ∀ u : Under wr, u.x.cell? ⟨w.heap.size, 3, none⟩ = some (.int .i64 c.n) := fun u => (u.h.cell hlY).trans Y.c3
          have q4 : ∀ u : Under wr, u.x.cell? ⟨w.heap.size, 4, none⟩ = some (.string c.t) := fun u => (u.h.cell hlY).trans Y.c4
          have y0 : ∀ u : Under wr, u.x.cell? ⟨gM, k * 3, none⟩ = some (.int .i64 M[k].k) := fun u => (u.h.cell hgr).trans x0
          have y1 : ∀ u : Under wr, u.x.cell? ⟨gM, k * 3 + 1, none⟩ = some (.int .i64 M[k].n) := fun u => (u.h.cell hgr).trans x1
          have y2 : ∀ u : Under wr, u.x.cell? ⟨gM, k * 3 + 2, none⟩ = some (.string M[k].t) := fun u => (u.h.cell hgr).trans x2
          have hnu : Nonempty (Under wr) := ⟨⟨wr, Below.refl _ _⟩⟩
          have HC1 : Hid (∀ W : World, Calls _ _ _ W _) := fun W => l03One_any op p c M[k] W HOP.out H7.out HC.out (HMO.out M[k] (List.getElem_mem _))
          have hsucc : (M.take (k + 1)).any (oneT op c) = ((M.take k).any (oneT op c) || oneT op c M[k]) := by rw [List.take_succ_eq_append_getElem hlt, List.any_append]; simp
          obtain ⟨S, hS⟩ : ∃ S, S = (M.take k).any (oneT op c) := ⟨_, rfl⟩
          obtain ⟨O, hO⟩ : ∃ O, O = oneT op c M[k] := ⟨_, rfl⟩
          rw [← hS, ← hO] at hsucc
          rw [← hS]
          rw [← hO] at HC1
          have HSU : Hid _ := hsucc
          clear hsucc hS hO RR x0 x1 x2
          cases S
          · go_wp2_with fail
            refine wp_region_under (by kernel_rfl) (by kernel_rfl) ?_
            repeat (go_big_quiet_step ((go_at_call 114; exact calls_under _ (HC1.out _))))
            refine wpQuiet_nil ?_
            rintro _ ⟨u, rfl⟩
            have hbu := hbel.trans (u.h.mono hbel.size)
            clear q0 q1 q2 q3 q4 y0 y1 y2 hnu
            go_wp2_with fail
            go_roundw
            case rel => exact ⟨k + 1, by omega, by go_num, by rw [HSU.out]; simp, hbu⟩
            case measure => simp [intOf] <;> omega
          · go_wp2_with fail
            refine wp_region_under (by kernel_rfl) (by kernel_rfl) ?_
            repeat (go_big_quiet_step (fail))
            refine wpQuiet_nil ?_
            rintro _ ⟨u, rfl⟩
            have hbu := hbel.trans (u.h.mono hbel.size)
            clear q0 q1 q2 q3 q4 y0 y1 y2 hnu
            go_wp2_with fail
            go_roundw
            case rel => exact ⟨k + 1, by omega, by go_num, by rw [HSU.out]; simp, hbu⟩
            case measure => simp [intOf] <;> omega
        · have hlt2 : ¬ (k : Int) < ((M.length : Nat) : Int) := by omega
          have z0 := Y.c0
          have hbw := Y.bel
          have e : M.take k = M := List.take_of_length_le (by omega)
          rw [e]
          obtain ⟨S, hS⟩ : ∃ S, S = M.any (oneT op c) := ⟨_, rfl⟩
          rw [← hS]
          have hRo := HR.out
          rw [← hS] at hRo
          have HRO : Hid _ := hRo
          clear hRo HR hS Y
          go_wp2_with fail
          go_ret
          exact ⟨ret_bool (by rw [HRO.out, ← op_two]; generalize (op == 2) = b; cases S <;> cases b <;> rfl), hbw⟩

end Go.Proofs.YtdchhjnmhnehiaaGreatDoor
