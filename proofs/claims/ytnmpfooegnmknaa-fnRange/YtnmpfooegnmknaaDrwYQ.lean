/- The walk of the law of ranges. -/
import Derived.Test.YtnmpfooegnmknaaTrDQ
namespace Go.Proofs.Ytnmpfooegnmknaa.TreeRLaw
open Go.RowKit
open Tr
set_option linter.unusedVariables false

set_option maxRecDepth 8000 in
set_option maxHeartbeats 16000000 in
theorem walk (x0 : Option Addr) (cap0 : Nat) (z0 : List Int) (hm0 : z0.length ≤ maxLen) (hb0 : ∀ i, i < z0.length → 0 ≤ z0.getD i 0 ∧ z0.getD i 0 < 256) (x1 : Option Addr) (cap1 : Nat) (z1 : List Int) (hm1 : z1.length ≤ maxLen) (hb1 : ∀ i, i < z1.length → 0 ≤ z1.getD i 0 ∧ z1.getD i 0 < 256) (w : World) (i0 : InB w x0 z0) (i1 : InB w x1 z1) :
    Calls Try.prog 5 #[.slice x0 z0.length cap0, .slice x1 z1.length cap1] w fun e w' => e = .returned (.bool true) ∧ Below w.heap.size w w' := by
  by_cases h0 : 1048576 < z0.length
  · have a0 : (1048576 : Int) < (z0.length : Int) := by omega
    clear hb0 hb1 hm0 hm1 i0 i1
    go_enter Try.func5, Try.ntmps5
    go_wp2_with fail
    go_ret
    exact ⟨rfl, Below.refl _ _⟩
  by_cases h1 : 1048576 < z1.length
  · have a0 : ¬ (1048576 : Int) < (z0.length : Int) := by omega
    have a1 : (1048576 : Int) < (z1.length : Int) := by omega
    clear hb0 hb1 hm0 hm1 i0 i1
    go_enter Try.func5, Try.ntmps5
    go_wp2_with fail
    go_ret
    exact ⟨rfl, Below.refl _ _⟩
  have a0 : ¬ (1048576 : Int) < (z0.length : Int) := by omega
  have a1 : ¬ (1048576 : Int) < (z1.length : Int) := by omega
  have HC0 : Hid (InC w x0 z0) := ⟨i0, hb0, by omega⟩
  have HC1 : Hid (InC w x1 z1) := ⟨i1, hb1, by omega⟩
  have HLZ : Hid (z1.length ≤ 1048576) := by show z1.length ≤ 1048576; omega
  clear hb0 hb1 hm0 hm1 i0 i1 h0 h1
  go_enter Try.func5, Try.ntmps5
  go_wp2_with fail
  refine (drawnTree_any x0 cap0 z0 w HC0.out).mono ?_
  rintro e' w1 ⟨⟨v, f, next, rfl, hO, hT, hl, hn, hA⟩, hb⟩
  obtain ⟨g, cap, rfl, hcap, hF⟩ := hO.room (tree_pos hT)
  have HT : Hid (treeB f next = true) := hT
  have HSZ : Hid (∀ l ∈ f, szP l) := full_szP hT
  have HLE : Hid (f.length ≤ 1048576) := tree_le hT
  have HCAP : Hid (f.length ≤ cap) := hcap
  have HA : Hid (∀ e ∈ allE f, EntD e) := hA
  have hbA : Below w1.heap.size w1 (w1.alloc (.cells #[.slice (some ⟨g, 0, none⟩) f.length cap, .int .i64 next] 37)) := (Below.refl _ _).alloc (Nat.le_refl _) _
  have FT : Hid (FullP _ _ _) := hF.next hbA
  have BT : Hid (B2 _ _ _ _) := B2.new w1 (.slice (some ⟨g, 0, none⟩) f.length cap) (.int .i64 next) 37
  have BW : Hid (Below w.heap.size w _) := hb.trans (hbA.mono hb.size)
  clear hb hbA hO hT hA hl hn hF hcap HC0
  go_wp2_with fail
  obtain ⟨bt, hbt⟩ : ∃ b, b = w1.heap.size := ⟨_, rfl⟩
  rw [← hbt] at BT ⊢
  generalize w1.alloc (.cells #[.slice (some ⟨g, 0, none⟩) f.length cap, .int .i64 next] 37) = W1 at FT BT BW ⊢
  clear hbt
  refine (drawnEntry_any x1 cap1 z1 _ (HC1.out.step BW.out)).mono ?_
  rintro e' w2 ⟨⟨e1, rfl, hE1⟩, hb⟩
  obtain ⟨lo, hlo⟩ : ∃ k, k = e1.key := ⟨_, rfl⟩
  rw [← hlo]
  have hbA : Below W1.heap.size W1 (w2.alloc (.cells #[.int .u8 4] 5)) := hb.alloc hb.size _
  have HC4 : Hid ((w2.alloc (.cells #[.int .u8 4] 5)).cell? ⟨w2.heap.size, 0, none⟩ = some (.int .u8 4)) := by
    show (w2.alloc (.cells #[.int .u8 4] 5)).cell? ⟨w2.heap.size, 0, none⟩ = some (.int .u8 4)
    simp [go_sem]
  have HL4 : Hid (w2.heap.size < (w2.alloc (.cells #[.int .u8 4] 5)).heap.size) := by
    show w2.heap.size < (w2.alloc (.cells #[.int .u8 4] 5)).heap.size
    simp
  have nFT : Hid (FullP _ _ _) := FT.out.next hbA
  have nBT : Hid (B2 _ _ _ _) := BT.out.next hbA
  have nBW : Hid (Below w.heap.size w _) := BW.out.trans (hbA.mono BW.out.size)
  have HIC : Hid (InC _ _ _) := HC1.out.step nBW.out
  clear FT BT BW hb hbA hE1 hlo
  have FT := nFT
  have BT := nBT
  have BW := nBW
  clear nFT nBT nBW
  have hfd : ∀ W : World, (Instr.field 40 (.agg #[.string lo, .int .i64 e1.id]) 0).run Try.prog W = .ok (.string lo) W := fun _ => by kernel_rfl
  go_wp2_with (refine wpList_app_bytes rfl (.tmp 35) (.tmp 36) rfl w2.heap.size x1 cap1 z1 rfl rfl HC4.out HL4.out HIC.out HLZ.out ?_; intro ga ca wa nz hnz hIa hBa; have HNZ : Hid (nz = _) := hnz; have HIA : Hid (InC _ _ _) := hIa; have HBA : Hid (Below _ _ _) := hBa; clear hnz hIa hBa)
  rw [HNZ.out]
  clear hfd HC4 HL4
  generalize w2.alloc (.cells #[.int .u8 4] 5) = W2 at FT BT BW HIC HBA
  refine (drawnEntry_any (some ⟨ga, 0, none⟩) ca (4 :: z1) _ HIA.out).mono ?_
  rintro e' w3 ⟨⟨e2, rfl, hE2⟩, hb⟩
  obtain ⟨hi, hhi⟩ : ∃ k, k = e2.key := ⟨_, rfl⟩
  rw [← hhi]
  have hfd : ∀ W : World, (Instr.field 40 (.agg #[.string hi, .int .i64 e2.id]) 0).run Try.prog W = .ok (.string hi) W := fun _ => by kernel_rfl
  have hbA : Below W2.heap.size W2 w3 := HBA.out.trans (hb.mono HBA.out.size)
  have nFT : Hid (FullP _ _ _) := FT.out.next hbA
  have nBT : Hid (B2 _ _ _ _) := BT.out.next hbA
  have nBW : Hid (Below w.heap.size w _) := BW.out.trans (hbA.mono BW.out.size)
  have nHIC : Hid (InC _ _ _) := HIC.out.step hbA
  clear FT BT BW HIC HIA HBA hb hbA hE2 hhi
  have FT := nFT
  have BT := nBT
  have BW := nBW
  have HIC := nHIC
  clear nFT nBT nBW nHIC
  go_wp2_with fail
  clear hfd
  refine (codeAt_any x1 cap1 z1 3 _ HIC.out (by omega) (by omega)).mono ?_
  rintro e' w4 ⟨⟨r, rfl, hr⟩, hb⟩
  obtain ⟨op, hop⟩ : ∃ b : Bool, b = ((r : Int) == 0) := ⟨_, rfl⟩
  have hop1 : ((r : Int) == 0) = op := hop.symm
  have hop2 : decide ((r : Int) = 0) = op := by rw [hop]; rfl
  have hop3 : decide (r = 0) = op := by rw [← hop2]; exact decide_eq_decide.2 (by omega)
  have hA4 : Below w3.heap.size w3 (w4.alloc (.cells #[.string lo, .string hi, .bool op] 52)) := hb.alloc hb.size _
  have nFT : Hid (FullP _ _ _) := FT.out.next hA4
  have nBT : Hid (B2 _ _ _ _) := BT.out.next hA4
  have nBW : Hid (Below w.heap.size w _) := BW.out.trans (hA4.mono BW.out.size)
  have BI : Hid (B3 _ _ _) := B3.new w4 ⟨lo, hi, op⟩ 52
  clear FT BT BW HIC hb hA4 HC1 HLZ hop
  have FT := nFT
  have BT := nBT
  have BW := nBW
  clear nFT nBT nBW
  have u0 := BT.out.c0
  have v0 := BT.out.c1
  go_wp2_with fail
  clear hop1 hop2 hop3 u0 v0
  obtain ⟨bi, hbi⟩ : ∃ b, b = w4.heap.size := ⟨_, rfl⟩
  rw [← hbi] at BI ⊢
  generalize w4.alloc (.cells #[.string lo, .string hi, .bool op] 52) = W5 at FT BT BW BI ⊢
  clear hbi
  obtain ⟨iv, hiv⟩ : ∃ iv : Ivl, iv = ⟨lo, hi, op⟩ := ⟨_, rfl⟩
  have HJ := range_just iv HT.out
  have HS1 : Hid (∀ W : World, Below W5.heap.size W5 W → Calls Try.prog 19 #[.agg #[.slice (some ⟨g, 0, none⟩) f.length cap, .int .i64 next], .agg #[.string lo, .string hi, .bool op]] W fun e w' => (∃ v1 v2, e = .returned (.tuple #[v1, v2, .int .i64 0]) ∧ OwnE w' W.heap.size v1 ((allE f).filter fun e => hasI iv e.key) ∧ OwnI w' W.heap.size v2 (rangeN f next iv)) ∧ Below W.heap.size W w') := fun W hW => by
    have h := treeRange_any (some ⟨g, 0, none⟩) cap f next iv W (FT.out.next hW).rowP HLE.out HCAP.out HSZ.out
    rw [HJ, show rangeC f next = 0 by unfold rangeC; rw [if_pos HT.out], hiv] at h
    rw [hiv]; exact h
  have HS2 : Hid (∀ W : World, Below W5.heap.size W5 W → Calls Try.prog 25 #[.agg #[.slice (some ⟨g, 0, none⟩) f.length cap, .int .i64 next], .agg #[.string lo, .string hi, .bool op]] W fun e w' => (∃ v1 v2, e = .returned (.tuple #[v1, v2, .int .i64 0]) ∧ OwnE w' W.heap.size v1 ((allE f).filter fun e => hasI iv e.key) ∧ OwnI w' W.heap.size v2 (rangeN f next iv)) ∧ Below W.heap.size W w') := fun W hW => by
    have h := specTreeRange_any (some ⟨g, 0, none⟩) cap f next iv W (FT.out.next hW).rowP HLE.out HSZ.out
    rw [HJ, show rangeC f next = 0 by unfold rangeC; rw [if_pos HT.out], hiv] at h
    rw [hiv]; exact h
  have HS3 : Hid (∀ W : World, Below W5.heap.size W5 W → Calls Try.prog 19 #[.agg #[.slice (some ⟨g, 0, none⟩) f.length cap, .int .i64 next], .agg #[.string em, .string em, .bool true]] W fun e w' => (∃ v1 v2, e = .returned (.tuple #[v1, v2, .int .i64 0]) ∧ OwnE w' W.heap.size v1 (allE f) ∧ OwnI w' W.heap.size v2 (rangeN f next allIv)) ∧ Below W.heap.size W w') := fun W hW => by
    have h := treeRange_any (some ⟨g, 0, none⟩) cap f next allIv W (FT.out.next hW).rowP HLE.out HCAP.out HSZ.out
    rw [(range_all HT.out).1, show rangeC f next = 0 by unfold rangeC; rw [if_pos HT.out]] at h
    exact h
  have HPG : Hid (∀ x ∈ allE f, hasI iv x.key = true → ∃ m, pageAtT f next x = (m, 0) ∧ m ∈ rangeN f next iv) := fun x hx hh => page_named iv HT.out hx hh
  have HKS : Hid (∀ x ∈ allE f, x.key.size ≤ 2) := fun x hx => (HA.out x hx).key
  have HPA : Hid (∀ (x : Ent) (W : World), x.key.size ≤ 1048576 → Below W5.heap.size W5 W → Calls Try.prog 20 #[.agg #[.slice (some ⟨g, 0, none⟩) f.length cap, .int .i64 next], .agg #[.string x.key, .int .i64 x.id]] W fun e' w' => e' = .returned (.tuple #[.int .i64 (pageAtT f next x).1, .int .i64 (pageAtT f next x).2]) ∧ Below W.heap.size W w') := fun x W hx hW => pageAt_any (some ⟨g, 0, none⟩) cap f next x W (FT.out.next hW).rowP HLE.out HCAP.out HSZ.out hx
  have HLL : Hid ((allE f).length ≤ 1000) := by
    show (allE f).length ≤ 1000
    have h4 := sumN_le f (fun p hp => (((treeB_iff f next).1 HT.out).2.1 p hp).1) f.length (Nat.le_refl _)
    rw [sumN_all, sizeP_all] at h4
    have := ((treeB_iff f next).1 HT.out).1
    omega
  have HNL : Hid ((rangeN f next iv).length ≤ 1000) := by
    show (rangeN f next iv).length ≤ 1000
    unfold rangeN; rw [if_pos HT.out, numsOf_len]
    have h1 : (overP f iv).length ≤ f.length := by
      have := congrArg List.length (over_split f iv)
      simp only [List.length_append] at this; omega
    have := ((treeB_iff f next).1 HT.out).1
    omega
  obtain ⟨L, hL⟩ : ∃ L, L = allE f := ⟨_, rfl⟩
  obtain ⟨N, hN⟩ : ∃ N, N = rangeN f next iv := ⟨_, rfl⟩
  obtain ⟨H, hH⟩ : ∃ H : Ent → Bool, H = fun e => hasI iv e.key := ⟨_, rfl⟩
  have HHe : Hid (∀ e : Ent, H e = hasI iv e.key) := fun e => by show H e = _; rw [hH]
  obtain ⟨LF, hLF⟩ : ∃ LF, LF = L.filter H := ⟨_, rfl⟩
  rw [← hL, ← hN, ← hH, ← hLF] at HS1 HS2
  rw [← hL] at HS3 HPG HKS HLL
  rw [← hN] at HPG HNL
  have HLF : Hid (LF = L.filter H) := hLF
  have HIH : Hid (∀ (x : Ent) (W : World), x.key.size ≤ 2 → Calls Try.prog 28 #[.agg #[.string lo, .string hi, .bool op], .string x.key] W fun e w' => e = .returned (.bool (H x)) ∧ Below W.heap.size W w') := fun x W hx => by
    have h := implHas_any lo hi op x.key W (by omega)
    rw [hasP_small _ _ (by omega), ← hiv, ← HHe.out] at h
    exact h
  have hLFl : LF.length ≤ L.length := by rw [hLF]; exact List.length_filter_le _ _
  clear hL hN hH hLF HJ HT HSZ HLE HCAP HA hiv FT
  refine (HS1.out _ (Below.refl _ _)).mono ?_
  rintro e' w6 ⟨⟨v1, v2, rfl, hO1, hO2⟩, hb⟩
  obtain ⟨p1, c1, rfl, hI1⟩ := hO1.inE
  obtain ⟨p2, c2, rfl, hI2⟩ := hO2.inI
  have HI1 : Hid (InE _ _ _) := hI1
  have HI2 : Hid (InI _ _ _) := hI2
  have hB6 : Below W5.heap.size W5 w6 := hb
  clear hO1 hO2 hI1 hI2 hb HS1
  have u0 := (BT.out.next hB6).c0
  have v0 := (BT.out.next hB6).c1
  have s0 := (BI.out.next hB6).c0
  have s1 := (BI.out.next hB6).c1
  have s2 := (BI.out.next hB6).c2
  go_wp2_with fail
  clear u0 v0 s0 s1 s2
  refine (HS2.out _ hB6).mono ?_
  rintro e' w7 ⟨⟨v3, v4, rfl, hO1, hO2⟩, hb⟩
  obtain ⟨p3, c3, rfl, hI3⟩ := hO1.inE
  obtain ⟨p4, c4, rfl, hI4⟩ := hO2.inI
  have HI3 : Hid (InE _ _ _) := hI3
  have HI4 : Hid (InI _ _ _) := hI4
  have nHI1 : Hid (InE _ _ _) := HI1.out.step hb
  have nHI2 : Hid (InI _ _ _) := HI2.out.step hb
  have hB7 : Below W5.heap.size W5 w7 := hB6.trans (hb.mono hB6.size)
  clear hO1 hO2 hI3 hI4 hb HI1 HI2 HS2 hB6
  have u0 := (BT.out.next hB7).c0
  have v0 := (BT.out.next hB7).c1
  go_wp2_with fail
  clear u0 v0
  refine (HS3.out _ hB7).mono ?_
  rintro e' w8 ⟨⟨v5, v6, rfl, hO1, hO2⟩, hb⟩
  obtain ⟨p5, c5, rfl, hI5⟩ := hO1.inE
  obtain ⟨p6, c6, rfl⟩ := owns_slice hO2
  have HI5 : Hid (InE _ _ _) := hI5
  have HI1 : Hid (InE _ _ _) := nHI1.out.step hb
  have HI2 : Hid (InI _ _ _) := nHI2.out.step hb
  have nHI3 : Hid (InE _ _ _) := HI3.out.step hb
  have nHI4 : Hid (InI _ _ _) := HI4.out.step hb
  have hB8 : Below W5.heap.size W5 w8 := hB7.trans (hb.mono hB7.size)
  clear hO1 hO2 hI5 hb nHI1 nHI2 HI3 HI4 HS3 hB7
  have hl1 := HLL.out
  have hl2 := HNL.out
  go_wp2_with fail
  refine (sameEntries_any p1 p3 c1 c3 LF _ HI1.out nHI3.out (by omega)).mono ?_
  rintro e' w9 ⟨rfl, hb⟩
  have mHI1 : Hid (InE _ _ _) := HI1.out.step hb
  have mHI2 : Hid (InI _ _ _) := HI2.out.step hb
  have mHI4 : Hid (InI _ _ _) := nHI4.out.step hb
  have mHI5 : Hid (InE _ _ _) := HI5.out.step hb
  have hB9 : Below W5.heap.size W5 w9 := hB8.trans (hb.mono hB8.size)
  clear hb HI1 HI2 nHI3 nHI4 HI5 hB8
  go_wp2_with fail
  refine (sameInts_any p2 p4 c2 c4 N _ mHI2.out mHI4.out (by omega)).mono ?_
  rintro e' wq ⟨rfl, hb⟩
  have HI1 : Hid (InE _ _ _) := mHI1.out.step hb
  have HI2 : Hid (InI _ _ _) := mHI2.out.step hb
  have HI5 : Hid (InE _ _ _) := mHI5.out.step hb
  have hBq : Below W5.heap.size W5 wq := hB9.trans (hb.mono hB9.size)
  have BTq : Hid (B2 _ _ _ _) := BT.out.next hBq
  have BIq : Hid (B3 _ _ _) := BI.out.next hBq
  have BWq : Hid (Below w.heap.size w wq) := BW.out.trans (hBq.mono BW.out.size)
  have HBq : Hid (Below W5.heap.size W5 wq) := hBq
  clear hb mHI1 mHI2 mHI4 mHI5 hB9 BT BI BW hBq
  go_wp2_with fail
  go_loopw [16, 17] (fun cn i wr => ∃ k : Nat, k ≤ L.length ∧ i = .int .i64 k ∧ cn = .int .i64 (((L.take k).filter H).length : Nat) ∧ Below wq.heap.size wq wr) (fun _ i _ => L.length - (intOf i).toNat)
  case atStart => exact ⟨0, Nat.zero_le _, rfl, by simp, Below.refl _ _⟩
  case round =>
    obtain ⟨k, hk, rfl, rfl, hbel⟩ := hrel
    obtain ⟨wo, hwo⟩ : ∃ W, W = wr := ⟨_, rfl⟩
    rw [← hwo] at hbel ⊢
    clear hwo
    obtain ⟨n, hn⟩ : ∃ n, n = ((L.take k).filter H).length := ⟨_, rfl⟩
    rw [← hn]
    have HNN : Hid (n = _) := hn
    by_cases hlt : k < L.length
    · rcases HI5.out.step hbel with h0 | ⟨b5, o5, rfl, hbl5, hc5⟩
      · omega
      have hk1 : (k : Int) < (L.length : Int) := by omega
      have hnl : n ≤ 1000 := by rw [hn]; have := List.length_filter_le H (L.take k); rw [List.length_take] at this; omega
      obtain ⟨ee, hee⟩ : ∃ e, e = L[k] := ⟨_, rfl⟩
      have hmem : ee ∈ L := by rw [hee]; exact List.getElem_mem _
      have HMEM : Hid (ee ∈ L) := hmem
      have HEE : Hid (ee = L[k]) := hee
      have hx0 : wo.cell? ⟨b5, o5 + k * 2, none⟩ = some (.string ee.key) := by rw [hee]; exact (hc5 k hlt).1
      have hx1 : wo.cell? ⟨b5, o5 + k * 2 + 1, none⟩ = some (.int .i64 ee.id) := by rw [hee]; exact (hc5 k hlt).2
      have q0 : ∀ u : Under wo, u.x.cell? ⟨b5, o5 + k * 2, none⟩ = some (.string ee.key) := fun u => (u.h.cell hbl5).trans hx0
      have q1 : ∀ u : Under wo, u.x.cell? ⟨b5, o5 + k * 2 + 1, none⟩ = some (.int .i64 ee.id) := fun u => (u.h.cell hbl5).trans hx1
      have hI := BIq.out.next hbel
      have i0 : ∀ u : Under wo, u.x.cell? ⟨bi, 0, none⟩ = some (.string lo) := fun u => (hI.next u.h).c0
      have i1 : ∀ u : Under wo, u.x.cell? ⟨bi, 1, none⟩ = some (.string hi) := fun u => (hI.next u.h).c1
      have i2 : ∀ u : Under wo, u.x.cell? ⟨bi, 2, none⟩ = some (.bool op) := fun u => (hI.next u.h).c2
      have hT5 := BTq.out.next hbel
      have t0 : ∀ u : Under wo, u.x.cell? ⟨bt, 0, none⟩ = some (.slice (some ⟨g, 0, none⟩) f.length cap) := fun u => (hT5.next u.h).c0
      have t1 : ∀ u : Under wo, u.x.cell? ⟨bt, 1, none⟩ = some (.int .i64 next) := fun u => (hT5.next u.h).c1
      have hks := HKS.out ee hmem
      have HCI : Hid (∀ u : Under wo, Calls Try.prog 28 #[.agg #[.string lo, .string hi, .bool op], .string ee.key] u.x fun e w' => e = .returned (.bool (H ee)) ∧ Below u.x.heap.size u.x w') := fun u => HIH.out ee u.x hks
      have hnu : Nonempty (Under wo) := ⟨⟨wo, Below.refl _ _⟩⟩
      have hHE : H ee = H L[k] := by rw [hee]
      cases hh : H ee
      · rw [hh] at HCI
        have HN1 : Hid (((L.take (k + 1)).filter H).length = n) := by
          show ((L.take (k + 1)).filter H).length = n
          rw [filter_take H L k hlt, ← hHE, hh, hn]; simp
        clear hc5 hee hx0 hx1 hI hT5 hn hHE hmem hh t0 t1
        go_wp2_with fail
        refine wp_region_under (by kernel_rfl) (by kernel_rfl) ?_
        repeat (go_big_quiet_step ((go_at_call 28; exact calls_under _ (HCI.out _))))
        refine wpQuiet_nil ?_
        rintro _ ⟨u1, rfl⟩
        have hbz : Below wq.heap.size wq u1.x := hbel.trans (u1.h.mono hbel.size)
        go_wp2_with fail
        go_roundw
        case rel => exact ⟨k + 1, by omega, by go_num, by rw [HN1.out], hbz⟩
        case measure => simp [intOf]; omega
      · rw [hh] at HCI
        have HN1 : Hid (((L.take (k + 1)).filter H).length = n + 1) := by
          show ((L.take (k + 1)).filter H).length = n + 1
          rw [filter_take H L k hlt, ← hHE, hh, hn]; simp
        obtain ⟨hnf, hat⟩ := filter_at H L k hlt (by rw [← hHE]; exact hh)
        have hnf2 : n < LF.length := by rw [hn, HLF.out]; exact hnf
        have hat2 : ∃ h : n < LF.length, LF[n] = ee := by
          refine ⟨hnf2, ?_⟩
          rw [hee, ← hat]
          simp only [HLF.out, hn]
        obtain ⟨m, hm1, hm2⟩ := HPG.out ee hmem (by rw [← HHe.out]; exact hh)
        rcases HI1.out.step hbel with h0 | ⟨b1, o1, rfl, hbl1, hc1⟩
        · omega
        obtain ⟨_, hat3⟩ := hat2
        have y0 : ∀ u : Under wo, u.x.cell? ⟨b1, o1 + n * 2, none⟩ = some (.string ee.key) := fun u => (u.h.cell hbl1).trans (by rw [← hat3]; exact (hc1 n hnf2).1)
        have y1 : ∀ u : Under wo, u.x.cell? ⟨b1, o1 + n * 2 + 1, none⟩ = some (.int .i64 ee.id) := fun u => (u.h.cell hbl1).trans (by rw [← hat3]; exact (hc1 n hnf2).2)
        have nq := fun W : World => (neqEnt ee ee W).trans (by rw [show (ee.key.toList == ee.key.toList && ee.id == ee.id) = true by simp])
        have hnf3 : (n : Int) < (LF.length : Int) := by omega
        have hnf4 : ¬ (LF.length : Int) ≤ (n : Int) := by omega
        have hnf5 : ¬ LF.length ≤ n := by omega
        have hnf6 : decide ((LF.length : Int) ≤ (n : Int)) = false := decide_eq_false hnf4
        have hnf7 : decide (LF.length ≤ n) = false := decide_eq_false hnf5
        have hnf8 : decide ((n : Int) < (LF.length : Int)) = true := decide_eq_true hnf3
        have hnf9 : decide (n < LF.length) = true := decide_eq_true hnf2
        have HPC : Hid (∀ u : Under wo, Calls Try.prog 20 #[.agg #[.slice (some ⟨g, 0, none⟩) f.length cap, .int .i64 next], .agg #[.string ee.key, .int .i64 ee.id]] u.x fun e' w' => e' = .returned (.tuple #[.int .i64 m, .int .i64 0]) ∧ Below u.x.heap.size u.x w') := fun u => by
          have h := HPA.out ee u.x (by omega) (HBq.out.trans ((hbel.trans (u.h.mono hbel.size)).mono HBq.out.size))
          rw [hm1] at h; exact h
        have HM2 : Hid (m ∈ N) := hm2
        clear hc5 hee hx0 hx1 hI hT5 hn hHE hmem hh hnf hat hat3 hm1 hm2 hc1 hnf2
        go_wp2_with fail
        refine wp_region_under (by kernel_rfl) (by kernel_rfl) ?_
        repeat (go_big_quiet_step ((go_at_call 28; exact calls_under _ (HCI.out _))))
        refine wpQuiet_nil ?_
        rintro _ ⟨u1, rfl⟩
        have UP : ∀ u : Under u1.x, ∃ v : Under wo, v.x = u.x := fun u => ⟨⟨u.x, u1.h.trans (u.h.mono u1.h.size)⟩, rfl⟩
        have hnu1 : Nonempty (Under u1.x) := ⟨⟨u1.x, Below.refl _ _⟩⟩
        have q0' : ∀ u : Under u1.x, u.x.cell? ⟨b5, o5 + k * 2, none⟩ = some (.string ee.key) := fun u => q0 ⟨u.x, u1.h.trans (u.h.mono u1.h.size)⟩
        have q1' : ∀ u : Under u1.x, u.x.cell? ⟨b5, o5 + k * 2 + 1, none⟩ = some (.int .i64 ee.id) := fun u => q1 ⟨u.x, u1.h.trans (u.h.mono u1.h.size)⟩
        have y0' : ∀ u : Under u1.x, u.x.cell? ⟨b1, o1 + n * 2, none⟩ = some (.string ee.key) := fun u => y0 ⟨u.x, u1.h.trans (u.h.mono u1.h.size)⟩
        have y1' : ∀ u : Under u1.x, u.x.cell? ⟨b1, o1 + n * 2 + 1, none⟩ = some (.int .i64 ee.id) := fun u => y1 ⟨u.x, u1.h.trans (u.h.mono u1.h.size)⟩
        have t0' : ∀ u : Under u1.x, u.x.cell? ⟨bt, 0, none⟩ = some (.slice (some ⟨g, 0, none⟩) f.length cap) := fun u => t0 ⟨u.x, u1.h.trans (u.h.mono u1.h.size)⟩
        have t1' : ∀ u : Under u1.x, u.x.cell? ⟨bt, 1, none⟩ = some (.int .i64 next) := fun u => t1 ⟨u.x, u1.h.trans (u.h.mono u1.h.size)⟩
        have HPC' : Hid (∀ u : Under u1.x, Calls Try.prog 20 #[.agg #[.slice (some ⟨g, 0, none⟩) f.length cap, .int .i64 next], .agg #[.string ee.key, .int .i64 ee.id]] u.x fun e' w' => e' = .returned (.tuple #[.int .i64 m, .int .i64 0]) ∧ Below u.x.heap.size u.x w') := fun u => HPC.out ⟨u.x, u1.h.trans (u.h.mono u1.h.size)⟩
        have hb1 : Below wq.heap.size wq u1.x := hbel.trans (u1.h.mono hbel.size)
        clear q0 q1 y0 y1 t0 t1 HPC i0 i1 i2 HCI hnu UP
        go_wp2_with fail
        refine wp_region_under (by kernel_rfl) (by kernel_rfl) ?_
        repeat (go_big_quiet_step (fail))
        refine wpQuiet_nil ?_
        rintro _ ⟨u2, rfl⟩
        have hnu2 : Nonempty (Under u2.x) := ⟨⟨u2.x, Below.refl _ _⟩⟩
        have q0 : ∀ u : Under u2.x, u.x.cell? ⟨b5, o5 + k * 2, none⟩ = some (.string ee.key) := fun u => q0' ⟨u.x, u2.h.trans (u.h.mono u2.h.size)⟩
        have q1 : ∀ u : Under u2.x, u.x.cell? ⟨b5, o5 + k * 2 + 1, none⟩ = some (.int .i64 ee.id) := fun u => q1' ⟨u.x, u2.h.trans (u.h.mono u2.h.size)⟩
        have t0 : ∀ u : Under u2.x, u.x.cell? ⟨bt, 0, none⟩ = some (.slice (some ⟨g, 0, none⟩) f.length cap) := fun u => t0' ⟨u.x, u2.h.trans (u.h.mono u2.h.size)⟩
        have t1 : ∀ u : Under u2.x, u.x.cell? ⟨bt, 1, none⟩ = some (.int .i64 next) := fun u => t1' ⟨u.x, u2.h.trans (u.h.mono u2.h.size)⟩
        have HPC : Hid (∀ u : Under u2.x, Calls Try.prog 20 #[.agg #[.slice (some ⟨g, 0, none⟩) f.length cap, .int .i64 next], .agg #[.string ee.key, .int .i64 ee.id]] u.x fun e' w' => e' = .returned (.tuple #[.int .i64 m, .int .i64 0]) ∧ Below u.x.heap.size u.x w') := fun u => HPC'.out ⟨u.x, u2.h.trans (u.h.mono u2.h.size)⟩
        have hb2 : Below wq.heap.size wq u2.x := hb1.trans (u2.h.mono hb1.size)
        clear q0' q1' y0' y1' t0' t1' HPC' hnu1 hb1
        go_wp2_with fail
        refine wp_region_under (by kernel_rfl) (by kernel_rfl) ?_
        repeat (go_big_quiet_step ((go_at_call 20; exact calls_under _ (HPC.out _))))
        refine wpQuiet_nil ?_
        rintro _ ⟨u3, rfl⟩
        have hb3 : Below wq.heap.size wq u3.x := hb2.trans (u3.h.mono hb2.size)
        clear q0 q1 t0 t1 HPC hnu2 hb2
        go_wp2_with fail
        generalize u3.x = wi at hb3 ⊢
        go_loopw [20, 21] (fun nm i wr => ∃ q : Nat, q ≤ N.length ∧ i = .int .i64 q ∧ nm = .bool ((N.take q).any (fun y => y == m)) ∧ wr = wi) (fun _ i _ => N.length - (intOf i).toNat)
        case atStart => exact ⟨0, Nat.zero_le _, rfl, by simp, rfl⟩
        case round =>
          obtain ⟨q, hq, rfl, rfl, rfl⟩ := hrel
          obtain ⟨nb, hnb⟩ : ∃ b, b = (N.take q).any (fun y => y == m) := ⟨_, rfl⟩
          rw [← hnb]
          have HNB : Hid (nb = _) := hnb
          by_cases hlq : q < N.length
          · rcases HI2.out.step hb3 with h0 | ⟨g2, rfl, hbl2, hc2⟩
            · omega
            have hq1 : (q : Int) < (N.length : Int) := by omega
            obtain ⟨y, hy⟩ : ∃ y, y = N[q] := ⟨_, rfl⟩
            have z0 := hc2 q hlq
            rw [← hy] at z0
            have HSN : Hid ((N.take (q + 1)).any (fun y => y == m) = (nb || (y == m))) := by
              show (N.take (q + 1)).any (fun y => y == m) = (nb || (y == m))
              rw [List.take_succ_eq_append_getElem hlq, List.any_append, hnb, hy]; simp
            clear hc2 hy hnb
            cases nb
            · obtain ⟨be2, hbe2⟩ : ∃ b : Bool, b = (y == m) := ⟨_, rfl⟩
              have e1 : (y == m) = be2 := hbe2.symm
              have e2 : decide (y = m) = be2 := by rw [hbe2]; rfl
              have HB2 : Hid (be2 = _) := hbe2
              clear hbe2
              go_wp2_with fail
              go_roundw
              case rel => exact ⟨q + 1, by omega, by go_num, by rw [HSN.out, ← HB2.out]; simp, trivial⟩
              case measure => simp [intOf]; omega
            · go_wp2_with fail
              go_roundw
              case rel => exact ⟨q + 1, by omega, by go_num, by rw [HSN.out]; simp, trivial⟩
              case measure => simp [intOf]; omega
          · have hlq2 : ¬ (q : Int) < (N.length : Int) := by omega
            obtain rfl : nb = true := by
              rw [hnb, List.take_of_length_le (by omega), List.any_eq_true]
              exact ⟨m, HM2.out, by simp⟩
            clear hnb
            go_wp2_with fail
            go_roundw
            case rel => exact ⟨k + 1, by omega, by go_num, by rw [HN1.out]; first | rfl | simp, hb3⟩
            case measure => simp [intOf]; omega
    · have hlt2 : ¬ (k : Int) < (L.length : Int) := by omega
      have hnn : n = LF.length := by rw [hn, HLF.out, List.take_of_length_le (by omega)]
      have hbz := BWq.out.trans (hbel.mono BWq.out.size)
      rw [hnn]
      clear hn HNN
      go_wp2_with fail
      go_ret
      exact ⟨by simp, hbz⟩
end Go.Proofs.Ytnmpfooegnmknaa.TreeRLaw
