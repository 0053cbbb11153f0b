/- The walk of the law of trees. -/
import Derived.Test.YtnmpfooegnmknaaTrDQ
namespace Go.Proofs.Ytnmpfooegnmknaa.TreeLaw
open Go.RowKit
open Tr
set_option linter.unusedVariables false

set_option maxRecDepth 8000 in
set_option maxHeartbeats 16000000 in
theorem walk (x0 : Option Addr) (cap0 : Nat) (z0 : List Int) (hm0 : z0.length ≤ maxLen) (hb0 : ∀ i, i < z0.length → 0 ≤ z0.getD i 0 ∧ z0.getD i 0 < 256) (x1 : Option Addr) (cap1 : Nat) (z1 : List Int) (hm1 : z1.length ≤ maxLen) (hb1 : ∀ i, i < z1.length → 0 ≤ z1.getD i 0 ∧ z1.getD i 0 < 256) (w : World) (i0 : InB w x0 z0) (i1 : InB w x1 z1) :
    Calls Try.prog 4 #[.slice x0 z0.length cap0, .slice x1 z1.length cap1] w fun e w' => e = .returned (.bool true) ∧ Below w.heap.size w w' := by
  by_cases h0 : 1048576 < z0.length
  · have a0 : (1048576 : Int) < (z0.length : Int) := by omega
    clear hb0 hb1 hm0 hm1 i0 i1
    go_enter Try.func4, Try.ntmps4
    go_wp2_with fail
    go_ret
    exact ⟨rfl, Below.refl _ _⟩
  by_cases h1 : 1048576 < z1.length
  · have a0 : ¬ (1048576 : Int) < (z0.length : Int) := by omega
    have a1 : (1048576 : Int) < (z1.length : Int) := by omega
    clear hb0 hb1 hm0 hm1 i0 i1
    go_enter Try.func4, Try.ntmps4
    go_wp2_with fail
    go_ret
    exact ⟨rfl, Below.refl _ _⟩
  have a0 : ¬ (1048576 : Int) < (z0.length : Int) := by omega
  have a1 : ¬ (1048576 : Int) < (z1.length : Int) := by omega
  have HC0 : Hid (InC w x0 z0) := ⟨i0, hb0, by omega⟩
  have HC1 : Hid (InC w x1 z1) := ⟨i1, hb1, by omega⟩
  clear hb0 hb1 hm0 hm1 i0 i1 h0 h1
  go_enter Try.func4, Try.ntmps4
  go_wp2_with fail
  refine (drawnTree_any x0 cap0 z0 w HC0.out).mono ?_
  rintro e' w1 ⟨⟨v, f, next, rfl, hO, hT, hl, hn, hA⟩, hb⟩
  obtain ⟨g, cap, rfl, hcap, hF⟩ := hO.room (tree_pos hT)
  have HT : Hid (treeB f next = true) := hT
  have HA : Hid (∀ e ∈ allE f, EntD e) := hA
  have HSZ : Hid (∀ l ∈ f, szP l) := full_szP hT
  have HLE : Hid (f.length ≤ 1048576) := tree_le hT
  have HCAP : Hid (f.length ≤ cap) := hcap
  have HL : Hid (f.length ≤ 24) := hl
  have HN : Hid (next ≤ 25) := hn
  have hbA : Below w1.heap.size w1 (w1.alloc (.cells #[.slice (some ⟨g, 0, none⟩) f.length cap, .int .i64 next] 37)) := (Below.refl _ _).alloc (Nat.le_refl _) _
  have FT : Hid (FullP _ _ _) := hF.next hbA
  have BT : Hid (B2 _ _ _ _) := B2.new w1 (.slice (some ⟨g, 0, none⟩) f.length cap) (.int .i64 next) 37
  have BW : Hid (Below w.heap.size w _) := hb.trans (hbA.mono hb.size)
  clear hb hbA hO hT hA hl hn hF hcap HC0
  go_wp2_with fail
  obtain ⟨bt, hbt⟩ : ∃ b, b = w1.heap.size := ⟨_, rfl⟩
  rw [← hbt] at BT ⊢
  generalize w1.alloc (.cells #[.slice (some ⟨g, 0, none⟩) f.length cap, .int .i64 next] 37) = W1 at FT BT BW ⊢
  clear hbt
  refine (drawnEntry_any x1 cap1 z1 _ (HC1.out.step BW.out)).mono ?_
  rintro e' w2 ⟨⟨e1, rfl, hE1⟩, hb⟩
  obtain ⟨key, hkey⟩ : ∃ k, k = e1.key := ⟨_, rfl⟩
  rw [← hkey]
  have hks : key.size ≤ 2 := by rw [hkey]; exact hE1.key
  have HKS : Hid (key.size ≤ 1048576) := by show key.size ≤ 1048576; omega
  have HE : Hid (entB ⟨key, 77⟩ = true) := by
    show entB ⟨key, 77⟩ = true
    unfold entB; rw [decide_eq_true (by show key.size ≤ 2000; omega)]; rfl
  have HNE : Hid ((⟨key, 77⟩ : Ent) ∉ allE f) := fun hm => absurd (HA.out _ hm).id4 (by show ¬ (77 : Int) < 4; omega)
  have hbA : Below W1.heap.size W1 (w2.alloc (.cells #[.string key, .int .i64 77] 40)) := hb.alloc hb.size _
  have nFT : Hid (FullP _ _ _) := FT.out.next hbA
  have nBT : Hid (B2 _ _ _ _) := BT.out.next hbA
  have nBW : Hid (Below w.heap.size w _) := BW.out.trans (hbA.mono BW.out.size)
  have BE : Hid (B2 _ _ _ _) := B2.new w2 (.string key) (.int .i64 77) 40
  clear FT BT BW hb hbA hE1 hkey hks HC1 HA
  have FT := nFT
  have BT := nBT
  have BW := nBW
  clear nFT nBT nBW
  have hfd : ∀ W : World, (Instr.field 40 (.agg #[.string key, .int .i64 e1.id]) 0).run Try.prog W = .ok (.string key) W := fun _ => by kernel_rfl
  have u0 := BT.out.c0
  have v0 := BT.out.c1
  go_wp2_with fail
  obtain ⟨be, hbe⟩ : ∃ b, b = w2.heap.size := ⟨_, rfl⟩
  rw [← hbe] at BE ⊢
  generalize w2.alloc (.cells #[.string key, .int .i64 77] 40) = W2 at FT BT BW BE u0 v0 ⊢
  clear hbe u0 v0 hfd
  refine (treePut_any g cap f next ⟨key, 77⟩ _ FT.out HLE.out HCAP.out HSZ.out HKS.out).mono ?_
  rintro e' w3 ⟨⟨v1, f1, n1, num, c1, rfl, hO, hP⟩, hb⟩
  obtain ⟨rfl, hT1, hPS⟩ := putOf_new hP HT.out HE.out HNE.out (by have := HL.out; omega) (by have := HN.out; omega)
  obtain ⟨g1, cap1', rfl, hcap1, hF1⟩ := hO.room (tree_pos hT1)
  have HP1 : Hid (PutR f next ⟨key, 77⟩ f1 n1 num 0) := hP
  have HT1 : Hid (treeB f1 n1 = true) := hT1
  have HPS : Hid (∃ P S, allE f = P ++ S ∧ allE f1 = P ++ (⟨key, 77⟩ : Ent) :: S) := hPS
  have HSZ1 : Hid (∀ l ∈ f1, szP l) := full_szP hT1
  have HLE1 : Hid (f1.length ≤ 1048576) := tree_le hT1
  have HCAP1 : Hid (f1.length ≤ cap1') := hcap1
  have HIN1 : Hid ((⟨key, 77⟩ : Ent) ∈ allE f1) := by
    show (⟨key, 77⟩ : Ent) ∈ allE f1
    obtain ⟨P, S, _, e2⟩ := hPS
    rw [e2]; simp
  clear hO hP hT1 hPS hcap1
  have hbA : Below W2.heap.size W2 (w3.alloc (.cells #[.slice (some ⟨g1, 0, none⟩) f1.length cap1', .int .i64 n1] 37)) := hb.alloc hb.size _
  have hbB : Below w3.heap.size w3 (w3.alloc (.cells #[.slice (some ⟨g1, 0, none⟩) f1.length cap1', .int .i64 n1] 37)) := (Below.refl _ _).alloc (Nat.le_refl _) _
  have nFT : Hid (FullP _ _ _) := FT.out.next hbA
  have nBT : Hid (B2 _ _ _ _) := BT.out.next hbA
  have nBE : Hid (B2 _ _ _ _) := BE.out.next hbA
  have nBW : Hid (Below w.heap.size w _) := BW.out.trans (hbA.mono BW.out.size)
  clear BW FT BT BE
  have FT := nFT
  clear nFT
  have BT := nBT
  clear nBT
  have BE := nBE
  clear nBE
  have BW := nBW
  clear nBW
  have FP : Hid (FullP _ _ _) := hF1.next hbB
  have BP : Hid (B2 _ _ _ _) := B2.new w3 (.slice (some ⟨g1, 0, none⟩) f1.length cap1') (.int .i64 n1) 37
  clear hb hbA hbB
  clear hF1
  have u0 := BT.out.c0
  have v0 := BT.out.c1
  have u1 := BE.out.c0
  have v1 := BE.out.c1
  go_wp2_with fail
  clear u0 v0 u1 v1
  obtain ⟨bp, hbb⟩ : ∃ b, b = w3.heap.size := ⟨_, rfl⟩
  rw [← hbb] at BP ⊢
  generalize w3.alloc (.cells #[.slice (some ⟨g1, 0, none⟩) f1.length cap1', .int .i64 n1] 37) = W3 at FT BT BE FP BP BW ⊢
  clear hbb
  refine (specTreePut_full g cap f next ⟨key, 77⟩ _ FT.out HLE.out HSZ.out HKS.out).mono ?_
  rintro e' w4 ⟨⟨v2, f2, n2, num2, c2, rfl, hO, hP⟩, hb⟩
  obtain ⟨hq1, hq2, hq3, hq4⟩ := HP1.out.uniq hP
  subst hq1 hq2 hq3 hq4
  obtain ⟨g2, cap2', rfl, hcap2, hF2⟩ := hO.room (tree_pos HT1.out)
  clear hO hP hcap2
  have hbA : Below W3.heap.size W3 (w4.alloc (.cells #[.slice (some ⟨g2, 0, none⟩) f1.length cap2', .int .i64 n1] 37)) := hb.alloc hb.size _
  have hbB : Below w4.heap.size w4 (w4.alloc (.cells #[.slice (some ⟨g2, 0, none⟩) f1.length cap2', .int .i64 n1] 37)) := (Below.refl _ _).alloc (Nat.le_refl _) _
  have nFT : Hid (FullP _ _ _) := FT.out.next hbA
  have nBT : Hid (B2 _ _ _ _) := BT.out.next hbA
  have nBE : Hid (B2 _ _ _ _) := BE.out.next hbA
  have nFP : Hid (FullP _ _ _) := FP.out.next hbA
  have nBP : Hid (B2 _ _ _ _) := BP.out.next hbA
  have nBW : Hid (Below w.heap.size w _) := BW.out.trans (hbA.mono BW.out.size)
  clear BW FT BT BE FP BP
  have FT := nFT
  clear nFT
  have BT := nBT
  clear nBT
  have BE := nBE
  clear nBE
  have FP := nFP
  clear nFP
  have BP := nBP
  clear nBP
  have BW := nBW
  clear nBW
  have FQ : Hid (FullP _ _ _) := hF2.next hbB
  have BQ : Hid (B2 _ _ _ _) := B2.new w4 (.slice (some ⟨g2, 0, none⟩) f1.length cap2') (.int .i64 n1) 37
  clear hb hbA hbB
  clear hF2
  have u0 := BT.out.c0
  have v0 := BT.out.c1
  go_wp2_with fail
  clear u0 v0
  obtain ⟨bq, hbb⟩ : ∃ b, b = w4.heap.size := ⟨_, rfl⟩
  rw [← hbb] at BQ ⊢
  generalize w4.alloc (.cells #[.slice (some ⟨g2, 0, none⟩) f1.length cap2', .int .i64 n1] 37) = W4 at FT BT BE FP BP FQ BQ BW ⊢
  clear hbb
  refine (treeSize_any (some ⟨g, 0, none⟩) cap f next _ FT.out.rowP HLE.out HCAP.out HSZ.out).mono ?_
  rintro e' w5 ⟨rfl, hb⟩
  have nFT : Hid (FullP _ _ _) := FT.out.next hb
  have nBT : Hid (B2 _ _ _ _) := BT.out.next hb
  have nBE : Hid (B2 _ _ _ _) := BE.out.next hb
  have nFP : Hid (FullP _ _ _) := FP.out.next hb
  have nBP : Hid (B2 _ _ _ _) := BP.out.next hb
  have nFQ : Hid (FullP _ _ _) := FQ.out.next hb
  have nBQ : Hid (B2 _ _ _ _) := BQ.out.next hb
  have nBW : Hid (Below w.heap.size w _) := BW.out.trans (hb.mono BW.out.size)
  clear BW FT BT BE FP BP FQ BQ
  have FT := nFT
  clear nFT
  have BT := nBT
  clear nBT
  have BE := nBE
  clear nBE
  have FP := nFP
  clear nFP
  have BP := nBP
  clear nBP
  have FQ := nFQ
  clear nFQ
  have BQ := nBQ
  clear nBQ
  have BW := nBW
  clear nBW
  clear hb
  have hst : sizeT f next = (((sizeP f : Nat) : Int), 0) := by unfold sizeT; rw [if_pos HT.out]
  rw [hst]
  clear hst
  have u0 := BP.out.c0
  have v0 := BP.out.c1
  go_wp2_with fail
  clear u0 v0
  refine (treeSize_any (some ⟨g1, 0, none⟩) cap1' f1 n1 _ FP.out.rowP HLE1.out HCAP1.out HSZ1.out).mono ?_
  rintro e' w6 ⟨rfl, hb⟩
  have nFT : Hid (FullP _ _ _) := FT.out.next hb
  have nBT : Hid (B2 _ _ _ _) := BT.out.next hb
  have nBE : Hid (B2 _ _ _ _) := BE.out.next hb
  have nFP : Hid (FullP _ _ _) := FP.out.next hb
  have nBP : Hid (B2 _ _ _ _) := BP.out.next hb
  have nFQ : Hid (FullP _ _ _) := FQ.out.next hb
  have nBQ : Hid (B2 _ _ _ _) := BQ.out.next hb
  have nBW : Hid (Below w.heap.size w _) := BW.out.trans (hb.mono BW.out.size)
  clear BW FT BT BE FP BP FQ BQ
  have FT := nFT
  clear nFT
  have BT := nBT
  clear nBT
  have BE := nBE
  clear nBE
  have FP := nFP
  clear nFP
  have BP := nBP
  clear nBP
  have FQ := nFQ
  clear nFQ
  have BQ := nBQ
  clear nBQ
  have BW := nBW
  clear nBW
  clear hb
  have hst : sizeT f1 n1 = (((sizeP f1 : Nat) : Int), 0) := by unfold sizeT; rw [if_pos HT1.out]
  rw [hst]
  clear hst
  have u0 := BP.out.c0
  have v0 := BP.out.c1
  have u1 := BE.out.c0
  have v1 := BE.out.c1
  go_wp2_with fail
  clear u0 v0 u1 v1
  refine (treePut_any g1 cap1' f1 n1 ⟨key, 77⟩ _ FP.out HLE1.out HCAP1.out HSZ1.out HKS.out).mono ?_
  rintro e' w7 ⟨⟨v2, f2, n2, num2, c2, rfl, hO, hP⟩, hb⟩
  obtain rfl := putOf_there hP HT1.out HE.out HIN1.out
  obtain ⟨ptw, ctw, rfl⟩ := hO.shape
  clear hO hP
  have hbA : Below w6.heap.size w6 (w7.alloc (.cells #[.slice ptw f2.length ctw, .int .i64 n2] 37)) := hb.alloc hb.size _
  have hbB : Below w7.heap.size w7 (w7.alloc (.cells #[.slice ptw f2.length ctw, .int .i64 n2] 37)) := (Below.refl _ _).alloc (Nat.le_refl _) _
  have nFT : Hid (FullP _ _ _) := FT.out.next hbA
  have nBT : Hid (B2 _ _ _ _) := BT.out.next hbA
  have nBE : Hid (B2 _ _ _ _) := BE.out.next hbA
  have nFP : Hid (FullP _ _ _) := FP.out.next hbA
  have nBP : Hid (B2 _ _ _ _) := BP.out.next hbA
  have nFQ : Hid (FullP _ _ _) := FQ.out.next hbA
  have nBQ : Hid (B2 _ _ _ _) := BQ.out.next hbA
  have nBW : Hid (Below w.heap.size w _) := BW.out.trans (hbA.mono BW.out.size)
  clear BW FT BT BE FP BP FQ BQ
  have FT := nFT
  clear nFT
  have BT := nBT
  clear nBT
  have BE := nBE
  clear nBE
  have FP := nFP
  clear nFP
  have BP := nBP
  clear nBP
  have FQ := nFQ
  clear nFQ
  have BQ := nBQ
  clear nBQ
  have BW := nBW
  clear nBW
  clear hb hbA hbB
  have u0 := BP.out.c0
  have v0 := BP.out.c1
  have u1 := BE.out.c0
  have v1 := BE.out.c1
  go_wp2_with fail
  clear u0 v0 u1 v1
  generalize w7.alloc (.cells #[.slice ptw f2.length ctw, .int .i64 n2] 37) = W7 at FT BT BE FP BP FQ BQ BW ⊢
  refine (treeDrop_any g1 cap1' f1 n1 ⟨key, 77⟩ _ FP.out HLE1.out HCAP1.out HSZ1.out HKS.out).mono ?_
  rintro e' w8 ⟨⟨v3, f3, n3, c3, rfl, hO, hP⟩, hb⟩
  obtain ⟨rfl, hn3, hT3, hPS3⟩ := dropOf_there hP HT1.out HE.out HIN1.out
  obtain ⟨g3, cap3', rfl, hcap3, hF3⟩ := hO.room (tree_pos hT3)
  have HT3 : Hid (treeB f3 n3 = true) := hT3
  have HPS3 : Hid (∃ P S, allE f1 = P ++ (⟨key, 77⟩ : Ent) :: S ∧ allE f3 = P ++ S) := hPS3
  have HSZ3 : Hid (∀ l ∈ f3, szP l) := full_szP hT3
  have HLE3 : Hid (f3.length ≤ 1048576) := tree_le hT3
  have HCAP3 : Hid (f3.length ≤ cap3') := hcap3
  have HNE3 : Hid ((⟨key, 77⟩ : Ent) ∉ allE f3) := by
    show (⟨key, 77⟩ : Ent) ∉ allE f3
    obtain ⟨P, S, e1, e2⟩ := hPS3
    rw [e2]; exact not_twice HT1.out e1
  clear hO hP hT3 hPS3 hcap3 hn3
  have hbA : Below W7.heap.size W7 (w8.alloc (.cells #[.slice (some ⟨g3, 0, none⟩) f3.length cap3', .int .i64 n3] 37)) := hb.alloc hb.size _
  have hbB : Below w8.heap.size w8 (w8.alloc (.cells #[.slice (some ⟨g3, 0, none⟩) f3.length cap3', .int .i64 n3] 37)) := (Below.refl _ _).alloc (Nat.le_refl _) _
  have nFT : Hid (FullP _ _ _) := FT.out.next hbA
  have nBT : Hid (B2 _ _ _ _) := BT.out.next hbA
  have nBE : Hid (B2 _ _ _ _) := BE.out.next hbA
  have nFP : Hid (FullP _ _ _) := FP.out.next hbA
  have nBP : Hid (B2 _ _ _ _) := BP.out.next hbA
  have nFQ : Hid (FullP _ _ _) := FQ.out.next hbA
  have nBQ : Hid (B2 _ _ _ _) := BQ.out.next hbA
  have nBW : Hid (Below w.heap.size w _) := BW.out.trans (hbA.mono BW.out.size)
  clear BW FT BT BE FP BP FQ BQ
  have FT := nFT
  clear nFT
  have BT := nBT
  clear nBT
  have BE := nBE
  clear nBE
  have FP := nFP
  clear nFP
  have BP := nBP
  clear nBP
  have FQ := nFQ
  clear nFQ
  have BQ := nBQ
  clear nBQ
  have BW := nBW
  clear nBW
  have FD : Hid (FullP _ _ _) := hF3.next hbB
  have BD : Hid (B2 _ _ _ _) := B2.new w8 (.slice (some ⟨g3, 0, none⟩) f3.length cap3') (.int .i64 n3) 37
  clear hb hbA hbB
  clear hF3
  have u0 := BD.out.c0
  have v0 := BD.out.c1
  have u1 := BE.out.c0
  have v1 := BE.out.c1
  go_wp2_with fail
  clear u0 v0 u1 v1
  obtain ⟨bd, hbb⟩ : ∃ b, b = w8.heap.size := ⟨_, rfl⟩
  rw [← hbb] at BD ⊢
  generalize w8.alloc (.cells #[.slice (some ⟨g3, 0, none⟩) f3.length cap3', .int .i64 n3] 37) = W8 at FT BT BE FP BP FQ BQ FD BD BW ⊢
  clear hbb
  refine (treeDrop_any g3 cap3' f3 n3 ⟨key, 77⟩ _ FD.out HLE3.out HCAP3.out HSZ3.out HKS.out).mono ?_
  rintro e' w9 ⟨⟨v4, f4, n4, c4, rfl, hO, hP⟩, hb⟩
  obtain rfl := dropOf_gone hP HT3.out HE.out HNE3.out
  obtain ⟨ptx, ctx, rfl⟩ := hO.shape
  clear hO hP
  have hbA : Below W8.heap.size W8 (w9.alloc (.cells #[.slice ptx f4.length ctx, .int .i64 n4] 37)) := hb.alloc hb.size _
  have hbB : Below w9.heap.size w9 (w9.alloc (.cells #[.slice ptx f4.length ctx, .int .i64 n4] 37)) := (Below.refl _ _).alloc (Nat.le_refl _) _
  have nFT : Hid (FullP _ _ _) := FT.out.next hbA
  have nBT : Hid (B2 _ _ _ _) := BT.out.next hbA
  have nBE : Hid (B2 _ _ _ _) := BE.out.next hbA
  have nFP : Hid (FullP _ _ _) := FP.out.next hbA
  have nBP : Hid (B2 _ _ _ _) := BP.out.next hbA
  have nFQ : Hid (FullP _ _ _) := FQ.out.next hbA
  have nBQ : Hid (B2 _ _ _ _) := BQ.out.next hbA
  have nFD : Hid (FullP _ _ _) := FD.out.next hbA
  have nBD : Hid (B2 _ _ _ _) := BD.out.next hbA
  have nBW : Hid (Below w.heap.size w _) := BW.out.trans (hbA.mono BW.out.size)
  clear BW FT BT BE FP BP FQ BQ FD BD
  have FT := nFT
  clear nFT
  have BT := nBT
  clear nBT
  have BE := nBE
  clear nBE
  have FP := nFP
  clear nFP
  have BP := nBP
  clear nBP
  have FQ := nFQ
  clear nFQ
  have BQ := nBQ
  clear nBQ
  have FD := nFD
  clear nFD
  have BD := nBD
  clear nBD
  have BW := nBW
  clear nBW
  clear hb hbA hbB
  have u0 := BD.out.c0
  have v0 := BD.out.c1
  go_wp2_with fail
  clear u0 v0
  generalize w9.alloc (.cells #[.slice ptx f4.length ctx, .int .i64 n4] 37) = W9 at FT BT BE FP BP FQ BQ FD BD BW ⊢
  refine (treeSize_any (some ⟨g3, 0, none⟩) cap3' f3 n3 _ FD.out.rowP HLE3.out HCAP3.out HSZ3.out).mono ?_
  rintro e' w10 ⟨rfl, hb⟩
  have nFT : Hid (FullP _ _ _) := FT.out.next hb
  have nBT : Hid (B2 _ _ _ _) := BT.out.next hb
  have nBE : Hid (B2 _ _ _ _) := BE.out.next hb
  have nFP : Hid (FullP _ _ _) := FP.out.next hb
  have nBP : Hid (B2 _ _ _ _) := BP.out.next hb
  have nFQ : Hid (FullP _ _ _) := FQ.out.next hb
  have nBQ : Hid (B2 _ _ _ _) := BQ.out.next hb
  have nFD : Hid (FullP _ _ _) := FD.out.next hb
  have nBD : Hid (B2 _ _ _ _) := BD.out.next hb
  have nBW : Hid (Below w.heap.size w _) := BW.out.trans (hb.mono BW.out.size)
  clear BW FT BT BE FP BP FQ BQ FD BD
  have FT := nFT
  clear nFT
  have BT := nBT
  clear nBT
  have BE := nBE
  clear nBE
  have FP := nFP
  clear nFP
  have BP := nBP
  clear nBP
  have FQ := nFQ
  clear nFQ
  have BQ := nBQ
  clear nBQ
  have FD := nFD
  clear nFD
  have BD := nBD
  clear nBD
  have BW := nBW
  clear nBW
  clear hb
  have hst : sizeT f3 n3 = (((sizeP f3 : Nat) : Int), 0) := by unfold sizeT; rw [if_pos HT3.out]
  rw [hst]
  clear hst
  have u0 := BP.out.c0
  have v0 := BP.out.c1
  go_wp2_with fail
  clear u0 v0
  refine (treeRange_any (some ⟨g1, 0, none⟩) cap1' f1 n1 allIv _ FP.out.rowP HLE1.out HCAP1.out HSZ1.out).mono ?_
  rintro e' w11 ⟨⟨v5, v6, rfl, hO5, hO6⟩, hb⟩
  obtain ⟨ra1, ra2, ra3⟩ := range_all HT1.out
  rw [ra3]
  rw [ra1] at hO5
  obtain ⟨p5, c5, rfl, hI5⟩ := hO5.inE
  obtain ⟨p6, c6, rfl⟩ := owns_slice hO6
  rw [ra2]
  have HI5 : Hid (InE _ _ _) := hI5
  clear ra1 ra2 ra3 hO5 hO6 hI5
  have nFT : Hid (FullP _ _ _) := FT.out.next hb
  have nBT : Hid (B2 _ _ _ _) := BT.out.next hb
  have nBE : Hid (B2 _ _ _ _) := BE.out.next hb
  have nFP : Hid (FullP _ _ _) := FP.out.next hb
  have nBP : Hid (B2 _ _ _ _) := BP.out.next hb
  have nFQ : Hid (FullP _ _ _) := FQ.out.next hb
  have nBQ : Hid (B2 _ _ _ _) := BQ.out.next hb
  have nFD : Hid (FullP _ _ _) := FD.out.next hb
  have nBD : Hid (B2 _ _ _ _) := BD.out.next hb
  have nBW : Hid (Below w.heap.size w _) := BW.out.trans (hb.mono BW.out.size)
  clear BW FT BT BE FP BP FQ BQ FD BD
  have FT := nFT
  clear nFT
  have BT := nBT
  clear nBT
  have BE := nBE
  clear nBE
  have FP := nFP
  clear nFP
  have BP := nBP
  clear nBP
  have FQ := nFQ
  clear nFQ
  have BQ := nBQ
  clear nBQ
  have FD := nFD
  clear nFD
  have BD := nBD
  clear nBD
  have BW := nBW
  clear nBW
  clear hb
  have u0 := BP.out.c0
  have v0 := BP.out.c1
  have u1 := BE.out.c0
  have v1 := BE.out.c1
  go_wp2_with fail
  clear u0 v0 u1 v1
  obtain ⟨PN, hPN⟩ : ∃ PN, pageAtT f1 n1 ⟨key, 77⟩ = (PN, 0) := by
    unfold pageAtT; rw [if_pos (by rw [HT1.out, HE.out]; rfl)]; exact ⟨_, rfl⟩
  have HPN : Hid (pageAtT f1 n1 ⟨key, 77⟩ = (PN, 0)) := hPN
  clear hPN
  refine (pageAt_any (some ⟨g1, 0, none⟩) cap1' f1 n1 ⟨key, 77⟩ _ FP.out.rowP HLE1.out HCAP1.out HSZ1.out HKS.out).mono ?_
  rintro e' w12 ⟨rfl, hb⟩
  have nFT : Hid (FullP _ _ _) := FT.out.next hb
  have nBT : Hid (B2 _ _ _ _) := BT.out.next hb
  have nBE : Hid (B2 _ _ _ _) := BE.out.next hb
  have nFP : Hid (FullP _ _ _) := FP.out.next hb
  have nBP : Hid (B2 _ _ _ _) := BP.out.next hb
  have nFQ : Hid (FullP _ _ _) := FQ.out.next hb
  have nBQ : Hid (B2 _ _ _ _) := BQ.out.next hb
  have nFD : Hid (FullP _ _ _) := FD.out.next hb
  have nBD : Hid (B2 _ _ _ _) := BD.out.next hb
  have nHI5 : Hid (InE _ _ _) := HI5.out.step hb
  have nBW : Hid (Below w.heap.size w _) := BW.out.trans (hb.mono BW.out.size)
  clear BW HI5 FT BT BE FP BP FQ BQ FD BD
  have FT := nFT
  clear nFT
  have BT := nBT
  clear nBT
  have BE := nBE
  clear nBE
  have FP := nFP
  clear nFP
  have BP := nBP
  clear nBP
  have FQ := nFQ
  clear nFQ
  have BQ := nBQ
  clear nBQ
  have FD := nFD
  clear nFD
  have BD := nBD
  clear nBD
  have BW := nBW
  have HI5 := nHI5
  clear nBW nHI5
  clear hb
  have hpg : pageAtT f1 n1 ⟨key, 77⟩ = (PN, 0) := HPN.out
  rw [hpg]
  clear hpg
  have u0 := BP.out.c0
  have v0 := BP.out.c1
  have u1 := BE.out.c0
  have v1 := BE.out.c1
  go_wp2_with fail
  clear u0 v0 u1 v1
  refine (specPageAt_any (some ⟨g1, 0, none⟩) cap1' f1 n1 ⟨key, 77⟩ _ FP.out.rowP HLE1.out HSZ1.out HKS.out).mono ?_
  rintro e' w13 ⟨rfl, hb⟩
  have nFT : Hid (FullP _ _ _) := FT.out.next hb
  have nBT : Hid (B2 _ _ _ _) := BT.out.next hb
  have nBE : Hid (B2 _ _ _ _) := BE.out.next hb
  have nFP : Hid (FullP _ _ _) := FP.out.next hb
  have nBP : Hid (B2 _ _ _ _) := BP.out.next hb
  have nFQ : Hid (FullP _ _ _) := FQ.out.next hb
  have nBQ : Hid (B2 _ _ _ _) := BQ.out.next hb
  have nFD : Hid (FullP _ _ _) := FD.out.next hb
  have nBD : Hid (B2 _ _ _ _) := BD.out.next hb
  have nHI5 : Hid (InE _ _ _) := HI5.out.step hb
  have nBW : Hid (Below w.heap.size w _) := BW.out.trans (hb.mono BW.out.size)
  clear BW HI5 FT BT BE FP BP FQ BQ FD BD
  have FT := nFT
  clear nFT
  have BT := nBT
  clear nBT
  have BE := nBE
  clear nBE
  have FP := nFP
  clear nFP
  have BP := nBP
  clear nBP
  have FQ := nFQ
  clear nFQ
  have BQ := nBQ
  clear nBQ
  have FD := nFD
  clear nFD
  have BD := nBD
  clear nBD
  have BW := nBW
  have HI5 := nHI5
  clear nBW nHI5
  clear hb
  have hpg : pageAtT f1 n1 ⟨key, 77⟩ = (PN, 0) := HPN.out
  rw [hpg]
  clear hpg
  have HZ1 : Hid ((sizeP f1 : Int) = (sizeP f : Int) + 1) := by
    show (sizeP f1 : Int) = (sizeP f : Int) + 1
    obtain ⟨P, S, e1, e2⟩ := HPS.out
    rw [sizeP_all, sizeP_all, e1, e2]; simp; omega
  have HZ3 : Hid ((sizeP f3 : Int) = (sizeP f : Int)) := by
    show (sizeP f3 : Int) = (sizeP f : Int)
    obtain ⟨P, S, e1, e2⟩ := HPS.out
    obtain ⟨P', S', e3, e4⟩ := HPS3.out
    have h1 := congrArg List.length e2
    have h2 := congrArg List.length e3
    rw [sizeP_all, sizeP_all, e1, e4]
    simp at h1 h2 ⊢; omega
  have HZL : Hid (((allE f1).length : Int) = (sizeP f1 : Int)) := by show ((allE f1).length : Int) = (sizeP f1 : Int); rw [sizeP_all]
  have HSM : Hid (sizeP f ≤ 1000) := by
    show sizeP f ≤ 1000
    have h4 := sumN_le f (fun p hp => (((treeB_iff f next).1 HT.out).2.1 p hp).1) f.length (Nat.le_refl _)
    rw [sumN_all] at h4
    have := HL.out
    omega
  obtain ⟨s0, hs0⟩ : ∃ s : Nat, s = sizeP f := ⟨_, rfl⟩
  obtain ⟨s1, hs1⟩ : ∃ s : Nat, s = sizeP f1 := ⟨_, rfl⟩
  obtain ⟨s3, hs3⟩ : ∃ s : Nat, s = sizeP f3 := ⟨_, rfl⟩
  rw [← hs0] at HZ1 HZ3 HSM ⊢
  rw [← hs1] at HZ1 HZL ⊢
  rw [← hs3] at HZ3 ⊢
  clear hs0 hs1 hs3
  have HSE1 : Hid (∀ l ∈ f1, l.es.length ≤ 1048576) := fun l hl => (HSZ1.out l hl).1
  have HOK : Hid (∀ W : World, Below w13.heap.size w13 W → Calls Try.prog 22 #[.agg #[.slice (some ⟨g1, 0, none⟩) f1.length cap1', .int .i64 n1], .agg #[.slice (some ⟨g2, 0, none⟩) f1.length cap2', .int .i64 n1]] W fun e w' => e = .returned (.bool true) ∧ Below W.heap.size W w') := fun W hW => sameTree_any _ _ _ _ f1 n1 W (FP.out.next hW).rowP (FQ.out.next hW).rowP HLE1.out HSE1.out
  have HK1 : Hid (∀ W : World, Below w13.heap.size w13 W → Calls Try.prog 23 #[.agg #[.slice (some ⟨g1, 0, none⟩) f1.length cap1', .int .i64 n1]] W fun e w' => e = .returned (.bool true) ∧ Below W.heap.size W w') := fun W hW => by
    have h := treeOK_any (some ⟨g1, 0, none⟩) cap1' f1 n1 W (FP.out.next hW).rowP HLE1.out HCAP1.out HSZ1.out
    rw [HT1.out] at h; exact h
  have HK3 : Hid (∀ W : World, Below w13.heap.size w13 W → Calls Try.prog 23 #[.agg #[.slice (some ⟨g3, 0, none⟩) f3.length cap3', .int .i64 n3]] W fun e w' => e = .returned (.bool true) ∧ Below W.heap.size W w') := fun W hW => by
    have h := treeOK_any (some ⟨g3, 0, none⟩) cap3' f3 n3 W (FD.out.next hW).rowP HLE3.out HCAP3.out HSZ3.out
    rw [HT3.out] at h; exact h
  have hz1 : (s1 : Int) = (s0 : Int) + 1 := HZ1.out
  have hz3 : (s3 : Int) = (s0 : Int) := HZ3.out
  have hzl : ((allE f1).length : Int) = (s1 : Int) := HZL.out
  have u0 := BP.out.c0
  have v0 := BP.out.c1
  have u1 := BQ.out.c0
  have v1 := BQ.out.c1
  have u2 := BD.out.c0
  have v2 := BD.out.c1
  go_wp2_with fail
  have hzl2 : ((allE f1).length : Int) = (s0 : Int) + 1 := by rw [hzl, hz1]
  have hsm : s0 ≤ 1000 := HSM.out
  clear hz1 hz3 hzl u0 v0 u1 v1 u2 v2
  refine (HOK.out _ (Below.refl _ _)).mono ?_
  rintro e' w14 ⟨rfl, hb⟩
  have u0 := (BP.out.next hb).c0
  have v0 := (BP.out.next hb).c1
  have hB14 : Below w13.heap.size w13 w14 := hb
  clear hb
  go_wp2_with fail
  refine (HK1.out _ hB14).mono ?_
  rintro e' w15 ⟨rfl, hb⟩
  have hB15 := hB14.trans (hb.mono hB14.size)
  clear hb u0 v0 hB14
  have u2 := (BD.out.next hB15).c0
  have v2 := (BD.out.next hB15).c1
  go_wp2_with fail
  refine (HK3.out _ hB15).mono ?_
  rintro e' w16 ⟨rfl, hb⟩
  have hB16 := hB15.trans (hb.mono hB15.size)
  clear hb u2 v2 hB15
  have u0 := (BP.out.next hB16).c0
  have v0 := (BP.out.next hB16).c1
  go_wp2_with fail
  clear u0 v0
  have HI6 : Hid (InE _ _ _) := HI5.out.step hB16
  have BE6 : Hid (B2 _ _ _ _) := BE.out.next hB16
  have BW6 : Hid (Below w.heap.size w w16) := BW.out.trans (hB16.mono BW.out.size)
  obtain ⟨L, hL⟩ : ∃ L, L = allE f1 := ⟨_, rfl⟩
  obtain ⟨d, hd0, hdd⟩ : ∃ d, d < L.length ∧ ∀ j (h : j < L.length), L[j] = (⟨key, 77⟩ : Ent) ↔ j = d := by
    obtain ⟨P, S, _, e2⟩ := HPS.out
    have hno := not_twice HT1.out e2
    rw [← hL] at e2
    subst e2
    exact once_at P S ⟨key, 77⟩ hno
  have hri : ∀ j (h : j + 1 < L.length), lessE L[j] L[j + 1] = true := by
    intro j h
    have h1 := ((chainB_iff e0 (allE f1)).1 ((treeB_iff f1 n1).1 HT1.out).2.2.2.2).2
    rw [← hL] at h1
    exact List.pairwise_iff_getElem.1 h1 j (j + 1) (by omega) h (by omega)
  rw [← hL] at HI6 hzl2 ⊢
  have HD : Hid (∀ j (h : j < L.length), L[j] = (⟨key, 77⟩ : Ent) ↔ j = d) := hdd
  have HRI : Hid (∀ j (h : j + 1 < L.length), lessE L[j] L[j + 1] = true) := hri
  have hLl : L.length ≤ 1001 := by omega
  clear hL hdd hri FT BT BE BP BQ BD FP FQ FD HI5 BW HOK HK1 HK3 hB16 hzl2
  go_loopw [33, 34] (fun fo i wr => ∃ k : Nat, k ≤ L.length ∧ i = .int .i64 k ∧ fo = .int .i64 (if d < k then 1 else 0) ∧ Below w16.heap.size w16 wr) (fun _ i _ => L.length - (intOf i).toNat)
  case atStart => exact ⟨0, Nat.zero_le _, rfl, by simp, Below.refl _ _⟩
  case round =>
    obtain ⟨k, hk, rfl, rfl, hbel⟩ := hrel
    by_cases hlt : k < L.length
    · rcases HI6.out.step hbel with h0 | ⟨b, off, rfl, hbl, hcell⟩
      · omega
      have hk1 : (k : Int) < (L.length : Int) := by omega
      have hnu : Nonempty (Under wr) := ⟨⟨wr, Below.refl _ _⟩⟩
      have hE6 := BE6.out.next hbel
      have t0 : ∀ u : Under wr, u.x.cell? ⟨be, 0, none⟩ = some (.string key) := fun u => (hE6.next u.h).c0
      have t1 : ∀ u : Under wr, u.x.cell? ⟨be, 1, none⟩ = some (.int .i64 77) := fun u => (hE6.next u.h).c1
      obtain ⟨eb, heb⟩ : ∃ e, e = L[k] := ⟨_, rfl⟩
      have q0 : ∀ u : Under wr, u.x.cell? ⟨b, off + k * 2, none⟩ = some (.string eb.key) := fun u => (u.h.cell hbl).trans (by rw [heb]; exact (hcell k hlt).1)
      have q1 : ∀ u : Under wr, u.x.cell? ⟨b, off + k * 2 + 1, none⟩ = some (.int .i64 eb.id) := fun u => (u.h.cell hbl).trans (by rw [heb]; exact (hcell k hlt).2)
      have HDK : Hid (eb = (⟨key, 77⟩ : Ent) ↔ k = d) := by show eb = (⟨key, 77⟩ : Ent) ↔ k = d; rw [heb]; exact HD.out k hlt
      obtain ⟨bq0, hbq⟩ : ∃ bq : Bool, bq = (eb.key.toList == key.toList && eb.id == 77) := ⟨_, rfl⟩
      have HBQ : Hid (bq0 = true ↔ k = d) := by
        show bq0 = true ↔ k = d
        rw [hbq, ent_beq eb ⟨key, 77⟩]; exact HDK.out
      have nq := fun W : World => (eqlEnt4 eb.key key eb.id 77 W).trans (by rw [← hbq])
      obtain ⟨F, hF⟩ : ∃ F : Int, F = if d < k then 1 else 0 := ⟨_, rfl⟩
      have hF2 : 0 ≤ F ∧ F ≤ 1 := by rw [hF]; split <;> omega
      have HF : Hid (F = if d < k then 1 else 0) := hF
      rw [← hF]
      have hF0 := hF2.1
      have hF1 := hF2.2
      clear hF hF2 hbq
      have HDONE : True := trivial
      rcases Nat.eq_zero_or_pos k with hk0 | hk0
      · subst hk0
        clear hcell heb
        have q0 : ∀ u : Under wr, u.x.cell? ⟨b, off, none⟩ = some (.string eb.key) := by simpa using q0
        have q1 : ∀ u : Under wr, u.x.cell? ⟨b, off + 1, none⟩ = some (.int .i64 eb.id) := by simpa using q1
        go_wp2_with fail
        refine wp_region_under (by kernel_rfl) (by kernel_rfl) ?_
        repeat (go_big_quiet_step (fail))
        refine wpQuiet_nil ?_
        rintro _ ⟨u1, rfl⟩
        go_wp2_with fail
        have hnu1 : Nonempty (Under u1.x) := ⟨⟨u1.x, Below.refl _ _⟩⟩
        have s0' : ∀ u : Under u1.x, u.x.cell? ⟨be, 0, none⟩ = some (.string key) := fun u => t0 ⟨u.x, u1.h.trans (u.h.mono u1.h.size)⟩
        have s1' : ∀ u : Under u1.x, u.x.cell? ⟨be, 1, none⟩ = some (.int .i64 77) := fun u => t1 ⟨u.x, u1.h.trans (u.h.mono u1.h.size)⟩
        have m0 : ∀ u : Under u1.x, u.x.cell? ⟨b, off, none⟩ = some (.string eb.key) := fun u => q0 ⟨u.x, u1.h.trans (u.h.mono u1.h.size)⟩
        have m1 : ∀ u : Under u1.x, u.x.cell? ⟨b, off + 1, none⟩ = some (.int .i64 eb.id) := fun u => q1 ⟨u.x, u1.h.trans (u.h.mono u1.h.size)⟩
        clear t0 t1 q0 q1
        refine wp_region_under (by kernel_rfl) (by kernel_rfl) ?_
        repeat (go_big_quiet_step (fail))
        refine wpQuiet_nil ?_
        rintro _ ⟨u2, rfl⟩
        have hbz : Below w16.heap.size w16 u2.x := (hbel.trans (u1.h.mono hbel.size)).trans (u2.h.mono (Nat.le_trans hbel.size u1.h.size))
        cases bq0
        · have hkd : ¬ 0 = d := fun h => by have := HBQ.out.2 h; cases this
          go_wp2_with fail
          go_roundw
          case rel => exact ⟨0 + 1, by omega, by go_num, by rw [HF.out]; (congr 1; (repeat' split) <;> omega), hbz⟩
          case measure => simp [intOf]; omega
        · have hkd : 0 = d := HBQ.out.1 rfl
          go_wp2_with fail
          go_roundw
          case rel => exact ⟨0 + 1, by omega, by go_num, by (have hf := HF.out; rw [if_neg (by omega)] at hf; rw [hf, if_pos (by omega)]; first | rfl | simp), hbz⟩
          case measure => simp [intOf]; omega
      · obtain ⟨j, rfl⟩ : ∃ j, k = j + 1 := ⟨k - 1, by omega⟩
        obtain ⟨ea, hea⟩ : ∃ e, e = L[j] := ⟨_, rfl⟩
        have r0 : ∀ u : Under wr, u.x.cell? ⟨b, off + j * 2, none⟩ = some (.string ea.key) := fun u => (u.h.cell hbl).trans (by rw [hea]; exact (hcell j (by omega)).1)
        have r1 : ∀ u : Under wr, u.x.cell? ⟨b, off + j * 2 + 1, none⟩ = some (.int .i64 ea.id) := fun u => (u.h.cell hbl).trans (by rw [hea]; exact (hcell j (by omega)).2)
        have hless : lessE ea eb = true := by rw [hea, heb]; exact HRI.out j hlt
        have hj1 : (j : Int) < (L.length : Int) := by omega
        have hj2 : (0 : Int) < (j : Int) + 1 := by omega
        clear hcell heb hea
        unfold lessE at hless
        cases hab : Op.bytesLess ea.key.toList eb.key.toList
        · rw [hab, Bool.false_or, Bool.and_eq_true, decide_eq_true_eq] at hless
          obtain ⟨hke, hid⟩ := hless
          have hba : Op.bytesLess eb.key.toList ea.key.toList = false := by
            have h2 := (eqL _ _).1 hke
            rw [h2]; exact less_irrefl _
          have hid2 : ¬ eb.id ≤ ea.id := by omega
          have hke2 : (eb.key.toList == ea.key.toList) = true := by
            have h2 := (eqL _ _).1 hke
            rw [h2]; simp
          clear hid
          go_wp2_with fail
          refine wp_region_under (by kernel_rfl) (by kernel_rfl) ?_
          repeat (go_big_quiet_step (fail))
          refine wpQuiet_nil ?_
          rintro _ ⟨u1, rfl⟩
          go_wp2_with fail
          have hnu1 : Nonempty (Under u1.x) := ⟨⟨u1.x, Below.refl _ _⟩⟩
          have s0' : ∀ u : Under u1.x, u.x.cell? ⟨be, 0, none⟩ = some (.string key) := fun u => t0 ⟨u.x, u1.h.trans (u.h.mono u1.h.size)⟩
          have s1' : ∀ u : Under u1.x, u.x.cell? ⟨be, 1, none⟩ = some (.int .i64 77) := fun u => t1 ⟨u.x, u1.h.trans (u.h.mono u1.h.size)⟩
          have m0 : ∀ u : Under u1.x, u.x.cell? ⟨b, off + (j + 1) * 2, none⟩ = some (.string eb.key) := fun u => q0 ⟨u.x, u1.h.trans (u.h.mono u1.h.size)⟩
          have m1 : ∀ u : Under u1.x, u.x.cell? ⟨b, off + (j + 1) * 2 + 1, none⟩ = some (.int .i64 eb.id) := fun u => q1 ⟨u.x, u1.h.trans (u.h.mono u1.h.size)⟩
          clear t0 t1 q0 q1 r0 r1
          refine wp_region_under (by kernel_rfl) (by kernel_rfl) ?_
          repeat (go_big_quiet_step (fail))
          refine wpQuiet_nil ?_
          rintro _ ⟨u2, rfl⟩
          have hbz : Below w16.heap.size w16 u2.x := (hbel.trans (u1.h.mono hbel.size)).trans (u2.h.mono (Nat.le_trans hbel.size u1.h.size))
          cases bq0
          · have hkd : ¬ (j + 1) = d := fun h => by have := HBQ.out.2 h; cases this
            go_wp2_with fail
            go_roundw
            case rel => exact ⟨(j + 1) + 1, by omega, by go_num, by rw [HF.out]; (congr 1; (repeat' split) <;> omega), hbz⟩
            case measure => simp [intOf]; omega
          · have hkd : (j + 1) = d := HBQ.out.1 rfl
            go_wp2_with fail
            go_roundw
            case rel => exact ⟨(j + 1) + 1, by omega, by go_num, by (have hf := HF.out; rw [if_neg (by omega)] at hf; rw [hf, if_pos (by omega)]; first | rfl | simp), hbz⟩
            case measure => simp [intOf]; omega
        · clear hless
          have hke : (ea.key.toList == eb.key.toList) = false := by
            rw [Bool.eq_false_iff]; intro h
            have h2 := (eqL _ _).1 h
            rw [h2, less_irrefl] at hab; cases hab
          go_wp2_with fail
          refine wp_region_under (by kernel_rfl) (by kernel_rfl) ?_
          repeat (go_big_quiet_step (fail))
          refine wpQuiet_nil ?_
          rintro _ ⟨u1, rfl⟩
          go_wp2_with fail
          have hnu1 : Nonempty (Under u1.x) := ⟨⟨u1.x, Below.refl _ _⟩⟩
          have s0' : ∀ u : Under u1.x, u.x.cell? ⟨be, 0, none⟩ = some (.string key) := fun u => t0 ⟨u.x, u1.h.trans (u.h.mono u1.h.size)⟩
          have s1' : ∀ u : Under u1.x, u.x.cell? ⟨be, 1, none⟩ = some (.int .i64 77) := fun u => t1 ⟨u.x, u1.h.trans (u.h.mono u1.h.size)⟩
          have m0 : ∀ u : Under u1.x, u.x.cell? ⟨b, off + (j + 1) * 2, none⟩ = some (.string eb.key) := fun u => q0 ⟨u.x, u1.h.trans (u.h.mono u1.h.size)⟩
          have m1 : ∀ u : Under u1.x, u.x.cell? ⟨b, off + (j + 1) * 2 + 1, none⟩ = some (.int .i64 eb.id) := fun u => q1 ⟨u.x, u1.h.trans (u.h.mono u1.h.size)⟩
          clear t0 t1 q0 q1 r0 r1
          refine wp_region_under (by kernel_rfl) (by kernel_rfl) ?_
          repeat (go_big_quiet_step (fail))
          refine wpQuiet_nil ?_
          rintro _ ⟨u2, rfl⟩
          have hbz : Below w16.heap.size w16 u2.x := (hbel.trans (u1.h.mono hbel.size)).trans (u2.h.mono (Nat.le_trans hbel.size u1.h.size))
          cases bq0
          · have hkd : ¬ (j + 1) = d := fun h => by have := HBQ.out.2 h; cases this
            go_wp2_with fail
            go_roundw
            case rel => exact ⟨(j + 1) + 1, by omega, by go_num, by rw [HF.out]; (congr 1; (repeat' split) <;> omega), hbz⟩
            case measure => simp [intOf]; omega
          · have hkd : (j + 1) = d := HBQ.out.1 rfl
            go_wp2_with fail
            go_roundw
            case rel => exact ⟨(j + 1) + 1, by omega, by go_num, by (have hf := HF.out; rw [if_neg (by omega)] at hf; rw [hf, if_pos (by omega)]; first | rfl | simp), hbz⟩
            case measure => simp [intOf]; omega
    · have hlt2 : ¬ (k : Int) < (L.length : Int) := by omega
      have hdk : d < k := by omega
      have hbz := BW6.out.trans (hbel.mono BW6.out.size)
      rw [if_pos hdk]
      go_wp2_with fail
      go_ret
      exact ⟨rfl, hbz⟩
end Go.Proofs.Ytnmpfooegnmknaa.TreeLaw
