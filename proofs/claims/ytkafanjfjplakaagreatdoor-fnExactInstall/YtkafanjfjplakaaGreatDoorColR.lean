/- Marks that are held: what the laws' helpers on versions, parts, chains, definitions and collections answer. -/
import Derived.Test.YtkafanjfjplakaaGreatDoorColH
namespace Go.Proofs.YtkafanjfjplakaaGreatDoor.Co
open Go.RowKit Tr
set_option linter.unusedVariables false

set_option maxRecDepth 4000 in
set_option maxHeartbeats 2000000 in
theorem heldVersionS_any (a : Option Addr) (c n : Nat) (q : Nat) (w : World) (hr : InVr w a (marksVr q n)) (h1 : 1 ≤ q) (h2 : q + 5 * n ≤ 17592186044416) (hl : n ≤ 1048576) :
    Calls Tryz.prog 116 #[.slice a n c, .int .i64 q] w fun e w' => e = .returned (.int .i64 ((q + 5 * n : Nat) : Int)) ∧ Below w.heap.size w w' := by
  have HR : Hid (InVr _ _ _) := hr
  clear hr
  go_enter Tryz.func116, Tryz.ntmps116
  go_wp2_with fail
  go_loopw [1, 5] (fun x i wr => ∃ k E : Nat, k ≤ n ∧ i = .int .i64 k ∧ x = .int .i64 (E : Int) ∧ E = q + 5 * k ∧ Below w.heap.size w wr) (fun _ i _ => n - (intOf i).toNat)
  case atStart => exact ⟨0, q, Nat.zero_le _, rfl, rfl, by omega, Below.refl _ _⟩
  case round =>
    obtain ⟨k, E, hk, rfl, rfl, hE, hbel⟩ := hrel
    have hz := hbel.size
    by_cases hlt : k < n
    · rcases HR.out.step hbel with h0 | ⟨g, o1, rfl, l1, x⟩
      · rw [marksVr_len] at h0; omega
      have x' := x k (by rw [marksVr_len]; exact hlt)
      simp only [marksVr_get] at x'
      rw [← hE] at x'
      have hk1 : (k : Int) < (n : Int) := by omega
      obtain ⟨B, hB⟩ : ∃ B : Bool, B = boolM ((E : Int) + 1) := ⟨_, rfl⟩
      have hB' : (((E : Int) + 1) % 3 == 0) = B := by rw [hB]; rfl
      have hT' : Int.tmod ((E : Int) + 1) 3 = ((E : Int) + 1) % 3 := Int.tmod_eq_emod_of_nonneg (by omega)
      have HEQ : Hid (E = q + 5 * k) := hE
      have hEb : E ≤ 17592186044411 := by omega
      have hE1 : 1 ≤ E := by omega
      obtain ⟨x0, x1, x2, x3, x4⟩ := x'
      replace x0 : wr.cell? ⟨g, o1 + k * 5, none⟩ = some (.int .i64 (E : Int)) := x0
      replace x1 : wr.cell? ⟨g, o1 + k * 5 + 1, none⟩ = some (.bool B) := by rw [hB]; exact x1
      replace x2 : wr.cell? ⟨g, o1 + k * 5 + 2, none⟩ = some (.int .i64 ((E : Int) + 1 + 1)) := x2
      replace x3 : wr.cell? ⟨g, o1 + k * 5 + 3, none⟩ = some (.int .i64 ((E : Int) + 1 + 1 + 1)) := x3
      obtain ⟨T, hT⟩ : ∃ T, T = Tr.mt (E + 4) := ⟨_, rfl⟩
      replace x4 : wr.cell? ⟨g, o1 + k * 5 + 4, none⟩ = some (.string T) := by rw [hT]; exact x4
      have HM : Hid (∀ (z : Int) (_ : z = ((E + 4 : Nat) : Int)) (W : World), Calls Tryz.prog 114 #[.int .i64 z] W fun e w' => e = .returned (.string T) ∧ Below W.heap.size W w') := fun z hz W => by rw [hT]; exact markText_at (E + 4) z hz (by omega) (by omega) W
      clear hT
      clear x hB hE
      have hnu : Nonempty (Under wr) := ⟨⟨wr, Below.refl _ _⟩⟩
      have q4 : ∀ u : Under wr, u.x.cell? ⟨g, o1 + k * 5 + 4, none⟩ = some (.string T) := fun u => (u.h.cell l1).trans x4
      go_wp2_with fail
      refine wp_region_under (by kernel_rfl) (by kernel_rfl) ?_
      repeat (go_big_quiet_step ((go_at_call 114; exact calls_under _ (HM.out _ (by omega) _))))
      refine wpQuiet_nil ?_
      rintro _ ⟨u, rfl⟩
      go_wp2_with fail
      go_roundw
      case rel => exact ⟨k + 1, E + 5, by omega, by go_num, by go_num, by have := HEQ.out; omega, hbel.trans (u.h.mono hbel.size)⟩
      case measure => simp [intOf]; omega
    · obtain rfl : k = n := by omega
      subst hE
      go_wp2_with fail
      go_ret
      exact ⟨rfl, hbel⟩
set_option maxRecDepth 4000 in
set_option maxHeartbeats 2000000 in
theorem heldPartS_any (a : Option Addr) (c n : Nat) (q : Nat) (w : World) (hr : InD w a (marksPt q n)) (h1 : 1 ≤ q) (h2 : q + 2 * n ≤ 17592186044416) (hl : n ≤ 1048576) :
    Calls Tryz.prog 117 #[.slice a n c, .int .i64 q] w fun e w' => e = .returned (.int .i64 ((q + 2 * n : Nat) : Int)) ∧ Below w.heap.size w w' := by
  have HR : Hid (InD _ _ _) := hr
  clear hr
  go_enter Tryz.func117, Tryz.ntmps117
  go_wp2_with fail
  go_loopw [1, 5] (fun x i wr => ∃ k E : Nat, k ≤ n ∧ i = .int .i64 k ∧ x = .int .i64 (E : Int) ∧ E = q + 2 * k ∧ Below w.heap.size w wr) (fun _ i _ => n - (intOf i).toNat)
  case atStart => exact ⟨0, q, Nat.zero_le _, rfl, rfl, by omega, Below.refl _ _⟩
  case round =>
    obtain ⟨k, E, hk, rfl, rfl, hE, hbel⟩ := hrel
    have hz := hbel.size
    by_cases hlt : k < n
    · rcases HR.out.step hbel with h0 | ⟨g, o1, rfl, l1, x⟩
      · rw [marksPt_len] at h0; omega
      have x' := x k (by rw [marksPt_len]; exact hlt)
      simp only [marksPt_get] at x'
      rw [← hE] at x'
      have hk1 : (k : Int) < (n : Int) := by omega
      obtain ⟨B, hB⟩ : ∃ B : Bool, B = boolM ((E : Int) + 1) := ⟨_, rfl⟩
      have hB' : (((E : Int) + 1) % 3 == 0) = B := by rw [hB]; rfl
      have hT' : Int.tmod ((E : Int) + 1) 3 = ((E : Int) + 1) % 3 := Int.tmod_eq_emod_of_nonneg (by omega)
      have HEQ : Hid (E = q + 2 * k) := hE
      have hEb : E ≤ 17592186044414 := by omega
      have hE1 : 1 ≤ E := by omega
      obtain ⟨x0, x1⟩ := x'
      obtain ⟨T, hT⟩ : ∃ T, T = Tr.mt E := ⟨_, rfl⟩
      replace x0 : wr.cell? ⟨g, o1 + k * 2, none⟩ = some (.string T) := by rw [hT]; exact x0
      replace x1 : wr.cell? ⟨g, o1 + k * 2 + 1, none⟩ = some (.bool B) := by rw [hB]; exact x1
      have HM : Hid (∀ (W : World), Calls Tryz.prog 114 #[.int .i64 (E : Int)] W fun e w' => e = .returned (.string T) ∧ Below W.heap.size W w') := fun W => by rw [hT]; exact markText_at E _ rfl (by omega) (by omega) W
      clear hT
      clear x hB hE
      have hnu : Nonempty (Under wr) := ⟨⟨wr, Below.refl _ _⟩⟩
      have q0 : ∀ u : Under wr, u.x.cell? ⟨g, o1 + k * 2, none⟩ = some (.string T) := fun u => (u.h.cell l1).trans x0
      have q1 : ∀ u : Under wr, u.x.cell? ⟨g, o1 + k * 2 + 1, none⟩ = some (.bool B) := fun u => (u.h.cell l1).trans x1
      go_wp2_with fail
      refine wp_region_under (by kernel_rfl) (by kernel_rfl) ?_
      repeat (go_big_quiet_step ((go_at_call 114; exact calls_under _ (HM.out _))))
      refine wpQuiet_nil ?_
      rintro _ ⟨u, rfl⟩
      have q2 := q1 u
      go_wp2_with fail
      go_roundw
      case rel => exact ⟨k + 1, E + 2, by omega, by go_num, by go_num, by have := HEQ.out; omega, hbel.trans (u.h.mono hbel.size)⟩
      case measure => simp [intOf]; omega
    · obtain rfl : k = n := by omega
      subst hE
      go_wp2_with fail
      go_ret
      exact ⟨rfl, hbel⟩

set_option maxRecDepth 4000 in
set_option maxHeartbeats 2000000 in
theorem heldChainS_any (a : Option Addr) (c : Nat) (f : List Chn) (q : Nat) (w : World) (hr : RowCh w a (marksCh q f)) (h1 : 1 ≤ q) (h2 : q ≤ 1000) (hl : f.length ≤ 1048576) (hs : ∀ p ∈ f, p.vs.length ≤ 1048576) :
    Calls Tryz.prog 60 #[.slice a f.length c, .int .i64 q] w fun e w' => e = .returned (.int .i64 ((endCh q f : Nat) : Int)) ∧ Below w.heap.size w w' := by
  have HR : Hid (RowCh _ _ _) := hr
  have HS : Hid _ := hs
  clear hr hs
  go_enter Tryz.func60, Tryz.ntmps60
  go_wp2_with fail
  go_loopw [1, 5] (fun x i wr => ∃ k : Nat, k ≤ f.length ∧ i = .int .i64 k ∧ x = .int .i64 ((endCh q (f.take k) : Nat) : Int) ∧ Below w.heap.size w wr) (fun _ i _ => f.length - (intOf i).toNat)
  case atStart => exact ⟨0, Nat.zero_le _, rfl, rfl, Below.refl _ _⟩
  case round =>
    obtain ⟨k, hk, rfl, rfl, hbel⟩ := hrel
    have hz := hbel.size
    have hen1 := endCh_ge q (f.take k)
    have hen2 := endCh_le q (f.take k) (fun p hp => HS.out p (List.mem_of_mem_take hp))
    have hen3 : (f.take k).length ≤ 1048576 := by rw [List.length_take]; omega
    have hen4 : (f.take k).length * 5242881 ≤ 1048576 * 5242881 := Nat.mul_le_mul_right _ hen3
    by_cases hlt : k < f.length
    · rcases HR.out.next hbel with h0 | ⟨g, rfl, R⟩
      · rw [← List.length_eq_zero_iff, marksCh_len] at h0; omega
      have hlt2 : (k : Int) < (f.length : Int) := by omega
      have hsk := HS.out f[k] (List.getElem_mem _)
      have hkm : k < (marksCh q f).length := by rw [marksCh_len]; exact hlt
      obtain ⟨x0, pa, ca, x1, t1⟩ := R.cells k hkm
      have hget : (marksCh q f)[k] = ⟨(endCh q (f.take k) : Nat), marksVr (endCh q (f.take k) + 1) f[k].vs.length⟩ := by
        have e : (marksCh q f)[k]? = some ⟨(endCh q (f.take k) : Nat), marksVr (endCh q (f.take k) + 1) f[k].vs.length⟩ := by
          conv => lhs; rw [← List.take_append_drop k f, marksCh_app]
          have hl' : (marksCh q (f.take k)).length = k := by rw [marksCh_len, List.length_take]; omega
          rw [List.getElem?_append_right (by omega), hl', Nat.sub_self, List.drop_eq_getElem_cons hlt]; rfl
        rw [List.getElem?_eq_getElem hkm] at e
        exact Option.some.inj e
      rw [hget] at x0 x1 t1
      simp only [marksVr_len] at x0 x1 t1
      have hsu := endCh_succ q f k hlt
      obtain ⟨E, hE⟩ : ∃ E, E = endCh q (f.take k) := ⟨_, rfl⟩
      rw [← hE] at hen1 hen2 hsu x0 t1 ⊢
      have HM0 := heldVersionS_any pa ca f[k].vs.length (E + 1) wr t1 (by omega) (by omega) hsk
      rw [show ((E + 1 : Nat) : Int) = (E : Int) + 1 by omega] at HM0
      have HM : Hid (Calls _ _ _ _ _) := HM0
      have HSU : Hid _ := hsu
      have hEb : E ≤ 6000000000000 := by omega
      clear R t1 hget hsu hE hen2 hen3 hen4 HM0
      go_wp2_with fail
      refine HM.out.mono ?_
      rintro e w3 ⟨rfl, hb3⟩
      have hb4 := hbel.trans (hb3.mono hbel.size)
      clear hb3 HM
      go_wp2_with fail
      go_roundw
      case rel => exact ⟨k + 1, by omega, by go_num, by rw [HSU.out]; go_num, hb4⟩
      case measure => simp [intOf]; omega
    · obtain rfl : k = f.length := by omega
      rw [List.take_length] at *
      go_wp2_with fail
      go_ret
      exact ⟨rfl, hbel⟩


set_option maxRecDepth 4000 in
set_option maxHeartbeats 2000000 in
theorem heldDefS_any (a : Option Addr) (c : Nat) (f : List Dfn) (q : Nat) (w : World) (hr : RowDf w a (marksDf q f)) (h1 : 1 ≤ q) (h2 : q ≤ 6000000000000) (hl : f.length ≤ 1048576) (hs : ∀ p ∈ f, p.ps.length ≤ 1048576) :
    Calls Tryz.prog 61 #[.slice a f.length c, .int .i64 q] w fun e w' => e = .returned (.int .i64 ((endDf q f : Nat) : Int)) ∧ Below w.heap.size w w' := by
  have HR : Hid (RowDf _ _ _) := hr
  have HS : Hid _ := hs
  clear hr hs
  go_enter Tryz.func61, Tryz.ntmps61
  go_wp2_with fail
  go_loopw [1, 5] (fun x i wr => ∃ k : Nat, k ≤ f.length ∧ i = .int .i64 k ∧ x = .int .i64 ((endDf q (f.take k) : Nat) : Int) ∧ Below w.heap.size w wr) (fun _ i _ => f.length - (intOf i).toNat)
  case atStart => exact ⟨0, Nat.zero_le _, rfl, rfl, Below.refl _ _⟩
  case round =>
    obtain ⟨k, hk, rfl, rfl, hbel⟩ := hrel
    have hz := hbel.size
    have hen1 := endDf_ge q (f.take k)
    have hen2 := endDf_le q (f.take k) (fun p hp => HS.out p (List.mem_of_mem_take hp))
    have hen3 : (f.take k).length ≤ 1048576 := by rw [List.length_take]; omega
    have hen4 : (f.take k).length * 2097153 ≤ 1048576 * 2097153 := Nat.mul_le_mul_right _ hen3
    by_cases hlt : k < f.length
    · rcases HR.out.next hbel with h0 | ⟨g, rfl, R⟩
      · rw [← List.length_eq_zero_iff, marksDf_len] at h0; omega
      have hlt2 : (k : Int) < (f.length : Int) := by omega
      have hsk := HS.out f[k] (List.getElem_mem _)
      have hkm : k < (marksDf q f).length := by rw [marksDf_len]; exact hlt
      obtain ⟨x0, pa, ca, x1, _, t1'⟩ := R.cells k hkm
      have t1 := RowD.inD t1'
      clear t1'
      have hget : (marksDf q f)[k] = ⟨Tr.mt (endDf q (f.take k)), marksPt (endDf q (f.take k) + 1) f[k].ps.length⟩ := by
        have e : (marksDf q f)[k]? = some ⟨Tr.mt (endDf q (f.take k)), marksPt (endDf q (f.take k) + 1) f[k].ps.length⟩ := by
          conv => lhs; rw [← List.take_append_drop k f, marksDf_app]
          have hl' : (marksDf q (f.take k)).length = k := by rw [marksDf_len, List.length_take]; omega
          rw [List.getElem?_append_right (by omega), hl', Nat.sub_self, List.drop_eq_getElem_cons hlt]; rfl
        rw [List.getElem?_eq_getElem hkm] at e
        exact Option.some.inj e
      rw [hget] at x0 x1 t1
      simp only [marksPt_len] at x0 x1 t1
      have hsu := endDf_succ q f k hlt
      obtain ⟨E, hE⟩ : ∃ E, E = endDf q (f.take k) := ⟨_, rfl⟩
      rw [← hE] at hen1 hen2 hsu x0 t1 ⊢
      have HM : Hid (∀ W : World, Below wr.heap.size wr W → Calls Tryz.prog 117 #[.slice pa f[k].ps.length ca, .int .i64 ((E : Int) + 1)] W fun e w' => e = .returned (.int .i64 ((E + 1 + 2 * f[k].ps.length : Nat) : Int)) ∧ Below W.heap.size W w') := fun W hW => heldPartS_any pa ca f[k].ps.length (E + 1) W (t1.step hW) (by omega) (by omega) hsk
      have HSU : Hid _ := hsu
      have hEb : E ≤ 9000000000000 := by omega
      have hgl := R.lt
      obtain ⟨T, hT⟩ : ∃ T, T = Tr.mt E := ⟨_, rfl⟩
      rw [← hT] at x0
      have HMT : Hid (∀ (W : World), Calls Tryz.prog 114 #[.int .i64 (E : Int)] W fun e w' => e = .returned (.string T) ∧ Below W.heap.size W w') := fun W => by rw [hT]; exact markText_at E _ rfl (by omega) (by omega) W
      have r0 : ∀ u : Under wr, u.x.cell? ⟨g, k * 2, none⟩ = some (.string T) := fun u => (u.h.cell hgl).trans x0
      have r1 : ∀ u : Under wr, u.x.cell? ⟨g, k * 2 + 1, none⟩ = some (.slice pa f[k].ps.length ca) := fun u => (u.h.cell hgl).trans x1
      have hnu : Nonempty (Under wr) := ⟨⟨wr, Below.refl _ _⟩⟩
      clear R t1 hget hsu hE hen2 hen3 hen4 hT
      go_wp2_with fail
      refine wp_region_under (by kernel_rfl) (by kernel_rfl) ?_
      repeat (go_big_quiet_step ((go_at_call 114; exact calls_under _ (HMT.out _))))
      refine wpQuiet_nil ?_
      rintro _ ⟨u, rfl⟩
      have s1 := r1 u
      go_wp2_with fail
      refine (HM.out _ u.h).mono ?_
      rintro e w3 ⟨rfl, hb3'⟩
      have hb3 := u.h.trans (hb3'.mono u.h.size)
      clear hb3'
      have hb4 := hbel.trans (hb3.mono hbel.size)
      clear hb3 HM
      go_wp2_with fail
      go_roundw
      case rel => exact ⟨k + 1, by omega, by go_num, by rw [HSU.out]; go_num, hb4⟩
      case measure => simp [intOf]; omega
    · obtain rfl : k = f.length := by omega
      rw [List.take_length] at *
      go_wp2_with fail
      go_ret
      exact ⟨rfl, hbel⟩


set_option maxRecDepth 4000 in
set_option maxHeartbeats 2000000 in
theorem heldColl_any (n : ByteArray) (p q : Option Addr) (c d : Nat) (chs : List Chn) (dfs : List Dfn) (w : World) (h1 : RowCh w p (marksCh 1 chs)) (h2 : RowDf w q (marksDf (endCh 1 chs) dfs)) (hcl : chs.length ≤ 1048576) (hcs : ∀ p ∈ chs, p.vs.length ≤ 1048576) (hdl : dfs.length ≤ 1048576) (hds : ∀ p ∈ dfs, p.ps.length ≤ 1048576) :
    Calls Tryz.prog 15 #[.agg #[.string n, .slice p chs.length c, .slice q dfs.length d], .int .i64 1] w fun e w' => e = .returned (.int .i64 ((endDf (endCh 1 chs) dfs : Nat) : Int)) ∧ Below w.heap.size w w' := by
  have X0 := Boxed.start w (.string n) (.slice p chs.length c) (.slice q dfs.length d) 30
  have HC : Hid (Calls _ _ _ _ _) := heldChainS_any p c chs 1 _ (h1.next X0.bel) (by omega) (by omega) hcl hcs
  have hen := endCh_le 1 chs hcs
  have hen1 := endCh_ge 1 chs
  have hen4 : chs.length * 5242881 ≤ 1048576 * 5242881 := Nat.mul_le_mul_right _ hcl
  have HD : Hid (∀ W : World, Below w.heap.size w W → Calls _ _ _ W _) := fun W hW => heldDefS_any q d dfs (endCh 1 chs) W (h2.next hW) hen1 (by omega) hdl hds
  obtain ⟨E, hE⟩ : ∃ E, E = endCh 1 chs := ⟨_, rfl⟩
  rw [← hE] at HC HD hen hen1 ⊢
  have hEb : E ≤ 6000000000000 := by omega
  have hE0 : ¬ ((E : Nat) : Int) < 0 := by omega
  obtain ⟨M, hM⟩ : ∃ M, M = endDf E dfs := ⟨_, rfl⟩
  rw [← hM] at HD ⊢
  have hM0 : ¬ ((M : Nat) : Int) < 0 := by omega
  clear h1 h2 hcs hds hE hen hen4 hM
  go_enter Tryz.func15, Tryz.ntmps15
  go_wp2_with fail
  refine HC.out.mono ?_
  rintro e w1 ⟨rfl, hb⟩
  have X1 := X0.step hb
  have c2 := X1.c2
  clear hb HC X0
  go_wp2_with fail
  refine (HD.out _ X1.bel).mono ?_
  rintro e w2 ⟨rfl, hb⟩
  have hbw := (X1.step hb).bel
  clear hb HD
  go_wp2_with fail
  go_ret
  exact ⟨rfl, hbw⟩

end Go.Proofs.YtkafanjfjplakaaGreatDoor.Co
