/- How many versions a collection has: what the program and the specification answer. -/
import Derived.Test.YtmchpaccdnnilaaGreatDoorColCQ
namespace Go.Proofs.YtmchpaccdnnilaaGreatDoor.Co
open Go.RowKit Tr
set_option linter.unusedVariables false

def versN (l : List Chn) : Nat := (l.map (fun c => c.vs.length)).sum
theorem versN_take (l : List Chn) (k : Nat) (h : k < l.length) : versN (l.take (k + 1)) = versN (l.take k) + l[k].vs.length := by
  unfold versN; rw [List.take_succ_eq_append_getElem h, List.map_append, List.sum_append]; simp
theorem versN_le : ∀ (l : List Chn), (∀ c ∈ l, c.vs.length ≤ 12) → versN l ≤ 12 * l.length
  | [], _ => by simp [versN]
  | c :: r, h => by
    have h1 := h c (by simp)
    have h2 := versN_le r (fun x hx => h x (by simp [hx]))
    unfold versN at *
    rw [List.map_cons, List.sum_cons, List.length_cons]; omega
theorem chsB_all : ∀ (l : List Chn) (last : Int), chsB last l = true → ∀ c ∈ l, topB c.id = true ∧ chnB c = true
  | [], _, _, c, hc => by simp at hc
  | x :: r, last, h, c, hc => by
    rw [chsB] at h
    simp only [Bool.and_eq_true] at h
    obtain ⟨_, a2, a3, a4⟩ := h
    rcases List.mem_cons.mp hc with rfl | hc
    · exact ⟨a2, a3⟩
    · exact chsB_all r x.id a4 c hc
theorem collB_parts {c : Col} (h : collB c = true) : shortB c.name = true ∧ dfsB c.dfs = true ∧ chsB (-1) c.chs = true ∧ c.chs.length ≤ 20 ∧ c.dfs.length ≤ 3 ∧ ∀ x ∈ c.chs, topB x.id = true ∧ 1 ≤ x.vs.length ∧ x.vs.length ≤ 12 ∧ versB x.id 0 x.vs = true := by
  unfold collB at h
  simp only [Bool.and_eq_true] at h
  obtain ⟨h1, h2, h3⟩ := h
  have hl := chsB_len c.chs (-1) (by omega) (by omega) h3
  have hd : c.dfs.length ≤ 3 := by unfold dfsB at h2; simp only [Bool.and_eq_true, decide_eq_true_eq] at h2; exact h2.1
  refine ⟨h1, h2, h3, by omega, hd, fun x hx => ?_⟩
  obtain ⟨a, b⟩ := chsB_all c.chs (-1) h3 x hx
  unfold chnB at b
  simp only [Bool.and_eq_true, decide_eq_true_eq] at b
  exact ⟨a, b.1.1, b.1.2, b.2⟩
theorem versN_small {c : Col} (h : collB c = true) (k : Nat) : versN (c.chs.take k) ≤ 240 := by
  obtain ⟨_, _, _, hl, _, ha⟩ := collB_parts h
  have := versN_le (c.chs.take k) (fun x hx => (ha x (List.mem_of_mem_take hx)).2.2.1)
  rw [List.length_take] at this
  omega
def versR (c : Col) : Int × Int := if collB c = true then (((versN c.chs : Nat) : Int), 0) else (0, 1)

set_option maxRecDepth 4000 in
set_option maxHeartbeats 1000000 in
theorem versionsOf_any (c : Col) (p q : Option Addr) (cp cq : Nat) (w : World) (hp : InCh w p c.chs) (hq : RowDf w q c.dfs) (hs : SzCol c) :
    Calls Tryz.prog 31 #[.agg #[.string c.name, .slice p c.chs.length cp, .slice q c.dfs.length cq]] w fun e w' => e = .returned (.tuple #[.int .i64 (versR c).1, .int .i64 (versR c).2]) ∧ Below w.heap.size w w' := by
  have X0 := Boxed.start w (.string c.name) (.slice p c.chs.length cp) (.slice q c.dfs.length cq) 31
  have HC : Hid (Calls _ _ _ _ _) := collOK_any c p q cp cq (w.alloc (.cells #[.string c.name, .slice p c.chs.length cp, .slice q c.dfs.length cq] 31)) (hp.step X0.bel) (hq.next X0.bel) hs
  have HP : Hid (InCh _ _ _) := hp
  clear hp hq hs
  cases hB : collB c
  · have e : versR c = (0, 1) := by unfold versR; rw [hB]; rfl
    rw [e]
    rw [hB] at HC
    clear e hB
    go_enter Tryz.func31, Tryz.ntmps31
    go_wp2_with fail
    refine HC.out.mono ?_
    rintro e w1 ⟨rfl, hb⟩
    have hbw := (X0.step hb).bel
    clear hb
    go_wp2_with fail
    go_ret2
    exact ⟨rfl, hbw⟩
  · have e : versR c = (((versN c.chs : Nat) : Int), 0) := by unfold versR; rw [hB]; rfl
    rw [e]
    have HSM : Hid (∀ k, versN (c.chs.take k) ≤ 240) := fun k => versN_small hB k
    rw [hB] at HC
    have hl20 := (collB_parts hB).2.2.2.1
    have h12 := (collB_parts hB).2.2.2.2.2
    have H12 : Hid (∀ x ∈ c.chs, x.vs.length ≤ 12) := fun x hx => (h12 x hx).2.2.1
    clear e hB h12
    obtain ⟨chs, hchs⟩ : ∃ d, d = c.chs := ⟨_, rfl⟩
    rw [← hchs] at X0 HC HP HSM H12 hl20 ⊢
    clear hchs
    go_enter Tryz.func31, Tryz.ntmps31
    go_wp2_with fail
    refine HC.out.mono ?_
    rintro e w1 ⟨rfl, hb⟩
    have X1 := X0.step hb
    have c1 := X1.c1
    clear hb HC X0
    go_wp2_with fail
    clear c1
    go_loopw [4, 13] (fun u i wr => ∃ k : Nat, k ≤ chs.length ∧ i = .int .i64 k ∧ u = .int .i64 (versN (chs.take k) : Nat) ∧ Below w1.heap.size w1 wr) (fun _ i _ => chs.length - (intOf i).toNat)
    case atStart => exact ⟨0, Nat.zero_le _, rfl, rfl, Below.refl _ _⟩
    case round =>
      obtain ⟨k, hk, rfl, rfl, hbel⟩ := hrel
      have X := X1.step hbel
      have hbw := X.bel
      have hzz := hbel.size
      by_cases hlt : k < chs.length
      · rcases HP.out.step X.bel with h0 | ⟨b, off, rfl, hbl, hcell⟩
        · omega
        obtain ⟨x0, pv, cv, x1, hT⟩ := hcell k hlt
        have hlt2 : (k : Int) < (chs.length : Int) := by omega
        have hst := versN_take chs k hlt
        have hsm := HSM.out k
        have hx12 : chs[k].vs.length ≤ 12 := H12.out chs[k] (List.getElem_mem _)
        obtain ⟨v, hv⟩ : ∃ v, v = chs[k] := ⟨_, rfl⟩
        rw [← hv] at x0 x1 hst hx12
        obtain ⟨z, hz⟩ : ∃ z, z = versN (chs.take k) := ⟨_, rfl⟩
        rw [← hz] at hst hsm ⊢
        have HZ : Hid (versN (chs.take (k + 1)) = z + v.vs.length) := hst
        clear hcell hT hv hz hst
        go_wp2_with fail
        go_roundw
        case rel => exact ⟨k + 1, by omega, by go_num, by rw [HZ.out]; go_num, by (repeat (first | (with_reducible exact Below.refl _ _) | (with_reducible assumption) | (with_reducible apply below_drewN) | (with_reducible apply Below.drew) | ((with_reducible refine Below.setCell ?_ ?_ _); rotate_left; focus (first | (simp; done) | (simp; omega) | omega)) | ((with_reducible refine Below.alloc ?_ ?_ _); rotate_left; focus (first | (simp; done) | (simp; omega) | omega))))⟩
        case measure => simp [intOf]; omega
      · have hlt2 : ¬ (k : Int) < (chs.length : Int) := by omega
        have ht : chs.take k = chs := List.take_of_length_le (by omega)
        rw [ht]
        clear ht
        go_wp2_with fail
        go_ret2
        exact ⟨rfl, hbw⟩
set_option maxRecDepth 4000 in
set_option maxHeartbeats 1000000 in
theorem specVersions_any (c : Col) (p q : Option Addr) (cp cq : Nat) (w : World) (hp : InCh w p c.chs) (hq : RowDf w q c.dfs) (hs : SzCol c) :
    Calls Tryz.prog 30 #[.agg #[.string c.name, .slice p c.chs.length cp, .slice q c.dfs.length cq]] w fun e w' => e = .returned (.tuple #[.int .i64 (versR c).1, .int .i64 (versR c).2]) ∧ Below w.heap.size w w' := by
  have X0 := Boxed.start w (.string c.name) (.slice p c.chs.length cp) (.slice q c.dfs.length cq) 31
  have HC : Hid (Calls _ _ _ _ _) := specColl_any c p q cp cq (w.alloc (.cells #[.string c.name, .slice p c.chs.length cp, .slice q c.dfs.length cq] 31)) (hp.step X0.bel) (hq.next X0.bel) hs
  have HP : Hid (InCh _ _ _) := hp
  clear hp hq hs
  cases hB : collB c
  · have e : versR c = (0, 1) := by unfold versR; rw [hB]; rfl
    rw [e]
    rw [hB] at HC
    clear e hB
    go_enter Tryz.func30, Tryz.ntmps30
    go_wp2_with fail
    refine HC.out.mono ?_
    rintro e w1 ⟨rfl, hb⟩
    have hbw := (X0.step hb).bel
    clear hb
    go_wp2_with fail
    go_ret2
    exact ⟨rfl, hbw⟩
  · have e : versR c = (((versN c.chs : Nat) : Int), 0) := by unfold versR; rw [hB]; rfl
    rw [e]
    have HSM : Hid (∀ k, versN (c.chs.take k) ≤ 240) := fun k => versN_small hB k
    rw [hB] at HC
    have hl20 := (collB_parts hB).2.2.2.1
    have h12 := (collB_parts hB).2.2.2.2.2
    have H12 : Hid (∀ x ∈ c.chs, x.vs.length ≤ 12) := fun x hx => (h12 x hx).2.2.1
    clear e hB h12
    obtain ⟨chs, hchs⟩ : ∃ d, d = c.chs := ⟨_, rfl⟩
    rw [← hchs] at X0 HC HP HSM H12 hl20 ⊢
    clear hchs
    go_enter Tryz.func30, Tryz.ntmps30
    go_wp2_with fail
    refine HC.out.mono ?_
    rintro e w1 ⟨rfl, hb⟩
    have X1 := X0.step hb
    clear hb HC X0
    go_wp2_with fail
    go_loopw [4, 5] (fun u i wr => ∃ k : Nat, k ≤ chs.length ∧ i = .int .i64 k ∧ u = .int .i64 (versN (chs.take k) : Nat) ∧ Below w1.heap.size w1 wr) (fun _ i _ => chs.length - (intOf i).toNat)
    case atStart => exact ⟨0, Nat.zero_le _, rfl, rfl, Below.refl _ _⟩
    case round =>
      obtain ⟨k, hk, rfl, rfl, hbel⟩ := hrel
      have X := X1.step hbel
      have hbw := X.bel
      have c1 := X.c1
      by_cases hlt : k < chs.length
      · rcases HP.out.step X.bel with h0 | ⟨b, off, rfl, hbl, hcell⟩
        · omega
        obtain ⟨x0, pv, cv, x1, hT⟩ := hcell k hlt
        have hlt2 : (k : Int) < (chs.length : Int) := by omega
        have hst := versN_take chs k hlt
        have hsm := HSM.out k
        have hx12 : chs[k].vs.length ≤ 12 := H12.out chs[k] (List.getElem_mem _)
        obtain ⟨v, hv⟩ : ∃ v, v = chs[k] := ⟨_, rfl⟩
        rw [← hv] at x0 x1 hst hx12
        obtain ⟨z, hz⟩ : ∃ z, z = versN (chs.take k) := ⟨_, rfl⟩
        rw [← hz] at hst hsm ⊢
        have HZ : Hid (versN (chs.take (k + 1)) = z + v.vs.length) := hst
        clear hcell hT hv hz hst
        go_wp2_with fail
        go_roundw
        case rel => exact ⟨k + 1, by omega, by go_num, by rw [HZ.out]; go_num, by (repeat (first | (with_reducible exact Below.refl _ _) | (with_reducible assumption) | (with_reducible apply below_drewN) | (with_reducible apply Below.drew) | ((with_reducible refine Below.setCell ?_ ?_ _); rotate_left; focus (first | (simp; done) | (simp; omega) | omega)) | ((with_reducible refine Below.alloc ?_ ?_ _); rotate_left; focus (first | (simp; done) | (simp; omega) | omega))))⟩
        case measure => simp [intOf]; omega
      · have hlt2 : ¬ (k : Int) < (chs.length : Int) := by omega
        have ht : chs.take k = chs := List.take_of_length_le (by omega)
        rw [ht]
        clear ht
        go_wp2_with fail
        go_ret2
        exact ⟨rfl, hbw⟩

end Go.Proofs.YtmchpaccdnnilaaGreatDoor.Co
