/- The laws' sizes of committed ones, with what they count in all. -/
import Derived.Test.YtpfbepbmiillbaaGreatDoorDnsRR
import Derived.Test.YtpfbepbmiillbaaGreatDoorStoLR
import Derived.Test.YtpfbepbmiillbaaGreatDoorChgBQ
import Derived.Test.YtpfbepbmiillbaaGreatDoorDnsOR
namespace Go.Proofs.YtpfbepbmiillbaaGreatDoor.Ce
open Go.RowKit Go.ChangeShapes Go.WideShapes Go.ChangeAt Go.Joins Tr Co Rea
set_option linter.unusedVariables false

def sumN {α : Type} (F : α → Nat) (l : List α) : Nat := (l.map F).sum
theorem sumN_nil {α : Type} (F : α → Nat) : sumN F [] = 0 := rfl
theorem sumN_take {α : Type} (F : α → Nat) (l : List α) (k : Nat) (h : k < l.length) : sumN F (l.take (k + 1)) = sumN F (l.take k) + F l[k] := by
  unfold sumN
  rw [List.take_succ_eq_append_getElem h, List.map_append, List.sum_append]
  simp
theorem sumN_cons {α : Type} (F : α → Nat) (a : α) (l : List α) : sumN F (a :: l) = F a + sumN F l := by simp [sumN]
/-- What filters, reads, committed ones count. -/
def cntC (f : List (List Trm)) : Nat := f.length + sumN (fun l => l.length) f
def cntR (rs : List Rdg) : Nat := rs.length + sumN (fun x => cntC x.f) rs
def cntD (ds : List Dn) : Nat := ds.length + sumN (fun x => cntR x.rs + x.cs.length) ds
set_option maxRecDepth 4000 in
set_option maxHeartbeats 1000000 in
theorem szTermS_tot (a : Option Addr) (cap : Nat) (l : List Trm) (c0 : Int) (w : World) (hin : InT w a l) (hl : l.length ≤ maxLen) (hs : ∀ v ∈ l, maxT v) (h0 : 0 ≤ c0) (h1 : c0 ≤ 1048576) :
    Calls Tryz.prog 232 #[.slice a l.length cap, .int .i64 c0] w fun e w' => (∃ r : Int, e = .returned (.int .i64 r) ∧ (r < 0 ∨ (0 ≤ r ∧ r + (l.length : Int) ≤ c0 ∧ l.length ≤ 1048576 ∧ ∀ v ∈ l, szT v))) ∧ Below w.heap.size w w' := by
  unfold maxLen at hl
  have HI : Hid _ := hin
  have HS : Hid _ := hs
  clear hin hs
  by_cases hbig : c0 < (l.length : Int)
  · have hneg : c0 - (l.length : Int) < 0 := by omega
    go_enter Tryz.func232, Tryz.ntmps232
    go_wp2_with fail
    go_ret
    exact ⟨⟨-1, rfl, .inl (by omega)⟩, Below.refl _ _⟩
  · have hneg : ¬ c0 - (l.length : Int) < 0 := by omega
    go_enter Tryz.func232, Tryz.ntmps232
    go_wp2_with fail
    go_loopw [1, 5] (fun u i wr => ∃ k : Nat, k ≤ l.length ∧ i = .int .i64 k ∧ ∃ c : Int, u = .int .i64 c ∧ 0 ≤ c ∧ c + (l.length : Int) ≤ c0 ∧ (∀ v ∈ l.take k, szT v) ∧ Below w.heap.size w wr) (fun _ i _ => l.length - (intOf i).toNat)
    case atStart => exact ⟨0, Nat.zero_le _, rfl, _, rfl, by omega, by omega, (fun v hv => by simp at hv), Below.refl _ _⟩
    case round =>
      obtain ⟨k, hk, rfl, c, rfl, hc0, hc1, hall, hbel⟩ := hrel
      have HA : Hid _ := hall
      clear hall
      by_cases hlt : k < l.length
      · rcases HI.out with h0' | ⟨b, off, rfl, hbl, hcell⟩
        · omega
        · have hlt2 : (k : Int) < (l.length : Int) := by omega
          have x0 := (hbel.cell hbl).trans (hcell k hlt).1
          have x1 := (hbel.cell hbl).trans (hcell k hlt).2.1
          have x2 := (hbel.cell hbl).trans (hcell k hlt).2.2.1
          have x3 := (hbel.cell hbl).trans (hcell k hlt).2.2.2.1
          have x4 := (hbel.cell hbl).trans (hcell k hlt).2.2.2.2
          have hsz := HS.out l[k] (List.getElem_mem _)
          clear hcell
          go_wp2_with fail
          refine (szTerm_any _ _ _ _ _ c _ hsz.1 hsz.2 hc0 (by omega)).mono ?_
          rintro e w1 ⟨⟨r, rfl, hr⟩, hb⟩
          have hb1 := hbel.trans (hb.mono hbel.size)
          clear hb
          rcases hr with hneg2 | ⟨hr0, hr1, hr2, hr3⟩
          · go_wp2_with fail
            go_ret
            exact ⟨⟨-1, rfl, .inl (by omega)⟩, hb1⟩
          · have hnn : ¬ r < 0 := by omega
            have HSZ : Hid (szT l[k]) := ⟨hr2, hr3⟩
            clear hr2 hr3
            go_wp2_with fail
            go_roundw
            case rel => exact ⟨k + 1, by omega, by go_num, r, rfl, by omega, by omega, take_allT _ l k hlt HA.out HSZ.out, hb1⟩
            case measure => simp [intOf]; omega
      · have hlt2 : ¬ (k : Int) < (l.length : Int) := by omega
        go_wp2_with fail
        go_ret
        exact ⟨⟨c, rfl, .inr ⟨hc0, hc1, by omega, by have := HA.out; rw [List.take_of_length_le (by omega)] at this; exact this⟩⟩, hbel⟩

set_option maxRecDepth 4000 in
set_option maxHeartbeats 1000000 in
theorem szClause_tot (a : Option Addr) (cap : Nat) (l : List Trm) (c0 : Int) (w : World) (hin : InT w a l) (hm : maxC l) (h0 : 0 ≤ c0) (h1 : c0 ≤ 1048576) :
    Calls Tryz.prog 217 #[.agg #[.slice a l.length cap], .int .i64 c0] w fun e w' => (∃ r : Int, e = .returned (.int .i64 r) ∧ (r < 0 ∨ (0 ≤ r ∧ r + (l.length : Int) ≤ c0 ∧ szC l))) ∧ Below w.heap.size w w' := by
  have hb0 : Below w.heap.size w (w.alloc (.cells #[.slice a l.length cap] 285)) := (Below.refl _ _).alloc (Nat.le_refl _) _
  have HC : Hid (Calls _ _ _ _ _) := szTermS_tot a cap l c0 (w.alloc (.cells #[.slice a l.length cap] 285)) (hin.step hb0) hm.1 hm.2 h0 h1
  clear hin hm
  go_enter Tryz.func217, Tryz.ntmps217
  go_wp2_with fail
  refine HC.out.mono ?_
  rintro e w1 ⟨⟨r, rfl, hr⟩, hb⟩
  have hb1 := hb0.trans (hb.mono hb0.size)
  clear hb HC
  rcases hr with hneg | ⟨hr0, hr1, hr2, hr3⟩
  · go_wp2_with fail
    go_ret
    exact ⟨⟨-1, rfl, .inl (by omega)⟩, hb1⟩
  · have hnn : ¬ r < 0 := by omega
    have HS : Hid (szC l) := ⟨hr2, hr3⟩
    clear hr2 hr3
    go_wp2_with fail
    go_ret
    exact ⟨⟨r, rfl, .inr ⟨hr0, hr1, HS.out⟩⟩, hb1⟩

set_option maxRecDepth 4000 in
set_option maxHeartbeats 1000000 in
theorem szClauseS_tot (a : Option Addr) (cap : Nat) (f : List (List Trm)) (c0 : Int) (w : World) (hin : InCl w a f) (hl : f.length ≤ maxLen) (hs : ∀ l ∈ f, maxC l) (h0 : 0 ≤ c0) (h1 : c0 ≤ 1048576) :
    Calls Tryz.prog 195 #[.slice a f.length cap, .int .i64 c0] w fun e w' => (∃ r : Int, e = .returned (.int .i64 r) ∧ (r < 0 ∨ (0 ≤ r ∧ r + (cntC f : Int) ≤ c0 ∧ f.length ≤ 1048576 ∧ ∀ l ∈ f, szC l))) ∧ Below w.heap.size w w' := by
  unfold maxLen at hl
  have HI : Hid (InCl _ _ _) := hin
  have HS : Hid _ := hs
  clear hin hs
  by_cases hbig : c0 < (f.length : Int)
  · have hneg : c0 - (f.length : Int) < 0 := by omega
    go_enter Tryz.func195, Tryz.ntmps195
    go_wp2_with fail
    go_ret
    exact ⟨⟨-1, rfl, .inl (by omega)⟩, Below.refl _ _⟩
  · have hneg : ¬ c0 - (f.length : Int) < 0 := by omega
    go_enter Tryz.func195, Tryz.ntmps195
    go_wp2_with fail
    go_loopw [1, 5] (fun u i wr => ∃ k : Nat, k ≤ f.length ∧ i = .int .i64 k ∧ ∃ c : Int, u = .int .i64 c ∧ 0 ≤ c ∧ c + (f.length : Int) + (sumN (fun l => l.length) (f.take k) : Int) ≤ c0 ∧ (∀ v ∈ f.take k, szC v) ∧ Below w.heap.size w wr) (fun _ i _ => f.length - (intOf i).toNat)
    case atStart => exact ⟨0, Nat.zero_le _, rfl, _, rfl, by omega, by rw [List.take_zero]; simp only [sumN_nil]; omega, (fun v hv => by simp at hv), Below.refl _ _⟩
    case round =>
      obtain ⟨k, hk, rfl, c, rfl, hc0, hc1, hall, hbel⟩ := hrel
      have HA : Hid _ := hall
      clear hall
      by_cases hlt : k < f.length
      · rcases HI.out.step hbel with h0' | ⟨b, off, rfl, hbl, hcell⟩
        · omega
        · have hlt2 : (k : Int) < (f.length : Int) := by omega
          obtain ⟨p, pc, x0, hT⟩ := hcell k hlt
          have HC : Hid (Calls _ _ _ _ _) := szClause_tot p pc f[k] c wr hT (HS.out f[k] (List.getElem_mem _)) hc0 (by omega)
          clear hcell hT
          go_wp2_with fail
          refine HC.out.mono ?_
          rintro e w1 ⟨⟨r, rfl, hr⟩, hb⟩
          have hb1 := hbel.trans (hb.mono hbel.size)
          clear hb HC
          rcases hr with hneg2 | ⟨hr0, hr1, hr2⟩
          · go_wp2_with fail
            go_ret
            exact ⟨⟨-1, rfl, .inl (by omega)⟩, hb1⟩
          · have hnn : ¬ r < 0 := by omega
            have HSZ : Hid (szC f[k]) := hr2
            clear hr2
            go_wp2_with fail
            go_roundw
            case rel => exact ⟨k + 1, by omega, by go_num, r, rfl, by omega, by have hsn := sumN_take (fun l => l.length) f k hlt; (try dsimp only at hsn); omega, take_allC _ f k hlt HA.out HSZ.out, hb1⟩
            case measure => simp [intOf]; omega
      · have hlt2 : ¬ (k : Int) < (f.length : Int) := by omega
        go_wp2_with fail
        go_ret
        exact ⟨⟨c, rfl, .inr ⟨hc0, by rw [List.take_of_length_le (by omega)] at hc1; unfold cntC; omega, by omega, by have := HA.out; rw [List.take_of_length_le (by omega)] at this; exact this⟩⟩, hbel⟩
set_option maxRecDepth 4000 in
set_option maxHeartbeats 1000000 in
theorem szFilter_tot (a : Option Addr) (cap : Nat) (f : List (List Trm)) (c0 : Int) (w : World) (hin : InCl w a f) (hl : f.length ≤ maxLen) (hs : ∀ l ∈ f, maxC l) (h0 : 0 ≤ c0) (h1 : c0 ≤ 1048576) :
    Calls Tryz.prog 163 #[.agg #[.slice a f.length cap], .int .i64 c0] w fun e w' => (∃ r : Int, e = .returned (.int .i64 r) ∧ (r < 0 ∨ (0 ≤ r ∧ r + (cntC f : Int) ≤ c0 ∧ f.length ≤ 1048576 ∧ ∀ l ∈ f, szC l))) ∧ Below w.heap.size w w' := by
  have hb0 : Below w.heap.size w (w.alloc (.cells #[.slice a f.length cap] 193)) := (Below.refl _ _).alloc (Nat.le_refl _) _
  have HC : Hid (Calls _ _ _ _ _) := szClauseS_tot a cap f c0 (w.alloc (.cells #[.slice a f.length cap] 193)) (hin.step hb0) hl hs h0 h1
  clear hin hs
  go_enter Tryz.func163, Tryz.ntmps163
  go_wp2_with fail
  refine HC.out.mono ?_
  rintro e w1 ⟨⟨r, rfl, hr⟩, hb⟩
  have hb1 := hb0.trans (hb.mono hb0.size)
  clear hb HC
  rcases hr with hneg | ⟨hr0, hr1, hr2, hr3⟩
  · go_wp2_with fail
    go_ret
    exact ⟨⟨-1, rfl, .inl (by omega)⟩, hb1⟩
  · have hnn : ¬ r < 0 := by omega
    have HS : Hid (∀ l ∈ f, szC l) := hr3
    clear hr3
    go_wp2_with fail
    go_ret
    exact ⟨⟨r, rfl, .inr ⟨hr0, hr1, hr2, HS.out⟩⟩, hb1⟩

set_option maxRecDepth 4000 in
set_option maxHeartbeats 1000000 in
theorem szRead_tot (s : ByteArray) (p : Option Addr) (cap : Nat) (f : List (List Trm)) (c0 : Int) (w : World) (hin : InCl w p f) (hm : MaxR s f) (h0 : 0 ≤ c0) (h1 : c0 ≤ 1048576) :
    Calls Tryz.prog 128 #[.agg #[.string s, .slice p f.length cap], .int .i64 c0] w fun e w' => (∃ r : Int, e = .returned (.int .i64 r) ∧ (r < 0 ∨ (0 ≤ r ∧ r + (cntC f : Int) ≤ c0 ∧ SzR s f))) ∧ Below w.heap.size w w' := by
  have X0 := BoxR.start w (.string s) (.slice p f.length cap) 195
  have hbw := X0.bel
  have hmx := hm.s0
  unfold maxLen at hmx
  by_cases hover : c0 < (s.size : Int)
  · have hneg : c0 - (s.size : Int) < 0 := by omega
    go_enter Tryz.func128, Tryz.ntmps128
    go_wp2_with fail
    go_ret
    exact ⟨⟨-1, rfl, .inl (by omega)⟩, hbw⟩
  · have hpos : ¬ c0 - (s.size : Int) < 0 := by omega
    have HF : Hid (Calls _ _ _ _ _) := szFilter_tot p cap f (c0 - s.size) _ (hin.step X0.bel) hm.f0 hm.f1 (by omega) (by omega)
    have c1 := X0.c1
    clear hin hm
    go_enter Tryz.func128, Tryz.ntmps128
    go_wp2_with fail
    refine HF.out.mono ?_
    rintro e w1 ⟨⟨r, rfl, hr⟩, hb⟩
    have hbw1 := (X0.step hb).bel
    clear hb
    rcases hr with hneg | ⟨hr0, hr1, hr2, hr3⟩
    · go_wp2_with fail
      go_ret
      exact ⟨⟨-1, rfl, .inl (by omega)⟩, hbw1⟩
    · have hnn : ¬ r < 0 := by omega
      have HR3 : Hid (∀ l ∈ f, szC l) := hr3
      clear hr3
      go_wp2_with fail
      go_ret
      exact ⟨⟨r, rfl, .inr ⟨hr0, by omega, ⟨by omega, hr2, HR3.out⟩⟩⟩, hbw1⟩
set_option maxRecDepth 4000 in
set_option maxHeartbeats 1000000 in
theorem szReadS_tot (a : Option Addr) (cap : Nat) (l : List Rdg) (c0 : Int) (w : World) (hin : InRd w a l) (hl : l.length ≤ maxLen) (hs : ∀ v ∈ l, maxRd v) (h0 : 0 ≤ c0) (h1 : c0 ≤ 1048576) :
    Calls Tryz.prog 94 #[.slice a l.length cap, .int .i64 c0] w fun e w' => (∃ r : Int, e = .returned (.int .i64 r) ∧ (r < 0 ∨ (0 ≤ r ∧ r + (cntR l : Int) ≤ c0 ∧ l.length ≤ 1048576 ∧ ∀ v ∈ l, szRd v))) ∧ Below w.heap.size w w' := by
  unfold maxLen at hl
  have HI : Hid (InRd _ _ _) := hin
  have HS : Hid (∀ v ∈ l, maxRd v) := hs
  clear hin hs
  by_cases hbig : c0 < (l.length : Int)
  · have hneg : c0 - (l.length : Int) < 0 := by omega
    go_enter Tryz.func94, Tryz.ntmps94
    go_wp2_with fail
    go_ret
    exact ⟨⟨-1, rfl, .inl (by omega)⟩, Below.refl _ _⟩
  · have hneg : ¬ c0 - (l.length : Int) < 0 := by omega
    go_enter Tryz.func94, Tryz.ntmps94
    go_wp2_with fail
    go_loopw [1, 5] (fun u i wr => ∃ k : Nat, k ≤ l.length ∧ i = .int .i64 k ∧ ∃ c : Int, u = .int .i64 c ∧ 0 ≤ c ∧ c + (l.length : Int) + (sumN (fun x => cntC x.f) (l.take k) : Int) ≤ c0 ∧ (∀ v ∈ l.take k, szRd v) ∧ Below w.heap.size w wr) (fun _ i _ => l.length - (intOf i).toNat)
    case atStart => exact ⟨0, Nat.zero_le _, rfl, _, rfl, by omega, by rw [List.take_zero]; simp only [sumN_nil]; omega, (fun v hv => by simp at hv), Below.refl _ _⟩
    case round =>
      obtain ⟨k, hk, rfl, c, rfl, hc0, hc1, hall, hbel⟩ := hrel
      have HA : Hid (∀ v ∈ l.take k, szRd v) := hall
      clear hall
      by_cases hlt : k < l.length
      · rcases HI.out.step hbel with h0' | ⟨b, off, rfl, hbl, hcell⟩
        · omega
        · have hlt2 : (k : Int) < (l.length : Int) := by omega
          obtain ⟨x0, p, pc, x1, hT⟩ := hcell k hlt
          have HC : Hid (Calls _ _ _ _ _) := szRead_tot l[k].coll p pc l[k].f c wr hT (HS.out l[k] (List.getElem_mem _)) hc0 (by omega)
          clear hcell hT
          go_wp2_with fail
          refine HC.out.mono ?_
          rintro e w1 ⟨⟨r, rfl, hr⟩, hb⟩
          have hb1 := hbel.trans (hb.mono hbel.size)
          clear hb HC
          rcases hr with hneg2 | ⟨hr0, hr1, hr2⟩
          · go_wp2_with fail
            go_ret
            exact ⟨⟨-1, rfl, .inl (by omega)⟩, hb1⟩
          · have hnn : ¬ r < 0 := by omega
            have HSZ : Hid (szRd l[k]) := hr2
            clear hr2
            go_wp2_with fail
            go_roundw
            case rel => exact ⟨k + 1, by omega, by go_num, r, rfl, by omega, by have hsn := sumN_take (fun x => cntC x.f) l k hlt; (try dsimp only at hsn); omega, take_allRd _ l k hlt HA.out HSZ.out, hb1⟩
            case measure => simp [intOf]; omega
      · have hlt2 : ¬ (k : Int) < (l.length : Int) := by omega
        go_wp2_with fail
        go_ret
        exact ⟨⟨c, rfl, .inr ⟨hc0, by rw [List.take_of_length_le (by omega)] at hc1; unfold cntR; omega, by omega, by have := HA.out; rw [List.take_of_length_le (by omega)] at this; exact this⟩⟩, hbel⟩
set_option maxRecDepth 4000 in
set_option maxHeartbeats 1000000 in
theorem szChangeS_tot (a : Option Addr) (cap : Nat) (l : List Cgr) (c0 : Int) (w : World) (hin : InCg w a l) (hl : l.length ≤ maxLen) (hs : ∀ v ∈ l, maxCg v) (h0 : 0 ≤ c0) (h1 : c0 ≤ 1048576) :
    Calls Tryz.prog 96 #[.slice a l.length cap, .int .i64 c0] w fun e w' => (∃ r : Int, e = .returned (.int .i64 r) ∧ (r < 0 ∨ (0 ≤ r ∧ r + (l.length : Int) ≤ c0 ∧ l.length ≤ 1048576 ∧ ∀ v ∈ l, szCg v))) ∧ Below w.heap.size w w' := by
  unfold maxLen at hl
  have HI : Hid _ := hin
  have HS : Hid _ := hs
  clear hin hs
  by_cases hbig : c0 < (l.length : Int)
  · have hneg : c0 - (l.length : Int) < 0 := by omega
    go_enter Tryz.func96, Tryz.ntmps96
    go_wp2_with fail
    go_ret
    exact ⟨⟨-1, rfl, .inl (by omega)⟩, Below.refl _ _⟩
  · have hneg : ¬ c0 - (l.length : Int) < 0 := by omega
    go_enter Tryz.func96, Tryz.ntmps96
    go_wp2_with fail
    go_loopw [1, 5] (fun u i wr => ∃ k : Nat, k ≤ l.length ∧ i = .int .i64 k ∧ ∃ c : Int, u = .int .i64 c ∧ 0 ≤ c ∧ c + (l.length : Int) ≤ c0 ∧ (∀ v ∈ l.take k, szCg v) ∧ Below w.heap.size w wr) (fun _ i _ => l.length - (intOf i).toNat)
    case atStart => exact ⟨0, Nat.zero_le _, rfl, _, rfl, by omega, by omega, (fun v hv => by simp at hv), Below.refl _ _⟩
    case round =>
      obtain ⟨k, hk, rfl, c, rfl, hc0, hc1, hall, hbel⟩ := hrel
      have HA : Hid _ := hall
      clear hall
      by_cases hlt : k < l.length
      · rcases HI.out with h0' | ⟨b, off, rfl, hbl, hcell⟩
        · omega
        · have hlt2 : (k : Int) < (l.length : Int) := by omega
          have x0 := (hbel.cell hbl).trans (hcell k hlt).1
          have x1 := (hbel.cell hbl).trans (hcell k hlt).2.1
          have x2 := (hbel.cell hbl).trans (hcell k hlt).2.2.1
          have x3 := (hbel.cell hbl).trans (hcell k hlt).2.2.2.1
          have x4 := (hbel.cell hbl).trans (hcell k hlt).2.2.2.2.1
          have x5 := (hbel.cell hbl).trans (hcell k hlt).2.2.2.2.2.1
          have x6 := (hbel.cell hbl).trans (hcell k hlt).2.2.2.2.2.2.1
          have x7 := (hbel.cell hbl).trans (hcell k hlt).2.2.2.2.2.2.2.1
          have x8 := (hbel.cell hbl).trans (hcell k hlt).2.2.2.2.2.2.2.2.1
          have x9 := (hbel.cell hbl).trans (hcell k hlt).2.2.2.2.2.2.2.2.2
          have hsz := HS.out l[k] (List.getElem_mem _)
          clear hcell
          go_wp2_with fail
          refine (szChange_any l[k] c _ hsz hc0 (by omega)).mono ?_
          rintro e w1 ⟨⟨r, rfl, hr⟩, hb⟩
          have hb1 := hbel.trans (hb.mono hbel.size)
          clear hb
          rcases hr with hneg2 | ⟨hr0, hr1, hr2⟩
          · go_wp2_with fail
            go_ret
            exact ⟨⟨-1, rfl, .inl (by omega)⟩, hb1⟩
          · have hnn : ¬ r < 0 := by omega
            have HSZ : Hid (szCg l[k]) := hr2
            clear hr2
            go_wp2_with fail
            go_roundw
            case rel => exact ⟨k + 1, by omega, by go_num, r, rfl, by omega, by omega, take_allCg _ l k hlt HA.out HSZ.out, hb1⟩
            case measure => simp [intOf]; omega
      · have hlt2 : ¬ (k : Int) < (l.length : Int) := by omega
        go_wp2_with fail
        go_ret
        exact ⟨⟨c, rfl, .inr ⟨hc0, hc1, by omega, by have := HA.out; rw [List.take_of_length_le (by omega)] at this; exact this⟩⟩, hbel⟩

set_option maxRecDepth 4000 in
set_option maxHeartbeats 2000000 in
theorem szDone_tot (sn at_ : Int) (p1 p2 : Option Addr) (c1 c2 : Nat) (di do_ : Bool) (rs : List Rdg) (cs : List Cgr) (c0 : Int) (w : World) (h1 : InRd w p1 rs) (h2 : InCg w p2 cs) (hm : MaxDn rs cs) (hc0 : 0 ≤ c0) (hc1 : c0 ≤ 1048576) :
    Calls Tryz.prog 62 #[.agg #[.int .i64 sn, .int .i64 at_, .slice p1 rs.length c1, .slice p2 cs.length c2, .bool di, .bool do_], .int .i64 c0] w fun e w' => (∃ r : Int, e = .returned (.int .i64 r) ∧ (r < 0 ∨ (0 ≤ r ∧ r + ((cntR rs + cs.length : Nat) : Int) ≤ c0 ∧ SzDn rs cs))) ∧ Below w.heap.size w w' := by
  have X0 := BxDn.start w (.int .i64 sn) (.int .i64 at_) (.slice p1 rs.length c1) (.slice p2 cs.length c2) (.bool di) (.bool do_) 113
  have HI2 : Hid (InCg _ _ _) := h2
  have HM : Hid (MaxDn rs cs) := hm
  have HA : Hid (Calls _ _ _ _ _) := szReadS_tot p1 c1 rs c0 _ (h1.step X0.bel) hm.r0 hm.r1 hc0 hc1
  clear h1 h2 hm
  go_enter Tryz.func62, Tryz.ntmps62
  go_wp2_with fail
  refine HA.out.mono ?_
  rintro e w1 ⟨⟨r1, rfl, hr1⟩, hb⟩
  have X1 := X0.step hb
  have k3 := X1.c3
  have B1 := X1.bel
  clear hb X0 HA
  rcases hr1 with hneg | ⟨q0, q1, q2, q3⟩
  · go_wp2_with fail
    go_ret
    exact ⟨⟨-1, rfl, .inl (by omega)⟩, B1⟩
  have hn1 : ¬ r1 < 0 := by omega
  have HP : Hid (∀ v ∈ rs, szRd v) := q3
  clear q3
  go_wp2_with fail
  refine (szChangeS_tot p2 c2 cs r1 _ (HI2.out.step X1.bel) HM.out.s0 HM.out.s1 q0 (by omega)).mono ?_
  rintro e w2 ⟨⟨r2, rfl, hr2⟩, hb⟩
  have B2 := (X1.step hb).bel
  clear hb X1
  rcases hr2 with hneg | ⟨s0, s1, s2, s3⟩
  · go_wp2_with fail
    go_ret
    exact ⟨⟨-1, rfl, .inl (by omega)⟩, B2⟩
  have hn2 : ¬ r2 < 0 := by omega
  have HS : Hid (∀ v ∈ cs, szCg v) := s3
  clear s3
  go_wp2_with fail
  go_ret
  exact ⟨⟨r2, rfl, .inr ⟨by omega, by omega, ⟨q2, HP.out, s2, HS.out⟩⟩⟩, B2⟩

set_option maxRecDepth 4000 in
set_option maxHeartbeats 1000000 in
theorem szDoneS_tot (a : Option Addr) (cap : Nat) (l : List Dn) (c0 : Int) (w : World) (hin : InDn w a l) (hl : l.length ≤ maxLen) (hs : ∀ v ∈ l, maxDn v) (h0 : 0 ≤ c0) (h1 : c0 ≤ 1048576) :
    Calls Tryz.prog 30 #[.slice a l.length cap, .int .i64 c0] w fun e w' => (∃ r : Int, e = .returned (.int .i64 r) ∧ (r < 0 ∨ (0 ≤ r ∧ r + (cntD l : Int) ≤ c0 ∧ l.length ≤ 1048576 ∧ ∀ v ∈ l, szDn v))) ∧ Below w.heap.size w w' := by
  unfold maxLen at hl
  have HI : Hid (InDn _ _ _) := hin
  have HS : Hid (∀ v ∈ l, maxDn v) := hs
  clear hin hs
  by_cases hbig : c0 < (l.length : Int)
  · have hneg : c0 - (l.length : Int) < 0 := by omega
    go_enter Tryz.func30, Tryz.ntmps30
    go_wp2_with fail
    go_ret
    exact ⟨⟨-1, rfl, .inl (by omega)⟩, Below.refl _ _⟩
  · have hneg : ¬ c0 - (l.length : Int) < 0 := by omega
    go_enter Tryz.func30, Tryz.ntmps30
    go_wp2_with fail
    go_loopw [1, 5] (fun u i wr => ∃ k : Nat, k ≤ l.length ∧ i = .int .i64 k ∧ ∃ c : Int, u = .int .i64 c ∧ 0 ≤ c ∧ c + (l.length : Int) + (sumN (fun x => cntR x.rs + x.cs.length) (l.take k) : Int) ≤ c0 ∧ (∀ v ∈ l.take k, szDn v) ∧ Below w.heap.size w wr) (fun _ i _ => l.length - (intOf i).toNat)
    case atStart => exact ⟨0, Nat.zero_le _, rfl, _, rfl, by omega, by rw [List.take_zero]; simp only [sumN_nil]; omega, (fun v hv => by simp at hv), Below.refl _ _⟩
    case round =>
      obtain ⟨k, hk, rfl, c, rfl, hc0, hc1, hall, hbel⟩ := hrel
      have HA : Hid (∀ v ∈ l.take k, szDn v) := hall
      clear hall
      by_cases hlt : k < l.length
      · rcases HI.out.step hbel with h0' | ⟨b, off, rfl, hbl, hcell⟩
        · omega
        · have hlt2 : (k : Int) < (l.length : Int) := by omega
          obtain ⟨p, cp, q, cq, ⟨x0, x1, x2, x3, x4, x5⟩, hT, hU⟩ := hcell k hlt
          have HC : Hid (Calls _ _ _ _ _) := szDone_tot l[k].sn l[k].at_ p q cp cq l[k].di l[k].do_ l[k].rs l[k].cs c wr hT hU (HS.out l[k] (List.getElem_mem _)) hc0 (by omega)
          clear hcell hT hU
          go_wp2_with fail
          refine HC.out.mono ?_
          rintro e w1 ⟨⟨r, rfl, hr⟩, hb⟩
          have hb1 := hbel.trans (hb.mono hbel.size)
          clear hb HC
          rcases hr with hneg2 | ⟨hr0, hr1, hr2⟩
          · go_wp2_with fail
            go_ret
            exact ⟨⟨-1, rfl, .inl (by omega)⟩, hb1⟩
          · have hnn : ¬ r < 0 := by omega
            have HSZ : Hid (szDn l[k]) := hr2
            clear hr2
            go_wp2_with fail
            go_roundw
            case rel => exact ⟨k + 1, by omega, by go_num, r, rfl, by omega, by have hsn := sumN_take (fun x => cntR x.rs + x.cs.length) l k hlt; (try dsimp only at hsn); omega, take_allDn _ l k hlt HA.out HSZ.out, hb1⟩
            case measure => simp [intOf]; omega
      · have hlt2 : ¬ (k : Int) < (l.length : Int) := by omega
        go_wp2_with fail
        go_ret
        exact ⟨⟨c, rfl, .inr ⟨hc0, by rw [List.take_of_length_le (by omega)] at hc1; unfold cntD; omega, by omega, by have := HA.out; rw [List.take_of_length_le (by omega)] at this; exact this⟩⟩, hbel⟩

end Go.Proofs.YtpfbepbmiillbaaGreatDoor.Ce

/- Rows made by the laws' helpers, with the types of their blocks. -/
namespace Go.Proofs.YtpfbepbmiillbaaGreatDoor.Ty
open Go.RowKit Go.ChangeShapes Go.WideShapes Go.ChangeAt Go.Joins Tr Co Rea Ce
set_option linter.unusedVariables false

/-- A block of cells of a type, none of them marked. -/
def Blk (w : World) (g : Nat) (T : TypeId) (n : Nat) : Prop := ∃ vs, w.heap[g]? = some (.cells vs T (0, 0)) ∧ n ≤ vs.size
theorem Blk.keep {w w' : World} {g n : Nat} {T : TypeId} (h : Blk w g T n) (e : w'.heap[g]? = w.heap[g]?) : Blk w' g T n := by
  obtain ⟨vs, h1, h2⟩ := h
  exact ⟨vs, e.trans h1, h2⟩
theorem Blk.of_own {w : World} {base g cap n size : Nat} {T : TypeId} {xs : List Value} (h : w.ownsRow base T size (.slice (some ⟨g, 0, none⟩) n cap) n xs) : Blk w g T (n * size) := by
  rcases h.2 with ⟨h1, _⟩ | ⟨g', cap', cur, hv, _, hh, h3, _, h5, _⟩
  · cases h1
  · injection hv with e1 e2 e3
    injection e1 with e1
    injection e1 with e1
    subst e1
    exact ⟨cur, hh, by rw [h5]; exact Nat.mul_le_mul_right _ h3⟩
structure ReadT (w : World) (g : Nat) (l : List Trm) : Prop where
  lt : g < w.heap.size
  cells : ∀ i (h : i < l.length), w.cell? ⟨g, i * 5, none⟩ = some (.int .i64 l[i].op) ∧ w.cell? ⟨g, i * 5 + 1, none⟩ = some (.string l[i].p) ∧ w.cell? ⟨g, i * 5 + 2, none⟩ = some (.int .i64 l[i].c.k) ∧ w.cell? ⟨g, i * 5 + 3, none⟩ = some (.int .i64 l[i].c.n) ∧ w.cell? ⟨g, i * 5 + 4, none⟩ = some (.string l[i].c.t)
  blk : Blk w g 213 (l.length * 5)
theorem ReadT.old {w : World} {g : Nat} {l : List Trm} (h : ReadT w g l) : Go.Proofs.YtpfbepbmiillbaaGreatDoor.ReadT w g l := ⟨h.lt, h.cells⟩
theorem ReadT.next {w w' : World} {g : Nat} {l : List Trm} (h : ReadT w g l) (hb : Below w.heap.size w w') : ReadT w' g l :=
  ⟨(h.old.next hb).lt, (h.old.next hb).cells, h.blk.keep (hb.block g h.lt)⟩
theorem ReadT.grown {w w' : World} {g : Nat} {l : List Trm} {row : Option Nat} (h : ReadT w g l) (hg : w.grownBy w' row) (hne : some g ≠ row) : ReadT w' g l :=
  ⟨(h.old.grown hg hne).lt, (h.old.grown hg hne).cells, h.blk.keep (hg.block g h.lt hne)⟩
theorem ReadT.of_own {w : World} {base g cap : Nat} {l : List Trm} (h : w.ownsRow base 213 5 (.slice (some ⟨g, 0, none⟩) l.length cap) l.length (flatT l)) : ReadT w g l :=
  ⟨(Go.Proofs.YtpfbepbmiillbaaGreatDoor.ReadT.of_own h).lt, (Go.Proofs.YtpfbepbmiillbaaGreatDoor.ReadT.of_own h).cells, Blk.of_own h⟩
structure MadeC (w : World) (base g : Nat) (f : List (List Trm)) : Prop where
  ge : base ≤ g
  lt : g < w.heap.size
  cells : ∀ i (h : i < f.length), ∃ gi cap, w.cell? ⟨g, i, none⟩ = some (.slice (some ⟨gi, 0, none⟩) f[i].length cap) ∧ base ≤ gi ∧ ReadT w gi f[i]
  blk : Blk w g 210 f.length
theorem MadeC.old {w : World} {base g : Nat} {f : List (List Trm)} (h : MadeC w base g f) : Go.Proofs.YtpfbepbmiillbaaGreatDoor.MadeC w base g f := ⟨h.ge, h.lt, fun i hi => by
    obtain ⟨gi, cap, h1, h2, h3⟩ := h.cells i hi
    exact ⟨gi, cap, h1, h2, h3.old⟩⟩
theorem MadeC.set {w : World} {base g b o : Nat} {v : Value} {f : List (List Trm)} (h : MadeC w base g f) (hb : b < base) : MadeC (w.setCell ⟨b, o, none⟩ v) base g f :=
  ⟨h.ge, by simpa [World.setCell] using h.lt, fun i hi => by
    obtain ⟨gi, cap, h1, h2, h3⟩ := h.cells i hi
    have hg : w.grownBy (w.setCell ⟨b, o, none⟩ v) (some b) := grown_setC
    refine ⟨gi, cap, ?_, h2, h3.grown hg (fun e => by injection e; omega)⟩
    have := h.ge
    exact (World.cell?_of_block (hg.block g h.lt (fun e => by injection e; omega))).trans h1, h.blk.keep ((grown_setC (w := w) (g := b) (o := o) (v := v)).block g h.lt (fun e => by injection e; have := h.ge; omega))⟩
theorem madeR_next {w w' : World} {base g : Nat} {f : List (List Trm)} (h : MadeC w base g f) (hb : Below w.heap.size w w') : MadeC w' base g f :=
  ⟨h.ge, Nat.lt_of_lt_of_le h.lt hb.size, fun i hi => by
    obtain ⟨gi, cap, h1, h2, h3⟩ := h.cells i hi
    exact ⟨gi, cap, (hb.cell h.lt).trans h1, h2, h3.next hb⟩, h.blk.keep (hb.block g h.lt)⟩
theorem madeR_mono {w : World} {base base' g : Nat} {f : List (List Trm)} (h : MadeC w base g f) (hb : base' ≤ base) : MadeC w base' g f :=
  ⟨Nat.le_trans hb h.ge, h.lt, fun i hi => by
    obtain ⟨gi, cap, h1, h2, h3⟩ := h.cells i hi
    exact ⟨gi, cap, h1, Nat.le_trans hb h2, h3⟩, h.blk⟩
def partC (w : World) (base : Nat) (xs : List Value) (f : List (List Trm)) (k : Nat) : Prop := ∀ i (h : i < f.length), i < k → ∃ g cap, xs[i]? = some (.slice (some ⟨g, 0, none⟩) f[i].length cap) ∧ base < g ∧ ReadT w g f[i]
set_option maxRecDepth 4000 in
set_option maxHeartbeats 1000000 in
theorem toTermS_any (a : Option Addr) (cap : Nat) (l : List Trm) (w : World) (hin : InT w a l) (hlen : l.length ≤ 1048576) :
    Calls Tryz.prog 234 #[.slice a l.length cap] w fun e w' => (∃ g, e = .returned (.slice (some ⟨g, 0, none⟩) l.length l.length) ∧ w.heap.size ≤ g ∧ ReadT w' g l) ∧ Below w.heap.size w w' := by
  obtain ⟨i0, hi, hz0, hz1, hz2⟩ := info_parts infoT
  have HI : Hid _ := hin
  clear hin
  go_enter Tryz.func234, Tryz.ntmps234
  go_wp2_with (refine wpList_make_full _ rfl (.tmp 6) (.tmp 6) 208 rfl w.heap.size 213 i0 (.agg #[.int .i64 0, .string em, .int .i64 0, .int .i64 0, .string em]) 5 Tryz.underlying208 hi hz0 hz1 .i64 .i64 _ _ l.length rfl rfl rfl rfl (by rw [hz2]; omega) (by unfold maxLen; omega) (Nat.le_refl _) ?_; intro w1 hown1 hgrow1)
  have hb1 : Below w.heap.size w w1 := Below.grown (Below.refl _ _) hgrow1 (Nat.le_refl _) (fun k h => by cases h)
  have hz : w.heap.size < w1.heap.size := (World.ownsRow.lt hown1 w.heap.size rfl).2
  rw [made_zeroT, show List.replicate l.length zt = mixT l 0 from by simp [mixT]] at hown1
  clear hgrow1
  go_loopw [4] (fun i wr => ∃ k : Nat, k ≤ l.length ∧ i = .int .i64 k ∧ wr.ownsRow w.heap.size 213 5 (.slice (some ⟨w.heap.size, 0, none⟩) l.length l.length) l.length (flatT (mixT l k)) ∧ Below w.heap.size w wr) (fun i _ => l.length - (intOf i).toNat)
  case atStart => exact ⟨0, Nat.zero_le _, rfl, hown1, hb1⟩
  case round =>
    obtain ⟨k, hk, rfl, hown, hbel⟩ := hrel
    clear hown1 hb1 hz
    by_cases hlt : k < l.length
    · rcases HI.out with h0 | ⟨b, off, rfl, hbl, hc⟩
      · omega
      · have hlt2 : (k : Int) < (l.length : Int) := by omega
        have x0 := (hbel.cell hbl).trans (hc k hlt).1
        have x1 := (hbel.cell hbl).trans (hc k hlt).2.1
        have x2 := (hbel.cell hbl).trans (hc k hlt).2.2.1
        have x3 := (hbel.cell hbl).trans (hc k hlt).2.2.2.1
        have x4 := (hbel.cell hbl).trans (hc k hlt).2.2.2.2
        have hz := hbel.size
        have HO : Hid (World.ownsRow _ _ _ _ _ _ _) := hown
        have HB : Hid _ := hbel
        have hgl : w.heap.size < wr.heap.size := (hown.lt _ rfl).2
        clear hc hown hbel
        go_wp2_with fail
        refine (toTerm_any _ _ _ _ _ _).mono ?_
        rintro e w2 ⟨rfl, hb2⟩
        have hown2 := owns_below HO.out hb2
        have hm := mixT_len l k hk
        have hg := flatT_get (mixT l k) k (by omega)
        obtain ⟨z0, y0⟩ : ∃ u, w2.cell? ⟨w.heap.size, k * 5, none⟩ = some u := ⟨_, owns_cell hown2 _ _ hg.1⟩
        obtain ⟨z1, y1⟩ : ∃ u, w2.cell? ⟨w.heap.size, k * 5 + 1, none⟩ = some u := ⟨_, owns_cell hown2 _ _ hg.2.1⟩
        obtain ⟨z2, y2⟩ : ∃ u, w2.cell? ⟨w.heap.size, k * 5 + 2, none⟩ = some u := ⟨_, owns_cell hown2 _ _ hg.2.2.1⟩
        obtain ⟨z3, y3⟩ : ∃ u, w2.cell? ⟨w.heap.size, k * 5 + 3, none⟩ = some u := ⟨_, owns_cell hown2 _ _ hg.2.2.2.1⟩
        obtain ⟨z4, y4⟩ : ∃ u, w2.cell? ⟨w.heap.size, k * 5 + 4, none⟩ = some u := ⟨_, owns_cell hown2 _ _ hg.2.2.2.2⟩
        have f0 := World.ownsRow.frozenAt hown2 (k * 5)
        have f1 := World.ownsRow.frozenAt hown2 (k * 5 + 1)
        have f2 := World.ownsRow.frozenAt hown2 (k * 5 + 2)
        have f3 := World.ownsRow.frozenAt hown2 (k * 5 + 3)
        have f4 := World.ownsRow.frozenAt hown2 (k * 5 + 4)
        have hst := (World.ownsRow.stored (World.ownsRow.stored (World.ownsRow.stored (World.ownsRow.stored (World.ownsRow.stored hown2 (k * 5) (.int .i64 l[k].op)).1 (k * 5 + 1) (.string l[k].p)).1 (k * 5 + 2) (.int .i64 l[k].c.k)).1 (k * 5 + 3) (.int .i64 l[k].c.n)).1 (k * 5 + 4) (.string l[k].c.t)).1
        rw [flatT_set _ _ _ (by omega), mixT_set l k hlt] at hst
        have HS : Hid (World.ownsRow _ _ _ _ _ _ _) := hst
        have HB2 : Hid _ := HB.out.trans (hb2.mono HB.out.size)
        have hz2 := hb2.size
        clear hst hown2 hg hm hb2
        go_wp2_with fail
        go_roundw
        case rel => exact ⟨k + 1, by omega, by go_num, HS.out, ((((HB2.out.setCell (Nat.le_refl _) _).setCell (Nat.le_refl _) _).setCell (Nat.le_refl _) _).setCell (Nat.le_refl _) _).setCell (Nat.le_refl _) _⟩
        case measure => simp [intOf]; omega
    · have hlt2 : ¬ (k : Int) < (l.length : Int) := by omega
      go_wp2_with fail
      go_ret
      rw [mixT_full l k (by omega)] at hown
      exact ⟨⟨w.heap.size, rfl, Nat.le_refl _, ReadT.of_own hown⟩, hbel⟩

set_option maxRecDepth 4000 in
set_option maxHeartbeats 1000000 in
theorem toClause_any (a : Option Addr) (cap : Nat) (l : List Trm) (w : World) (hin : InT w a l) (hlen : l.length ≤ 1048576) :
    Calls Tryz.prog 220 #[.agg #[.slice a l.length cap]] w fun e w' => (∃ g, e = .returned (.agg #[.slice (some ⟨g, 0, none⟩) l.length l.length]) ∧ w.heap.size ≤ g ∧ ReadT w' g l) ∧ Below w.heap.size w w' := by
  have hb0 : Below w.heap.size w (((w.alloc (.cells #[.slice a l.length cap] 285)).alloc (.cells #[.slice none 0 0] 210)).alloc (.cells #[.slice none 0 0] 210)) := (((Below.refl _ _).alloc (Nat.le_refl _) _).alloc (by simp) _).alloc (by simp; omega) _
  have HC : Hid (Calls _ _ _ _ _) := toTermS_any a cap l _ (hin.step hb0) hlen
  clear hin
  go_enter Tryz.func220, Tryz.ntmps220
  go_wp2_with fail
  refine HC.out.mono ?_
  rintro e w1 ⟨⟨g, rfl, hg, hR⟩, hb⟩
  obtain ⟨hc, hf⟩ := bcell hb
  have hz : w.heap.size + 2 < w1.heap.size := by have := hb.size; simp at this; omega
  have hbw : Below w.heap.size w w1 := hb0.trans (hb.mono (by simp; omega))
  simp at hg
  have HR : Hid (ReadT _ _ _) := hR
  clear hb HC hR hb0
  go_wp2_with fail
  refine bodyPost_ret (v := .agg #[.slice (some ⟨g, 0, none⟩) l.length l.length]) (by simp [results, Tryz.results220, go_sem, *]) rfl ⟨⟨g, rfl, by omega, ?_⟩, ?_⟩
  · exact (HR.out.grown grown_setC (fun e => by injection e; omega)).grown grown_setC (fun e => by injection e; omega)
  · (repeat (first | (with_reducible exact Below.refl _ _) | (with_reducible assumption) | (with_reducible apply below_drewN) | (with_reducible apply Below.drew) | ((with_reducible refine Below.setCell ?_ ?_ _); rotate_left; focus (first | (simp; done) | (simp; omega) | omega)) | ((with_reducible refine Below.alloc ?_ ?_ _); rotate_left; focus (first | (simp; done) | (simp; omega) | omega))))

set_option maxRecDepth 4000 in
set_option maxHeartbeats 1000000 in
theorem toClauseS_any (a : Option Addr) (cap : Nat) (f : List (List Trm)) (w : World) (hin : InCl w a f) (hlen : f.length ≤ 1048576) (hs : ∀ l ∈ f, l.length ≤ 1048576) :
    Calls Tryz.prog 202 #[.slice a f.length cap] w fun e w' => (∃ g, e = .returned (.slice (some ⟨g, 0, none⟩) f.length f.length) ∧ MadeC w' w.heap.size g f) ∧ Below w.heap.size w w' := by
  obtain ⟨i0, hi, hz0, hz1, hz2⟩ := info_parts infoC
  have HI : Hid (InCl _ _ _) := hin
  have HS : Hid _ := hs
  clear hin hs
  go_enter Tryz.func202, Tryz.ntmps202
  go_wp2_with (refine wpList_make_full _ rfl (.tmp 6) (.tmp 6) 117 rfl w.heap.size 210 i0 (.agg #[.slice none 0 0]) 1 Tryz.underlying117 hi hz0 hz1 .i64 .i64 _ _ f.length rfl rfl rfl rfl (by rw [hz2]; omega) (by unfold maxLen; omega) (Nat.le_refl _) ?_; intro w1 hown1 hgrow1)
  have hb1 : Below w.heap.size w w1 := Below.grown (Below.refl _ _) hgrow1 (Nat.le_refl _) (fun k h => by cases h)
  clear hgrow1
  go_loopw [4] (fun i wr => ∃ (k : Nat) (xs : List Value), k ≤ f.length ∧ i = .int .i64 k ∧ wr.ownsRow w.heap.size 210 1 (.slice (some ⟨w.heap.size, 0, none⟩) f.length f.length) f.length xs ∧ partC wr w.heap.size xs f k ∧ Below w.heap.size w wr) (fun i _ => f.length - (intOf i).toNat)
  case atStart => exact ⟨0, _, Nat.zero_le _, rfl, hown1, fun i h hi => absurd hi (by omega), hb1⟩
  case round =>
    obtain ⟨k, xs, hk, rfl, hown, hpart, hbel⟩ := hrel
    clear hown1 hb1
    by_cases hlt : k < f.length
    · rcases HI.out.step hbel with h0 | ⟨b, off, rfl, hbl, hc⟩
      · omega
      · have hlt2 : (k : Int) < (f.length : Int) := by omega
        obtain ⟨p, pc, x0, hT⟩ := hc k hlt
        have HC : Hid (Calls _ _ _ _ _) := toClause_any p pc f[k] wr hT (HS.out f[k] (List.getElem_mem _))
        have hz := hbel.size
        have HO : Hid (World.ownsRow _ _ _ _ _ _ _) := hown
        have HP : Hid (partC _ _ _ _ _) := hpart
        have HB : Hid _ := hbel
        have hgl : w.heap.size < wr.heap.size := (hown.lt _ rfl).2
        clear hc hown hbel hT hpart
        go_wp2_with fail
        refine HC.out.mono ?_
        rintro e w2 ⟨⟨g2, rfl, hg2, hR2⟩, hb2⟩
        have hown2 := owns_below HO.out hb2
        have hxl := flatC_one hown2
        obtain ⟨z0, y0⟩ := own_thereC hown2 k (by omega)
        have f0 := World.ownsRow.frozenAt hown2 k
        have hst := (World.ownsRow.stored hown2 k (.slice (some ⟨g2, 0, none⟩) f[k].length f[k].length)).1
        have hpart2 : partC (w2.setCell ⟨w.heap.size, k, none⟩ (.slice (some ⟨g2, 0, none⟩) f[k].length f[k].length)) w.heap.size (xs.set k (.slice (some ⟨g2, 0, none⟩) f[k].length f[k].length)) f (k + 1) := by
          intro i h hi
          by_cases hik : i = k
          · subst hik
            exact ⟨g2, f[i].length, by rw [List.getElem?_set_self (by omega)], by omega, hR2.grown grown_setC (fun e => by injection e; omega)⟩
          · obtain ⟨g, c, e1, e2, e3⟩ := HP.out i h (by omega)
            exact ⟨g, c, by rw [List.getElem?_set_ne (fun e => hik e.symm)]; exact e1, e2, (e3.next hb2).grown grown_setC (fun e => by injection e; omega)⟩
        have HST : Hid (World.ownsRow _ _ _ _ _ _ _) := hst
        have HPA : Hid (partC _ _ _ _ _) := hpart2
        have HB2 : Hid _ := HB.out.trans (hb2.mono HB.out.size)
        have hz2 := hb2.size
        clear hst hown2 hb2 hpart2 hR2 HC
        go_wp2_with fail
        go_roundw
        case rel => exact ⟨k + 1, _, by omega, by go_num, HST.out, HPA.out, HB2.out.setCell (Nat.le_refl _) _⟩
        case measure => simp [intOf]; omega
    · have hlt2 : ¬ (k : Int) < (f.length : Int) := by omega
      have hR : MadeC wr w.heap.size w.heap.size f := ⟨Nat.le_refl _, (hown.lt _ rfl).2, fun i hi => by
        obtain ⟨g, c, e1, e2, e3⟩ := hpart i hi (by omega)
        exact ⟨g, c, owns_cell hown i _ e1, by omega, e3⟩, by have hbk := Blk.of_own hown; rw [Nat.mul_one] at hbk; exact hbk⟩
      have HR : Hid (MadeC _ _ _ _) := hR
      clear hR hpart hown
      go_wp2_with fail
      go_ret
      exact ⟨⟨w.heap.size, rfl, HR.out⟩, hbel⟩

set_option maxRecDepth 4000 in
set_option maxHeartbeats 1000000 in
theorem filterMade_any (a : Option Addr) (cap : Nat) (f : List (List Trm)) (w : World) (hin : InCl w a f) (hlen : f.length ≤ 1048576) (hs : ∀ l ∈ f, l.length ≤ 1048576) :
    Calls Tryz.prog 171 #[.agg #[.slice a f.length cap]] w fun e w' => (∃ g, e = .returned (.agg #[.slice (some ⟨g, 0, none⟩) f.length f.length]) ∧ MadeC w' w.heap.size g f) ∧ Below w.heap.size w w' := by
  have hb0 : Below w.heap.size w (((w.alloc (.cells #[.slice a f.length cap] 193)).alloc (.cells #[.slice none 0 0] 119)).alloc (.cells #[.slice none 0 0] 119)) := (((Below.refl _ _).alloc (Nat.le_refl _) _).alloc (by simp) _).alloc (by simp; omega) _
  have HC : Hid (Calls _ _ _ _ _) := toClauseS_any a cap f _ (hin.step hb0) hlen hs
  clear hin hs
  go_enter Tryz.func171, Tryz.ntmps171
  go_wp2_with fail
  refine HC.out.mono ?_
  rintro e w1 ⟨⟨g, rfl, hR⟩, hb⟩
  obtain ⟨hc, hf⟩ := Go.Proofs.YtpfbepbmiillbaaGreatDoor.bcell hb
  have hz : w.heap.size + 2 < w1.heap.size := by have := hb.size; simp at this; omega
  have hbw : Below w.heap.size w w1 := hb0.trans (hb.mono (by simp; omega))
  simp at hR
  have HR : Hid (MadeC _ _ _ _) := hR
  clear hb HC hR hb0
  go_wp2_with fail
  refine bodyPost_ret (v := .agg #[.slice (some ⟨g, 0, none⟩) f.length f.length]) (by simp [results, Tryz.results171, go_sem, *]) rfl ⟨⟨g, rfl, ?_⟩, ?_⟩
  · exact madeR_mono ((HR.out.set (by omega)).set (by omega)) (by omega)
  · (repeat (first | (with_reducible exact Below.refl _ _) | (with_reducible assumption) | (with_reducible apply below_drewN) | (with_reducible apply Below.drew) | ((with_reducible refine Below.setCell ?_ ?_ _); rotate_left; focus (first | (simp; done) | (simp; omega) | omega)) | ((with_reducible refine Below.alloc ?_ ?_ _); rotate_left; focus (first | (simp; done) | (simp; omega) | omega))))
set_option maxRecDepth 4000 in
set_option maxHeartbeats 1000000 in
theorem toRead_any (s : ByteArray) (p : Option Addr) (cap : Nat) (f : List (List Trm)) (w : World) (hin : InCl w p f) (hs : SzR s f) :
    Calls Tryz.prog 139 #[.agg #[.string s, .slice p f.length cap]] w fun e w' => (∃ g, e = .returned (.agg #[.string s, .slice (some ⟨g, 0, none⟩) f.length f.length]) ∧ MadeC w' w.heap.size g f) ∧ Below w.heap.size w w' := by
  have M0 := MkR.start w (.string s) (.slice p f.length cap) (.string em) (.slice none 0 0) (.string s) (.slice none 0 0) 195 121 121
  have HC : Hid (Calls _ _ _ _ _) := filterMade_any p cap f _ (hin.step M0.bel) hs.f0 hs.len
  clear hin hs
  go_enter Tryz.func139, Tryz.ntmps139
  go_wp2_with fail
  refine HC.out.mono ?_
  rintro e w1 ⟨⟨g, rfl, hR⟩, hb⟩
  have HR : Hid (MadeC _ _ _ _) := madeR_mono (base' := w.heap.size + 3) hR (by simp)
  obtain ⟨mb, ml, c0, c1, d0, d1, e0, e1, mdf, mef⟩ := M0.next hb
  clear hb HC hR M0
  go_wp2_with fail
  refine bodyPost_ret (v := .agg #[.string s, .slice (some ⟨g, 0, none⟩) f.length f.length]) (by simp [results, Tryz.results139, go_sem, *]) rfl ⟨⟨g, rfl, ?_⟩, ?_⟩
  · exact madeR_mono (((HR.out.set (by omega)).set (by omega)).set (by omega)) (by omega)
  · (repeat (first | (with_reducible exact Below.refl _ _) | (with_reducible assumption) | (with_reducible apply below_drewN) | (with_reducible apply Below.drew) | ((with_reducible refine Below.setCell ?_ ?_ _); rotate_left; focus (first | (simp; done) | (simp; omega) | omega)) | ((with_reducible refine Below.alloc ?_ ?_ _); rotate_left; focus (first | (simp; done) | (simp; omega) | omega))))
structure MadeRd (w : World) (base g : Nat) (l : List Rdg) : Prop where
  ge : base ≤ g
  lt : g < w.heap.size
  cells : ∀ i (h : i < l.length), w.cell? ⟨g, i * 2, none⟩ = some (.string l[i].coll) ∧ ∃ gi, w.cell? ⟨g, i * 2 + 1, none⟩ = some (.slice (some ⟨gi, 0, none⟩) l[i].f.length l[i].f.length) ∧ MadeC w base gi l[i].f
  blk : Blk w g 121 (l.length * 2)
theorem MadeRd.old {w : World} {base g : Nat} {l : List Rdg} (h : MadeRd w base g l) : Rea.MadeRd w base g l := ⟨h.ge, h.lt, fun i hi => by
    obtain ⟨h0, gi, h1, h2⟩ := h.cells i hi
    exact ⟨h0, gi, h1, h2.old⟩⟩
theorem MadeRd.next {w w' : World} {base g : Nat} {l : List Rdg} (h : MadeRd w base g l) (hb : Below w.heap.size w w') : MadeRd w' base g l :=
  ⟨h.ge, Nat.lt_of_lt_of_le h.lt hb.size, fun i hi => by
    obtain ⟨h0, gi, h1, h2⟩ := h.cells i hi
    exact ⟨(hb.cell h.lt).trans h0, gi, (hb.cell h.lt).trans h1, madeR_next h2 hb⟩, h.blk.keep (hb.block g h.lt)⟩
theorem MadeRd.mono {w : World} {base base' g : Nat} {l : List Rdg} (h : MadeRd w base g l) (hb : base' ≤ base) : MadeRd w base' g l :=
  ⟨Nat.le_trans hb h.ge, h.lt, fun i hi => by
    obtain ⟨h0, gi, h1, h2⟩ := h.cells i hi
    exact ⟨h0, gi, h1, madeR_mono h2 hb⟩, h.blk⟩
theorem MadeRd.set {w : World} {base g b o : Nat} {v : Value} {l : List Rdg} (h : MadeRd w base g l) (hb : b < base) : MadeRd (w.setCell ⟨b, o, none⟩ v) base g l :=
  ⟨h.ge, by simpa [World.setCell] using h.lt, fun i hi => by
    obtain ⟨h0, gi, h1, h2⟩ := h.cells i hi
    have hg : w.grownBy (w.setCell ⟨b, o, none⟩ v) (some b) := grown_setC
    have hge := h.ge
    have hbk := hg.block g h.lt (fun e => by injection e; omega)
    exact ⟨(World.cell?_of_block (a := ⟨g, i * 2, none⟩) hbk).trans h0, gi, (World.cell?_of_block (a := ⟨g, i * 2 + 1, none⟩) hbk).trans h1, h2.set hb⟩, h.blk.keep ((grown_setC (w := w) (g := b) (o := o) (v := v)).block g h.lt (fun e => by injection e; have := h.ge; omega))⟩
def partRd (w : World) (base : Nat) (xs : List Value) (l : List Rdg) (k : Nat) : Prop := ∀ i (h : i < l.length), i < k → xs[i * 2]? = some (.string l[i].coll) ∧ ∃ g, xs[i * 2 + 1]? = some (.slice (some ⟨g, 0, none⟩) l[i].f.length l[i].f.length) ∧ MadeC w (base + 1) g l[i].f
set_option maxRecDepth 4000 in
set_option maxHeartbeats 2000000 in
theorem toReadS_any (a : Option Addr) (cap : Nat) (l : List Rdg) (w : World) (hin : InRd w a l) (hlen : l.length ≤ 1048576) (hs : ∀ v ∈ l, szRd v) :
    Calls Tryz.prog 104 #[.slice a l.length cap] w fun e w' => (∃ g, e = .returned (.slice (some ⟨g, 0, none⟩) l.length l.length) ∧ MadeRd w' w.heap.size g l) ∧ Below w.heap.size w w' := by
  obtain ⟨i0, hi, hz0, hz1, hz2⟩ := info_parts infoR
  have HI : Hid (InRd _ _ _) := hin
  have HS : Hid (∀ v ∈ l, szRd v) := hs
  clear hin hs
  go_enter Tryz.func104, Tryz.ntmps104
  go_wp2_with (refine wpList_make_full _ rfl (.tmp 6) (.tmp 6) 72 rfl w.heap.size 121 i0 (.agg #[.string em, .slice none 0 0]) 2 Tryz.underlying72 hi hz0 hz1 .i64 .i64 _ _ l.length rfl rfl rfl rfl (by rw [hz2]; omega) (by unfold maxLen; omega) (Nat.le_refl _) ?_; intro w1 hown1 hgrow1)
  have hb1 : Below w.heap.size w w1 := Below.grown (Below.refl _ _) hgrow1 (Nat.le_refl _) (fun k h => by cases h)
  clear hgrow1
  go_loopw [4] (fun i wr => ∃ (k : Nat) (xs : List Value), k ≤ l.length ∧ i = .int .i64 k ∧ wr.ownsRow w.heap.size 121 2 (.slice (some ⟨w.heap.size, 0, none⟩) l.length l.length) l.length xs ∧ partRd wr w.heap.size xs l k ∧ Below w.heap.size w wr) (fun i _ => l.length - (intOf i).toNat)
  case atStart => exact ⟨0, _, Nat.zero_le _, rfl, hown1, fun i h hi => absurd hi (by omega), hb1⟩
  case round =>
    obtain ⟨k, xs, hk, rfl, hown, hpart, hbel⟩ := hrel
    clear hown1 hb1
    by_cases hlt : k < l.length
    · rcases HI.out.step hbel with h0 | ⟨b, off, rfl, hbl, hc⟩
      · omega
      · have hlt2 : (k : Int) < (l.length : Int) := by omega
        obtain ⟨x0, p, pc, x1, hT⟩ := hc k hlt
        have HC : Hid (Calls _ _ _ _ _) := toRead_any l[k].coll p pc l[k].f wr hT (HS.out l[k] (List.getElem_mem _))
        have hz := hbel.size
        have HO : Hid (World.ownsRow _ _ _ _ _ _ _) := hown
        have HP : Hid (partRd _ _ _ _ _) := hpart
        have HB : Hid (Below _ _ _) := hbel
        have hgl : w.heap.size < wr.heap.size := (hown.lt _ rfl).2
        clear hc hown hbel hT hpart
        go_wp2_with fail
        refine HC.out.mono ?_
        rintro e w2 ⟨⟨g2, rfl, hR2⟩, hb2⟩
        have hown2 := owns_below HO.out hb2
        have hxl : xs.length = l.length * 2 := hown2.1
        obtain ⟨z0, y0⟩ := Tr.own_there hown2 (k * 2) (by omega)
        obtain ⟨z1, y1⟩ := Tr.own_there hown2 (k * 2 + 1) (by omega)
        have f0 := World.ownsRow.frozenAt hown2 (k * 2)
        have f1 := World.ownsRow.frozenAt hown2 (k * 2 + 1)
        have hst := (World.ownsRow.stored (World.ownsRow.stored hown2 (k * 2) (.string l[k].coll)).1 (k * 2 + 1) (.slice (some ⟨g2, 0, none⟩) l[k].f.length l[k].f.length)).1
        have hpart2 : partRd ((w2.setCell ⟨w.heap.size, k * 2, none⟩ (.string l[k].coll)).setCell ⟨w.heap.size, k * 2 + 1, none⟩ (.slice (some ⟨g2, 0, none⟩) l[k].f.length l[k].f.length)) w.heap.size ((xs.set (k * 2) (.string l[k].coll)).set (k * 2 + 1) (.slice (some ⟨g2, 0, none⟩) l[k].f.length l[k].f.length)) l (k + 1) := by
          intro i h hi
          by_cases hik : i = k
          · subst hik
            refine ⟨by rw [List.getElem?_set_ne (by omega), List.getElem?_set_self (by omega)], g2, by rw [List.getElem?_set_self (by rw [List.length_set]; omega)], ?_⟩
            exact ((madeR_mono hR2 (by omega)).set (by omega)).set (by omega)
          · obtain ⟨e0, g, e1, e2⟩ := HP.out i h (by omega)
            refine ⟨by rw [List.getElem?_set_ne (by omega), List.getElem?_set_ne (by omega)]; exact e0, g, by rw [List.getElem?_set_ne (by omega), List.getElem?_set_ne (by omega)]; exact e1, ?_⟩
            exact ((madeR_next e2 hb2).set (by omega)).set (by omega)
        have HST : Hid (World.ownsRow _ _ _ _ _ _ _) := hst
        have HPA : Hid (partRd _ _ _ _ _) := hpart2
        have HB2 : Hid (Below _ _ _) := HB.out.trans (hb2.mono HB.out.size)
        have hz2 := hb2.size
        clear hst hown2 hb2 hpart2 hR2 HC
        go_wp2_with fail
        go_roundw
        case rel => exact ⟨k + 1, _, by omega, by go_num, HST.out, HPA.out, (HB2.out.setCell (Nat.le_refl _) _).setCell (Nat.le_refl _) _⟩
        case measure => simp [intOf]; omega
    · have hlt2 : ¬ (k : Int) < (l.length : Int) := by omega
      have hR : MadeRd wr w.heap.size w.heap.size l := ⟨Nat.le_refl _, (hown.lt _ rfl).2, fun i hi => by
        obtain ⟨e0, g, e1, e2⟩ := hpart i hi (by omega)
        exact ⟨owns_cell hown _ _ e0, g, owns_cell hown _ _ e1, madeR_mono e2 (by omega)⟩, Blk.of_own hown⟩
      have HR : Hid (MadeRd _ _ _ _) := hR
      clear hR hpart hown
      go_wp2_with fail
      go_ret
      exact ⟨⟨w.heap.size, rfl, HR.out⟩, hbel⟩
structure ReadCg (w : World) (g : Nat) (l : List Cgr) : Prop where
  lt : g < w.heap.size
  cells : ∀ i (h : i < l.length), w.cell? ⟨g, i * 10, none⟩ = some (.string l[i].wr.coll) ∧ w.cell? ⟨g, i * 10 + 1, none⟩ = some (.int .i64 l[i].wr.id) ∧ w.cell? ⟨g, i * 10 + 2, none⟩ = some (.bool l[i].wr.gone) ∧ w.cell? ⟨g, i * 10 + 3, none⟩ = some (.int .i64 l[i].wr.doc.k) ∧ w.cell? ⟨g, i * 10 + 4, none⟩ = some (.int .i64 l[i].wr.doc.n) ∧ w.cell? ⟨g, i * 10 + 5, none⟩ = some (.string l[i].wr.doc.t) ∧ w.cell? ⟨g, i * 10 + 6, none⟩ = some (.int .i64 l[i].bef.k) ∧ w.cell? ⟨g, i * 10 + 7, none⟩ = some (.int .i64 l[i].bef.n) ∧ w.cell? ⟨g, i * 10 + 8, none⟩ = some (.string l[i].bef.t) ∧ w.cell? ⟨g, i * 10 + 9, none⟩ = some (.bool l[i].was)
  blk : Blk w g 180 (l.length * 10)
theorem ReadCg.old {w : World} {g : Nat} {l : List Cgr} (h : ReadCg w g l) : Ce.ReadCg w g l := ⟨h.lt, h.cells⟩
theorem ReadCg.next {w w' : World} {g : Nat} {l : List Cgr} (h : ReadCg w g l) (hb : Below w.heap.size w w') : ReadCg w' g l :=
  ⟨(h.old.next hb).lt, (h.old.next hb).cells, h.blk.keep (hb.block g h.lt)⟩
theorem ReadCg.of_own {w : World} {base g cap : Nat} {l : List Cgr} (h : w.ownsRow base 180 10 (.slice (some ⟨g, 0, none⟩) l.length cap) l.length (flatCg l)) : ReadCg w g l :=
  ⟨(Ce.ReadCg.of_own h).lt, (Ce.ReadCg.of_own h).cells, Blk.of_own h⟩
theorem readCg_set {w : World} {g b o : Nat} {v : Value} {l : List Cgr} (h : ReadCg w g l) (hne : g ≠ b) : ReadCg (w.setCell ⟨b, o, none⟩ v) g l :=
  ⟨(Ce.readCg_set h.old hne).lt, (Ce.readCg_set h.old hne).cells, h.blk.keep ((grown_setC (w := w) (g := b) (o := o) (v := v)).block g h.lt (fun e => hne (by injection e)))⟩
set_option maxRecDepth 4000 in
set_option maxHeartbeats 4000000 in
theorem toDone_any (sn at_ : Int) (p1 p2 : Option Addr) (c1 c2 : Nat) (di do_ : Bool) (rs : List Rdg) (cs : List Cgr) (w : World) (h1 : InRd w p1 rs) (h2 : InCg w p2 cs) (hz : SzDn rs cs) :
    Calls Tryz.prog 70 #[.agg #[.int .i64 sn, .int .i64 at_, .slice p1 rs.length c1, .slice p2 cs.length c2, .bool di, .bool do_]] w fun e w' => (∃ g h, e = .returned (.agg #[.int .i64 sn, .int .i64 at_, .slice (some ⟨g, 0, none⟩) rs.length rs.length, .slice (some ⟨h, 0, none⟩) cs.length cs.length, .bool di, .bool do_]) ∧ MadeRd w' w.heap.size g rs ∧ ReadCg w' h cs ∧ w.heap.size ≤ h) ∧ Below w.heap.size w w' := by
  have M0 := MkDn.start2 w (.int .i64 sn) (.int .i64 at_) (.slice p1 rs.length c1) (.slice p2 cs.length c2) (.bool di) (.bool do_) (.int .i64 sn) (.int .i64 at_) (.slice none 0 0) (.slice none 0 0) (.bool false) (.bool false) 113 81
  have HI1 : Hid (InRd _ _ _) := h1
  have HI2 : Hid (InCg _ _ _) := h2
  have HZ : Hid (SzDn _ _) := hz
  clear h1 h2 hz
  go_enter Tryz.func70, Tryz.ntmps70
  go_wp2_with fail
  generalize ((w.alloc _).alloc _).alloc _ = W0 at M0 ⊢
  have hw0 := M0.lt
  refine (toReadS_any p1 c1 rs _ (HI1.out.step M0.bel) HZ.out.r0 HZ.out.r1).mono ?_
  rintro e w1 ⟨⟨g, rfl, hM1⟩, hb⟩
  have M1 := M0.next hb
  have HM1 : Hid (MadeRd _ _ _ _) := hM1.mono (base' := w.heap.size + 3) (by omega)
  obtain ⟨q0, q1, q2, q3, q4, q5⟩ := sixDn M1.pb
  obtain ⟨o0, o1, o2, o3, o4, o5⟩ := sixDn M1.ob
  have z2 := softDn M1.ob 2
  have hlt := M1.lt
  have hlp : w.heap.size < w1.heap.size := by omega
  have M1' := M1.set 2 (.slice (some ⟨g, 0, none⟩) rs.length rs.length)
  have HM1' : Hid (MadeRd _ _ _ _) := HM1.out.set (b := w.heap.size + 2) (o := 2) (v := .slice (some ⟨g, 0, none⟩) rs.length rs.length) (by omega)
  clear hb M0 hM1 M1 HM1 hw0
  go_wp2_with fail
  refine (toChangeS_any p2 c2 cs _ (HI2.out.step M1'.bel) HZ.out.s0).mono ?_
  rintro e w2 ⟨⟨h, rfl, hO2⟩, hb⟩
  have M2 := M1'.next hb
  have HM2 : Hid (MadeRd _ _ _ _) := HM1'.out.next hb
  have HR2 : Hid (ReadCg w2 h cs) := ReadCg.of_own hO2
  have hge : w.heap.size + 3 ≤ h := by have h0 := (hO2.lt h rfl).1; have := M1'.lt; omega
  clear hb hO2 HM1' M1' q0 q1 q2 q3 q4 q5 o0 o1 o2 o3 o4 o5 z2 hlt hlp
  obtain ⟨q0, q1, q2, q3, q4, q5⟩ := sixDn M2.pb
  obtain ⟨o0, o1, o2, o3, o4, o5⟩ := sixDn (show w2.heap[w.heap.size + 2]? = some (.cells #[.int .i64 sn, .int .i64 at_, .slice (some ⟨g, 0, none⟩) rs.length rs.length, .slice none 0 0, .bool false, .bool false] _) from M2.ob)
  obtain ⟨r0, r1, r2, r3, r4, r5⟩ := sixDn M2.rb
  have y0 := softDn M2.rb 0
  have y1 := softDn M2.rb 1
  have y2 := softDn M2.rb 2
  have y3 := softDn M2.rb 3
  have y4 := softDn M2.rb 4
  have y5 := softDn M2.rb 5
  have z0 := softDn M2.ob 0
  have z1 := softDn M2.ob 1
  have z2 := softDn M2.ob 2
  have z3 := softDn M2.ob 3
  have z4 := softDn M2.ob 4
  have z5 := softDn M2.ob 5
  have hlt := M2.lt
  have hlp : w.heap.size < w2.heap.size := by omega
  have hbw := M2.bel
  clear M2
  go_wp2_with fail
  refine bodyPost_ret (v := .agg #[.int .i64 sn, .int .i64 at_, .slice (some ⟨g, 0, none⟩) rs.length rs.length, .slice (some ⟨h, 0, none⟩) cs.length cs.length, .bool di, .bool do_]) (by simp [results, Tryz.results70, go_sem, *]) rfl ⟨⟨g, h, rfl, ?_, ?_, by omega⟩, ?_⟩
  · refine MadeRd.mono (base := w.heap.size + 3) ?_ (by omega)
    repeat (first | (with_reducible exact HM2.out) | (with_reducible refine MadeRd.set ?_ (by omega)))
  · repeat (first | (with_reducible exact HR2.out) | (with_reducible refine readCg_set ?_ (by omega)))
  · (repeat (first | (with_reducible exact Below.refl _ _) | (with_reducible assumption) | (with_reducible apply below_drewN) | (with_reducible apply Below.drew) | ((with_reducible refine Below.setCell ?_ ?_ _); rotate_left; focus (first | (simp; done) | (simp; omega) | omega)) | ((with_reducible refine Below.alloc ?_ ?_ _); rotate_left; focus (first | (simp; done) | (simp; omega) | omega))))

structure MadeDn (w : World) (base g : Nat) (l : List Dn) : Prop where
  ge : base ≤ g
  lt : g < w.heap.size
  cells : ∀ i (h : i < l.length), ∃ gr gc, (w.cell? ⟨g, i * 6, none⟩ = some (.int .i64 l[i].sn) ∧ w.cell? ⟨g, i * 6 + 1, none⟩ = some (.int .i64 l[i].at_) ∧ w.cell? ⟨g, i * 6 + 2, none⟩ = some (.slice (some ⟨gr, 0, none⟩) l[i].rs.length l[i].rs.length) ∧ w.cell? ⟨g, i * 6 + 3, none⟩ = some (.slice (some ⟨gc, 0, none⟩) l[i].cs.length l[i].cs.length) ∧ w.cell? ⟨g, i * 6 + 4, none⟩ = some (.bool l[i].di) ∧ w.cell? ⟨g, i * 6 + 5, none⟩ = some (.bool l[i].do_)) ∧ MadeRd w base gr l[i].rs ∧ ReadCg w gc l[i].cs ∧ base ≤ gc
  blk : Blk w g 81 (l.length * 6)
theorem MadeDn.old {w : World} {base g : Nat} {l : List Dn} (h : MadeDn w base g l) : Ce.MadeDn w base g l := ⟨h.ge, h.lt, fun i hi => by
    obtain ⟨gr, gc, x, y, z, u⟩ := h.cells i hi
    exact ⟨gr, gc, x, y.old, z.old, u⟩⟩
theorem MadeDn.next {w w' : World} {base g : Nat} {l : List Dn} (h : MadeDn w base g l) (hb : Below w.heap.size w w') : MadeDn w' base g l :=
  ⟨h.ge, Nat.lt_of_lt_of_le h.lt hb.size, fun i hi => by
    obtain ⟨gr, gc, ⟨x0, x1, x2, x3, x4, x5⟩, y, z, u⟩ := h.cells i hi
    exact ⟨gr, gc, ⟨(hb.cell h.lt).trans x0, (hb.cell h.lt).trans x1, (hb.cell h.lt).trans x2, (hb.cell h.lt).trans x3, (hb.cell h.lt).trans x4, (hb.cell h.lt).trans x5⟩, y.next hb, z.next hb, u⟩, h.blk.keep (hb.block g h.lt)⟩
theorem MadeDn.mono {w : World} {base base' g : Nat} {l : List Dn} (h : MadeDn w base g l) (hb : base' ≤ base) : MadeDn w base' g l :=
  ⟨Nat.le_trans hb h.ge, h.lt, fun i hi => by
    obtain ⟨gr, gc, x, y, z, u⟩ := h.cells i hi
    exact ⟨gr, gc, x, y.mono hb, z, Nat.le_trans hb u⟩, h.blk⟩
def partDn (w : World) (base : Nat) (xs : List Value) (l : List Dn) (k : Nat) : Prop := ∀ i (h : i < l.length), i < k → ∃ gr gc, (xs[i * 6]? = some (.int .i64 l[i].sn) ∧ xs[i * 6 + 1]? = some (.int .i64 l[i].at_) ∧ xs[i * 6 + 2]? = some (.slice (some ⟨gr, 0, none⟩) l[i].rs.length l[i].rs.length) ∧ xs[i * 6 + 3]? = some (.slice (some ⟨gc, 0, none⟩) l[i].cs.length l[i].cs.length) ∧ xs[i * 6 + 4]? = some (.bool l[i].di) ∧ xs[i * 6 + 5]? = some (.bool l[i].do_)) ∧ MadeRd w (base + 1) gr l[i].rs ∧ ReadCg w gc l[i].cs ∧ base + 1 ≤ gc
set_option maxRecDepth 8000 in
set_option maxHeartbeats 4000000 in
theorem toDoneS_any (a : Option Addr) (cap : Nat) (l : List Dn) (w : World) (hin : InDn w a l) (hlen : l.length ≤ 1048576) (hs : ∀ v ∈ l, szDn v) :
    Calls Tryz.prog 38 #[.slice a l.length cap] w fun e w' => (∃ g, e = .returned (.slice (some ⟨g, 0, none⟩) l.length l.length) ∧ MadeDn w' w.heap.size g l) ∧ Below w.heap.size w w' := by
  obtain ⟨i0, hi, hz0, hz1, hz2⟩ := info_parts infoDn
  have HI : Hid (InDn _ _ _) := hin
  have HS : Hid (∀ v ∈ l, szDn v) := hs
  clear hin hs
  go_enter Tryz.func38, Tryz.ntmps38
  go_wp2_with (refine wpList_make_full _ rfl (.tmp 6) (.tmp 6) 31 rfl w.heap.size 81 i0 (.agg #[.int .i64 0, .int .i64 0, .slice none 0 0, .slice none 0 0, .bool false, .bool false]) 6 Tryz.underlying31 hi hz0 hz1 .i64 .i64 _ _ l.length rfl rfl rfl rfl (by rw [hz2]; omega) (by unfold maxLen; omega) (Nat.le_refl _) ?_; intro w1 hown1 hgrow1)
  have hb1 : Below w.heap.size w w1 := Below.grown (Below.refl _ _) hgrow1 (Nat.le_refl _) (fun k h => by cases h)
  clear hgrow1
  go_loopw [4] (fun i wr => ∃ (k : Nat) (xs : List Value), k ≤ l.length ∧ i = .int .i64 k ∧ wr.ownsRow w.heap.size 81 6 (.slice (some ⟨w.heap.size, 0, none⟩) l.length l.length) l.length xs ∧ partDn wr w.heap.size xs l k ∧ Below w.heap.size w wr) (fun i _ => l.length - (intOf i).toNat)
  case atStart => exact ⟨0, _, Nat.zero_le _, rfl, hown1, fun i h hi => absurd hi (by omega), hb1⟩
  case round =>
    obtain ⟨k, xs, hk, rfl, hown, hpart, hbel⟩ := hrel
    clear hown1 hb1
    by_cases hlt : k < l.length
    · rcases HI.out.step hbel with h0 | ⟨b, off, rfl, hbl, hc⟩
      · omega
      · have hlt2 : (k : Int) < (l.length : Int) := by omega
        obtain ⟨p, cp, q, cq, ⟨x0, x1, x2, x3, x4, x5⟩, hT, hU⟩ := hc k hlt
        have hsk := HS.out l[k] (List.getElem_mem _)
        obtain ⟨x, hx⟩ : ∃ x, x = l[k] := ⟨_, rfl⟩
        have HX : Hid (x = l[k]) := hx
        rw [← hx] at x0 x1 x2 x3 x4 x5 hT hU hsk
        have HC : Hid (Calls _ _ _ _ _) := toDone_any x.sn x.at_ p q cp cq x.di x.do_ x.rs x.cs wr hT hU hsk
        have hz := hbel.size
        have HO : Hid (World.ownsRow _ _ _ _ _ _ _) := hown
        have HP : Hid (partDn _ _ _ _ _) := hpart
        have HB : Hid (Below _ _ _) := hbel
        have hgl : w.heap.size < wr.heap.size := (hown.lt _ rfl).2
        clear hc hown hbel hT hU hpart hx hsk
        go_wp2_with fail
        refine HC.out.mono ?_
        rintro e w2 ⟨⟨gr, gc, rfl, hR2, hR3, hR4⟩, hb2⟩
        have hown2 := owns_below HO.out hb2
        have hxl : xs.length = l.length * 6 := hown2.1
        obtain ⟨z0, y0⟩ := Tr.own_there hown2 (k * 6) (by omega)
        obtain ⟨z1, y1⟩ := Tr.own_there hown2 (k * 6 + 1) (by omega)
        obtain ⟨z2, y2⟩ := Tr.own_there hown2 (k * 6 + 2) (by omega)
        obtain ⟨z3, y3⟩ := Tr.own_there hown2 (k * 6 + 3) (by omega)
        obtain ⟨z4, y4⟩ := Tr.own_there hown2 (k * 6 + 4) (by omega)
        obtain ⟨z5, y5⟩ := Tr.own_there hown2 (k * 6 + 5) (by omega)
        have f0 := World.ownsRow.frozenAt hown2 (k * 6)
        have f1 := World.ownsRow.frozenAt hown2 (k * 6 + 1)
        have f2 := World.ownsRow.frozenAt hown2 (k * 6 + 2)
        have f3 := World.ownsRow.frozenAt hown2 (k * 6 + 3)
        have f4 := World.ownsRow.frozenAt hown2 (k * 6 + 4)
        have f5 := World.ownsRow.frozenAt hown2 (k * 6 + 5)
        have hst := (World.ownsRow.stored (World.ownsRow.stored (World.ownsRow.stored (World.ownsRow.stored (World.ownsRow.stored (World.ownsRow.stored hown2 (k * 6) (.int .i64 x.sn)).1 (k * 6 + 1) (.int .i64 x.at_)).1 (k * 6 + 2) (.slice (some ⟨gr, 0, none⟩) x.rs.length x.rs.length)).1 (k * 6 + 3) (.slice (some ⟨gc, 0, none⟩) x.cs.length x.cs.length)).1 (k * 6 + 4) (.bool x.di)).1 (k * 6 + 5) (.bool x.do_)).1
        have hpart2 : partDn ((((((w2.setCell ⟨w.heap.size, k * 6, none⟩ (.int .i64 x.sn)).setCell ⟨w.heap.size, k * 6 + 1, none⟩ (.int .i64 x.at_)).setCell ⟨w.heap.size, k * 6 + 2, none⟩ (.slice (some ⟨gr, 0, none⟩) x.rs.length x.rs.length)).setCell ⟨w.heap.size, k * 6 + 3, none⟩ (.slice (some ⟨gc, 0, none⟩) x.cs.length x.cs.length)).setCell ⟨w.heap.size, k * 6 + 4, none⟩ (.bool x.di)).setCell ⟨w.heap.size, k * 6 + 5, none⟩ (.bool x.do_)) w.heap.size ((((((xs.set (k * 6) (.int .i64 x.sn)).set (k * 6 + 1) (.int .i64 x.at_)).set (k * 6 + 2) (.slice (some ⟨gr, 0, none⟩) x.rs.length x.rs.length)).set (k * 6 + 3) (.slice (some ⟨gc, 0, none⟩) x.cs.length x.cs.length)).set (k * 6 + 4) (.bool x.di)).set (k * 6 + 5) (.bool x.do_)) l (k + 1) := by
          intro i h hi
          by_cases hik : i = k
          · subst hik
            have hxx := HX.out
            subst hxx
            refine ⟨gr, gc, ⟨by rw [List.getElem?_set_ne (by omega), List.getElem?_set_ne (by omega), List.getElem?_set_ne (by omega), List.getElem?_set_ne (by omega), List.getElem?_set_ne (by omega), List.getElem?_set_self (by first | (simp only [List.length_set]; omega) | omega)], by rw [List.getElem?_set_ne (by omega), List.getElem?_set_ne (by omega), List.getElem?_set_ne (by omega), List.getElem?_set_ne (by omega), List.getElem?_set_self (by first | (simp only [List.length_set]; omega) | omega)], by rw [List.getElem?_set_ne (by omega), List.getElem?_set_ne (by omega), List.getElem?_set_ne (by omega), List.getElem?_set_self (by first | (simp only [List.length_set]; omega) | omega)], by rw [List.getElem?_set_ne (by omega), List.getElem?_set_ne (by omega), List.getElem?_set_self (by first | (simp only [List.length_set]; omega) | omega)], by rw [List.getElem?_set_ne (by omega), List.getElem?_set_self (by first | (simp only [List.length_set]; omega) | omega)], by rw [List.getElem?_set_self (by first | (simp only [List.length_set]; omega) | omega)]⟩, ?_, ?_, by omega⟩
            · exact (((((((hR2.mono (by omega)).set (by omega)).set (by omega)).set (by omega)).set (by omega)).set (by omega)).set (by omega))
            · exact (readCg_set (readCg_set (readCg_set (readCg_set (readCg_set (readCg_set (hR3) (by omega)) (by omega)) (by omega)) (by omega)) (by omega)) (by omega))
          · obtain ⟨er, ec, ⟨e0, e1, e2, e3, e4, e5⟩, e6, e7, e8⟩ := HP.out i h (by omega)
            refine ⟨er, ec, ⟨by rw [List.getElem?_set_ne (by omega), List.getElem?_set_ne (by omega), List.getElem?_set_ne (by omega), List.getElem?_set_ne (by omega), List.getElem?_set_ne (by omega), List.getElem?_set_ne (by omega)]; exact e0, by rw [List.getElem?_set_ne (by omega), List.getElem?_set_ne (by omega), List.getElem?_set_ne (by omega), List.getElem?_set_ne (by omega), List.getElem?_set_ne (by omega), List.getElem?_set_ne (by omega)]; exact e1, by rw [List.getElem?_set_ne (by omega), List.getElem?_set_ne (by omega), List.getElem?_set_ne (by omega), List.getElem?_set_ne (by omega), List.getElem?_set_ne (by omega), List.getElem?_set_ne (by omega)]; exact e2, by rw [List.getElem?_set_ne (by omega), List.getElem?_set_ne (by omega), List.getElem?_set_ne (by omega), List.getElem?_set_ne (by omega), List.getElem?_set_ne (by omega), List.getElem?_set_ne (by omega)]; exact e3, by rw [List.getElem?_set_ne (by omega), List.getElem?_set_ne (by omega), List.getElem?_set_ne (by omega), List.getElem?_set_ne (by omega), List.getElem?_set_ne (by omega), List.getElem?_set_ne (by omega)]; exact e4, by rw [List.getElem?_set_ne (by omega), List.getElem?_set_ne (by omega), List.getElem?_set_ne (by omega), List.getElem?_set_ne (by omega), List.getElem?_set_ne (by omega), List.getElem?_set_ne (by omega)]; exact e5⟩, ?_, ?_, e8⟩
            · exact (((((((e6.next hb2).set (by omega)).set (by omega)).set (by omega)).set (by omega)).set (by omega)).set (by omega))
            · exact (readCg_set (readCg_set (readCg_set (readCg_set (readCg_set (readCg_set (e7.next hb2) (by omega)) (by omega)) (by omega)) (by omega)) (by omega)) (by omega))
        have HST : Hid (World.ownsRow _ _ _ _ _ _ _) := hst
        have HPA : Hid (partDn _ _ _ _ _) := hpart2
        have HB2 : Hid (Below _ _ _) := HB.out.trans (hb2.mono HB.out.size)
        have hz2 := hb2.size
        clear hst hown2 hb2 hpart2 hR2 hR3 HC
        go_wp2_with fail
        go_roundw
        case rel => exact ⟨k + 1, _, by omega, by go_num, HST.out, HPA.out, ((((((HB2.out.setCell (Nat.le_refl _) _).setCell (Nat.le_refl _) _).setCell (Nat.le_refl _) _).setCell (Nat.le_refl _) _).setCell (Nat.le_refl _) _).setCell (Nat.le_refl _) _)⟩
        case measure => simp [intOf]; omega
    · have hlt2 : ¬ (k : Int) < (l.length : Int) := by omega
      have hR : MadeDn wr w.heap.size w.heap.size l := ⟨Nat.le_refl _, (hown.lt _ rfl).2, fun i hi => by
        obtain ⟨er, ec, ⟨e0, e1, e2, e3, e4, e5⟩, e6, e7, e8⟩ := hpart i hi (by omega)
        exact ⟨er, ec, ⟨owns_cell hown _ _ e0, owns_cell hown _ _ e1, owns_cell hown _ _ e2, owns_cell hown _ _ e3, owns_cell hown _ _ e4, owns_cell hown _ _ e5⟩, e6.mono (by omega), e7, by omega⟩, Blk.of_own hown⟩
      have HR : Hid (MadeDn _ _ _ _) := hR
      clear hR hpart hown
      go_wp2_with fail
      go_ret
      exact ⟨⟨w.heap.size, rfl, HR.out⟩, hbel⟩

end Go.Proofs.YtpfbepbmiillbaaGreatDoor.Ty

/- Transactions, collections and stores made by the laws' helpers, with the types of their blocks. -/
namespace Go.Proofs.YtpfbepbmiillbaaGreatDoor.Ty
open Go.RowKit Go.ChangeShapes Go.WideShapes Go.ChangeAt Go.Joins Tr Co Rea Ce Tx
set_option linter.unusedVariables false

structure ReadWs (w : World) (g : Nat) (l : List Wrt) : Prop where
  lt : g < w.heap.size
  cells : ∀ i (h : i < l.length), w.cell? ⟨g, i * 6, none⟩ = some (.string l[i].coll) ∧ w.cell? ⟨g, i * 6 + 1, none⟩ = some (.int .i64 l[i].id) ∧ w.cell? ⟨g, i * 6 + 2, none⟩ = some (.bool l[i].gone) ∧ w.cell? ⟨g, i * 6 + 3, none⟩ = some (.int .i64 l[i].doc.k) ∧ w.cell? ⟨g, i * 6 + 4, none⟩ = some (.int .i64 l[i].doc.n) ∧ w.cell? ⟨g, i * 6 + 5, none⟩ = some (.string l[i].doc.t)
  blk : Blk w g 78 (l.length * 6)
theorem ReadWs.old {w : World} {g : Nat} {l : List Wrt} (h : ReadWs w g l) : Tx.ReadWs w g l := ⟨h.lt, h.cells⟩
theorem ReadWs.next {w w' : World} {g : Nat} {l : List Wrt} (h : ReadWs w g l) (hb : Below w.heap.size w w') : ReadWs w' g l :=
  ⟨(h.old.next hb).lt, (h.old.next hb).cells, h.blk.keep (hb.block g h.lt)⟩
theorem ReadWs.of_own {w : World} {base g cap : Nat} {l : List Wrt} (h : w.ownsRow base 78 6 (.slice (some ⟨g, 0, none⟩) l.length cap) l.length (flatWs l)) : ReadWs w g l :=
  ⟨(Tx.ReadWs.of_own h).lt, (Tx.ReadWs.of_own h).cells, Blk.of_own h⟩
theorem readWs_set {w : World} {g b o : Nat} {v : Value} {l : List Wrt} (h : ReadWs w g l) (hne : g ≠ b) : ReadWs (w.setCell ⟨b, o, none⟩ v) g l :=
  ⟨(Tx.readWs_set h.old hne).lt, (Tx.readWs_set h.old hne).cells, h.blk.keep ((grown_setC (w := w) (g := b) (o := o) (v := v)).block g h.lt (fun e => hne (by injection e)))⟩
set_option maxRecDepth 4000 in
set_option maxHeartbeats 4000000 in
theorem toTxn_any (sn sp : Int) (p1 p2 : Option Addr) (c1 c2 : Nat) (rs : List Rdg) (cs : List Wrt) (w : World) (h1 : InRd w p1 rs) (h2 : InWs w p2 cs) (hz : SzTn rs cs) :
    Calls Tryz.prog 69 #[.agg #[.int .i64 sn, .int .i64 sp, .slice p1 rs.length c1, .slice p2 cs.length c2]] w fun e w' => (∃ g h, e = .returned (.agg #[.int .i64 sn, .int .i64 sp, .slice (some ⟨g, 0, none⟩) rs.length rs.length, .slice (some ⟨h, 0, none⟩) cs.length cs.length]) ∧ MadeRd w' w.heap.size g rs ∧ ReadWs w' h cs ∧ w.heap.size ≤ h) ∧ Below w.heap.size w w' := by
  have M0 := MkTn.start2 w (.int .i64 sn) (.int .i64 sp) (.slice p1 rs.length c1) (.slice p2 cs.length c2) (.int .i64 sn) (.int .i64 sp) (.slice none 0 0) (.slice none 0 0) 109 75
  have HI1 : Hid (InRd _ _ _) := h1
  have HI2 : Hid (InWs _ _ _) := h2
  have HZ : Hid (SzTn _ _) := hz
  clear h1 h2 hz
  go_enter Tryz.func69, Tryz.ntmps69
  go_wp2_with fail
  generalize ((w.alloc _).alloc _).alloc _ = W0 at M0 ⊢
  have hw0 := M0.lt
  refine (toReadS_any p1 c1 rs _ (HI1.out.step M0.bel) HZ.out.r0 HZ.out.r1).mono ?_
  rintro e w1 ⟨⟨g, rfl, hM1⟩, hb⟩
  have M1 := M0.next hb
  have HM1 : Hid (MadeRd _ _ _ _) := hM1.mono (base' := w.heap.size + 3) (by omega)
  obtain ⟨q0, q1, q2, q3⟩ := fourTn M1.pb
  obtain ⟨o0, o1, o2, o3⟩ := fourTn M1.ob
  have z2 := softTn M1.ob 2
  have hlt := M1.lt
  have hlp : w.heap.size < w1.heap.size := by omega
  have M1' := M1.set 2 (.slice (some ⟨g, 0, none⟩) rs.length rs.length)
  have HM1' : Hid (MadeRd _ _ _ _) := HM1.out.set (b := w.heap.size + 2) (o := 2) (v := .slice (some ⟨g, 0, none⟩) rs.length rs.length) (by omega)
  clear hb M0 hM1 M1 HM1 hw0
  go_wp2_with fail
  refine (toWriteS_any p2 c2 cs _ (HI2.out.step M1'.bel) HZ.out.s0).mono ?_
  rintro e w2 ⟨⟨h, rfl, hO2⟩, hb⟩
  have M2 := M1'.next hb
  have HM2 : Hid (MadeRd _ _ _ _) := HM1'.out.next hb
  have HR2 : Hid (ReadWs w2 h cs) := ReadWs.of_own hO2
  have hge : w.heap.size + 3 ≤ h := by have h0 := (hO2.lt h rfl).1; have := M1'.lt; omega
  clear hb hO2 HM1' M1' q0 q1 q2 q3 o0 o1 o2 o3 z2 hlt hlp
  obtain ⟨q0, q1, q2, q3⟩ := fourTn M2.pb
  obtain ⟨o0, o1, o2, o3⟩ := fourTn (show w2.heap[w.heap.size + 2]? = some (.cells #[.int .i64 sn, .int .i64 sp, .slice (some ⟨g, 0, none⟩) rs.length rs.length, .slice none 0 0] _) from M2.ob)
  obtain ⟨r0, r1, r2, r3⟩ := fourTn M2.rb
  have y0 := softTn M2.rb 0
  have y1 := softTn M2.rb 1
  have y2 := softTn M2.rb 2
  have y3 := softTn M2.rb 3
  have z0 := softTn M2.ob 0
  have z1 := softTn M2.ob 1
  have z2 := softTn M2.ob 2
  have z3 := softTn M2.ob 3
  have hlt := M2.lt
  have hlp : w.heap.size < w2.heap.size := by omega
  have hbw := M2.bel
  clear M2
  go_wp2_with fail
  refine bodyPost_ret (v := .agg #[.int .i64 sn, .int .i64 sp, .slice (some ⟨g, 0, none⟩) rs.length rs.length, .slice (some ⟨h, 0, none⟩) cs.length cs.length]) (by simp [results, Tryz.results69, go_sem, *]) rfl ⟨⟨g, h, rfl, ?_, ?_, by omega⟩, ?_⟩
  · refine MadeRd.mono (base := w.heap.size + 3) ?_ (by omega)
    repeat (first | (with_reducible exact HM2.out) | (with_reducible refine MadeRd.set ?_ (by omega)))
  · repeat (first | (with_reducible exact HR2.out) | (with_reducible refine readWs_set ?_ (by omega)))
  · (repeat (first | (with_reducible exact Below.refl _ _) | (with_reducible assumption) | (with_reducible apply below_drewN) | (with_reducible apply Below.drew) | ((with_reducible refine Below.setCell ?_ ?_ _); rotate_left; focus (first | (simp; done) | (simp; omega) | omega)) | ((with_reducible refine Below.alloc ?_ ?_ _); rotate_left; focus (first | (simp; done) | (simp; omega) | omega))))

structure MadeTn (w : World) (base g : Nat) (l : List Tn) : Prop where
  ge : base ≤ g
  lt : g < w.heap.size
  cells : ∀ i (h : i < l.length), ∃ gr gc, (w.cell? ⟨g, i * 4, none⟩ = some (.int .i64 l[i].sn) ∧ w.cell? ⟨g, i * 4 + 1, none⟩ = some (.int .i64 l[i].sp) ∧ w.cell? ⟨g, i * 4 + 2, none⟩ = some (.slice (some ⟨gr, 0, none⟩) l[i].rs.length l[i].rs.length) ∧ w.cell? ⟨g, i * 4 + 3, none⟩ = some (.slice (some ⟨gc, 0, none⟩) l[i].cs.length l[i].cs.length)) ∧ MadeRd w base gr l[i].rs ∧ ReadWs w gc l[i].cs ∧ base ≤ gc
  blk : Blk w g 75 (l.length * 4)
theorem MadeTn.old {w : World} {base g : Nat} {l : List Tn} (h : MadeTn w base g l) : Tx.MadeTn w base g l := ⟨h.ge, h.lt, fun i hi => by
    obtain ⟨gr, gc, x, y, z, u⟩ := h.cells i hi
    exact ⟨gr, gc, x, y.old, z.old, u⟩⟩
theorem MadeTn.next {w w' : World} {base g : Nat} {l : List Tn} (h : MadeTn w base g l) (hb : Below w.heap.size w w') : MadeTn w' base g l :=
  ⟨h.ge, Nat.lt_of_lt_of_le h.lt hb.size, fun i hi => by
    obtain ⟨gr, gc, ⟨x0, x1, x2, x3⟩, y, z, u⟩ := h.cells i hi
    exact ⟨gr, gc, ⟨(hb.cell h.lt).trans x0, (hb.cell h.lt).trans x1, (hb.cell h.lt).trans x2, (hb.cell h.lt).trans x3⟩, y.next hb, z.next hb, u⟩, h.blk.keep (hb.block g h.lt)⟩
theorem MadeTn.mono {w : World} {base base' g : Nat} {l : List Tn} (h : MadeTn w base g l) (hb : base' ≤ base) : MadeTn w base' g l :=
  ⟨Nat.le_trans hb h.ge, h.lt, fun i hi => by
    obtain ⟨gr, gc, x, y, z, u⟩ := h.cells i hi
    exact ⟨gr, gc, x, y.mono hb, z, Nat.le_trans hb u⟩, h.blk⟩
theorem MadeTn.set {w : World} {base g b o : Nat} {v : Value} {l : List Tn} (h : MadeTn w base g l) (hb : b < base) : MadeTn (w.setCell ⟨b, o, none⟩ v) base g l := by
  have hg : w.grownBy (w.setCell ⟨b, o, none⟩ v) (some b) := grown_setC
  have hne : some g ≠ some b := fun e => by injection e; have := h.ge; omega
  refine ⟨h.ge, Nat.lt_of_lt_of_le h.lt hg.size, fun i hi => ?_, h.blk.keep (hg.block g h.lt hne)⟩
  obtain ⟨gr, gc, ⟨x0, x1, x2, x3⟩, y, z, u⟩ := h.cells i hi
  have hk : ∀ o, (w.setCell ⟨b, _, none⟩ v).cell? ⟨g, o, none⟩ = w.cell? ⟨g, o, none⟩ := fun o => World.cell?_of_block (hg.block g h.lt hne)
  exact ⟨gr, gc, ⟨(hk _).trans x0, (hk _).trans x1, (hk _).trans x2, (hk _).trans x3⟩, y.set hb, readWs_set z (by omega), u⟩
def partTn (w : World) (base : Nat) (xs : List Value) (l : List Tn) (k : Nat) : Prop := ∀ i (h : i < l.length), i < k → ∃ gr gc, (xs[i * 4]? = some (.int .i64 l[i].sn) ∧ xs[i * 4 + 1]? = some (.int .i64 l[i].sp) ∧ xs[i * 4 + 2]? = some (.slice (some ⟨gr, 0, none⟩) l[i].rs.length l[i].rs.length) ∧ xs[i * 4 + 3]? = some (.slice (some ⟨gc, 0, none⟩) l[i].cs.length l[i].cs.length)) ∧ MadeRd w (base + 1) gr l[i].rs ∧ ReadWs w gc l[i].cs ∧ base + 1 ≤ gc
set_option maxRecDepth 8000 in
set_option maxHeartbeats 4000000 in
theorem toTxnS_any (a : Option Addr) (cap : Nat) (l : List Tn) (w : World) (hin : InTn w a l) (hlen : l.length ≤ 1048576) (hs : ∀ v ∈ l, szTn v) :
    Calls Tryz.prog 37 #[.slice a l.length cap] w fun e w' => (∃ g, e = .returned (.slice (some ⟨g, 0, none⟩) l.length l.length) ∧ MadeTn w' w.heap.size g l) ∧ Below w.heap.size w w' := by
  obtain ⟨i0, hi, hz0, hz1, hz2⟩ := info_parts infoTn
  have HI : Hid (InTn _ _ _) := hin
  have HS : Hid (∀ v ∈ l, szTn v) := hs
  clear hin hs
  go_enter Tryz.func37, Tryz.ntmps37
  go_wp2_with (refine wpList_make_full _ rfl (.tmp 6) (.tmp 6) 30 rfl w.heap.size 75 i0 (.agg #[.int .i64 0, .int .i64 0, .slice none 0 0, .slice none 0 0]) 4 Tryz.underlying30 hi hz0 hz1 .i64 .i64 _ _ l.length rfl rfl rfl rfl (by rw [hz2]; omega) (by unfold maxLen; omega) (Nat.le_refl _) ?_; intro w1 hown1 hgrow1)
  have hb1 : Below w.heap.size w w1 := Below.grown (Below.refl _ _) hgrow1 (Nat.le_refl _) (fun k h => by cases h)
  clear hgrow1
  go_loopw [4] (fun i wr => ∃ (k : Nat) (xs : List Value), k ≤ l.length ∧ i = .int .i64 k ∧ wr.ownsRow w.heap.size 75 4 (.slice (some ⟨w.heap.size, 0, none⟩) l.length l.length) l.length xs ∧ partTn wr w.heap.size xs l k ∧ Below w.heap.size w wr) (fun i _ => l.length - (intOf i).toNat)
  case atStart => exact ⟨0, _, Nat.zero_le _, rfl, hown1, fun i h hi => absurd hi (by omega), hb1⟩
  case round =>
    obtain ⟨k, xs, hk, rfl, hown, hpart, hbel⟩ := hrel
    clear hown1 hb1
    by_cases hlt : k < l.length
    · rcases HI.out.step hbel with h0 | ⟨b, off, rfl, hbl, hc⟩
      · omega
      · have hlt2 : (k : Int) < (l.length : Int) := by omega
        obtain ⟨p, cp, q, cq, ⟨x0, x1, x2, x3⟩, hT, hU⟩ := hc k hlt
        have hsk := HS.out l[k] (List.getElem_mem _)
        obtain ⟨x, hx⟩ : ∃ x, x = l[k] := ⟨_, rfl⟩
        have HX : Hid (x = l[k]) := hx
        rw [← hx] at x0 x1 x2 x3 hT hU hsk
        have HC : Hid (Calls _ _ _ _ _) := toTxn_any x.sn x.sp p q cp cq x.rs x.cs wr hT hU hsk
        have hz := hbel.size
        have HO : Hid (World.ownsRow _ _ _ _ _ _ _) := hown
        have HP : Hid (partTn _ _ _ _ _) := hpart
        have HB : Hid (Below _ _ _) := hbel
        have hgl : w.heap.size < wr.heap.size := (hown.lt _ rfl).2
        clear hc hown hbel hT hU hpart hx hsk
        go_wp2_with fail
        refine HC.out.mono ?_
        rintro e w2 ⟨⟨gr, gc, rfl, hR2, hR3, hR4⟩, hb2⟩
        have hown2 := owns_below HO.out hb2
        have hxl : xs.length = l.length * 4 := hown2.1
        obtain ⟨z0, y0⟩ := Tr.own_there hown2 (k * 4) (by omega)
        obtain ⟨z1, y1⟩ := Tr.own_there hown2 (k * 4 + 1) (by omega)
        obtain ⟨z2, y2⟩ := Tr.own_there hown2 (k * 4 + 2) (by omega)
        obtain ⟨z3, y3⟩ := Tr.own_there hown2 (k * 4 + 3) (by omega)
        have f0 := World.ownsRow.frozenAt hown2 (k * 4)
        have f1 := World.ownsRow.frozenAt hown2 (k * 4 + 1)
        have f2 := World.ownsRow.frozenAt hown2 (k * 4 + 2)
        have f3 := World.ownsRow.frozenAt hown2 (k * 4 + 3)
        have hst := (World.ownsRow.stored (World.ownsRow.stored (World.ownsRow.stored (World.ownsRow.stored hown2 (k * 4) (.int .i64 x.sn)).1 (k * 4 + 1) (.int .i64 x.sp)).1 (k * 4 + 2) (.slice (some ⟨gr, 0, none⟩) x.rs.length x.rs.length)).1 (k * 4 + 3) (.slice (some ⟨gc, 0, none⟩) x.cs.length x.cs.length)).1
        have hpart2 : partTn ((((w2.setCell ⟨w.heap.size, k * 4, none⟩ (.int .i64 x.sn)).setCell ⟨w.heap.size, k * 4 + 1, none⟩ (.int .i64 x.sp)).setCell ⟨w.heap.size, k * 4 + 2, none⟩ (.slice (some ⟨gr, 0, none⟩) x.rs.length x.rs.length)).setCell ⟨w.heap.size, k * 4 + 3, none⟩ (.slice (some ⟨gc, 0, none⟩) x.cs.length x.cs.length)) w.heap.size ((((xs.set (k * 4) (.int .i64 x.sn)).set (k * 4 + 1) (.int .i64 x.sp)).set (k * 4 + 2) (.slice (some ⟨gr, 0, none⟩) x.rs.length x.rs.length)).set (k * 4 + 3) (.slice (some ⟨gc, 0, none⟩) x.cs.length x.cs.length)) l (k + 1) := by
          intro i h hi
          by_cases hik : i = k
          · subst hik
            have hxx := HX.out
            subst hxx
            refine ⟨gr, gc, ⟨by rw [List.getElem?_set_ne (by omega), List.getElem?_set_ne (by omega), List.getElem?_set_ne (by omega), List.getElem?_set_self (by first | (simp only [List.length_set]; omega) | omega)], by rw [List.getElem?_set_ne (by omega), List.getElem?_set_ne (by omega), List.getElem?_set_self (by first | (simp only [List.length_set]; omega) | omega)], by rw [List.getElem?_set_ne (by omega), List.getElem?_set_self (by first | (simp only [List.length_set]; omega) | omega)], by rw [List.getElem?_set_self (by first | (simp only [List.length_set]; omega) | omega)]⟩, ?_, ?_, by omega⟩
            · exact (((((hR2.mono (by omega)).set (by omega)).set (by omega)).set (by omega)).set (by omega))
            · exact (readWs_set (readWs_set (readWs_set (readWs_set (hR3) (by omega)) (by omega)) (by omega)) (by omega))
          · obtain ⟨er, ec, ⟨e0, e1, e2, e3⟩, e6, e7, e8⟩ := HP.out i h (by omega)
            refine ⟨er, ec, ⟨by rw [List.getElem?_set_ne (by omega), List.getElem?_set_ne (by omega), List.getElem?_set_ne (by omega), List.getElem?_set_ne (by omega)]; exact e0, by rw [List.getElem?_set_ne (by omega), List.getElem?_set_ne (by omega), List.getElem?_set_ne (by omega), List.getElem?_set_ne (by omega)]; exact e1, by rw [List.getElem?_set_ne (by omega), List.getElem?_set_ne (by omega), List.getElem?_set_ne (by omega), List.getElem?_set_ne (by omega)]; exact e2, by rw [List.getElem?_set_ne (by omega), List.getElem?_set_ne (by omega), List.getElem?_set_ne (by omega), List.getElem?_set_ne (by omega)]; exact e3⟩, ?_, ?_, e8⟩
            · exact (((((e6.next hb2).set (by omega)).set (by omega)).set (by omega)).set (by omega))
            · exact (readWs_set (readWs_set (readWs_set (readWs_set (e7.next hb2) (by omega)) (by omega)) (by omega)) (by omega))
        have HST : Hid (World.ownsRow _ _ _ _ _ _ _) := hst
        have HPA : Hid (partTn _ _ _ _ _) := hpart2
        have HB2 : Hid (Below _ _ _) := HB.out.trans (hb2.mono HB.out.size)
        have hz2 := hb2.size
        clear hst hown2 hb2 hpart2 hR2 hR3 HC
        go_wp2_with fail
        go_roundw
        case rel => exact ⟨k + 1, _, by omega, by go_num, HST.out, HPA.out, ((((HB2.out.setCell (Nat.le_refl _) _).setCell (Nat.le_refl _) _).setCell (Nat.le_refl _) _).setCell (Nat.le_refl _) _)⟩
        case measure => simp [intOf]; omega
    · have hlt2 : ¬ (k : Int) < (l.length : Int) := by omega
      have hR : MadeTn wr w.heap.size w.heap.size l := ⟨Nat.le_refl _, (hown.lt _ rfl).2, fun i hi => by
        obtain ⟨er, ec, ⟨e0, e1, e2, e3⟩, e6, e7, e8⟩ := hpart i hi (by omega)
        exact ⟨er, ec, ⟨owns_cell hown _ _ e0, owns_cell hown _ _ e1, owns_cell hown _ _ e2, owns_cell hown _ _ e3⟩, e6.mono (by omega), e7, by omega⟩, Blk.of_own hown⟩
      have HR : Hid (MadeTn _ _ _ _) := hR
      clear hR hpart hown
      go_wp2_with fail
      go_ret
      exact ⟨⟨w.heap.size, rfl, HR.out⟩, hbel⟩
structure MadeCs (w : World) (base g : Nat) (l : List Col) : Prop where
  ge : base ≤ g
  lt : g < w.heap.size
  cells : ∀ i (h : i < l.length), ∃ gr gc, (w.cell? ⟨g, i * 3, none⟩ = some (.string l[i].name) ∧ w.cell? ⟨g, i * 3 + 1, none⟩ = some (.slice (some ⟨gr, 0, none⟩) l[i].chs.length l[i].chs.length) ∧ w.cell? ⟨g, i * 3 + 2, none⟩ = some (.slice (some ⟨gc, 0, none⟩) l[i].dfs.length l[i].dfs.length)) ∧ MadeChs w base gr l[i].chs ∧ MadeDfs w base gc l[i].dfs ∧ True
  blk : Blk w g 63 (l.length * 3)
theorem MadeCs.old {w : World} {base g : Nat} {l : List Col} (h : MadeCs w base g l) : Tx.MadeCs w base g l := ⟨h.ge, h.lt, h.cells⟩
theorem MadeCs.next {w w' : World} {base g : Nat} {l : List Col} (h : MadeCs w base g l) (hb : Below w.heap.size w w') : MadeCs w' base g l :=
  ⟨h.ge, Nat.lt_of_lt_of_le h.lt hb.size, fun i hi => by
    obtain ⟨gr, gc, ⟨x0, x1, x2⟩, y, z, u⟩ := h.cells i hi
    exact ⟨gr, gc, ⟨(hb.cell h.lt).trans x0, (hb.cell h.lt).trans x1, (hb.cell h.lt).trans x2⟩, y.next hb, z.next hb, u⟩, h.blk.keep (hb.block g h.lt)⟩
theorem MadeCs.mono {w : World} {base base' g : Nat} {l : List Col} (h : MadeCs w base g l) (hb : base' ≤ base) : MadeCs w base' g l :=
  ⟨Nat.le_trans hb h.ge, h.lt, fun i hi => by
    obtain ⟨gr, gc, x, y, z, u⟩ := h.cells i hi
    exact ⟨gr, gc, x, y.mono hb, z.mono hb, u⟩, h.blk⟩
theorem MadeCs.set {w : World} {base g b o : Nat} {v : Value} {l : List Col} (h : MadeCs w base g l) (hb : b < base) : MadeCs (w.setCell ⟨b, o, none⟩ v) base g l := by
  have hg : w.grownBy (w.setCell ⟨b, o, none⟩ v) (some b) := grown_setC
  have hne : some g ≠ some b := fun e => by injection e; have := h.ge; omega
  refine ⟨h.ge, Nat.lt_of_lt_of_le h.lt hg.size, fun i hi => ?_, h.blk.keep (hg.block g h.lt hne)⟩
  obtain ⟨gr, gc, ⟨x0, x1, x2⟩, y, z, u⟩ := h.cells i hi
  have hk : ∀ o, (w.setCell ⟨b, _, none⟩ v).cell? ⟨g, o, none⟩ = w.cell? ⟨g, o, none⟩ := fun o => World.cell?_of_block (hg.block g h.lt hne)
  exact ⟨gr, gc, ⟨(hk _).trans x0, (hk _).trans x1, (hk _).trans x2⟩, y.set hb, z.set hb, u⟩
set_option maxRecDepth 8000 in
set_option maxHeartbeats 4000000 in
theorem toCollS_any (a : Option Addr) (cap : Nat) (l : List Col) (w : World) (hin : InCs w a l) (hlen : l.length ≤ 1048576) (hs : ∀ v ∈ l, szCs v) :
    Calls Tryz.prog 36 #[.slice a l.length cap] w fun e w' => (∃ g, e = .returned (.slice (some ⟨g, 0, none⟩) l.length l.length) ∧ MadeCs w' w.heap.size g l) ∧ Below w.heap.size w w' := by
  obtain ⟨i0, hi, hz0, hz1, hz2⟩ := info_parts infoCs
  have HI : Hid (InCs _ _ _) := hin
  have HS : Hid (∀ v ∈ l, szCs v) := hs
  clear hin hs
  go_enter Tryz.func36, Tryz.ntmps36
  go_wp2_with (refine wpList_make_full _ rfl (.tmp 6) (.tmp 6) 29 rfl w.heap.size 63 i0 (.agg #[.string em, .slice none 0 0, .slice none 0 0]) 3 Tryz.underlying29 hi hz0 hz1 .i64 .i64 _ _ l.length rfl rfl rfl rfl (by rw [hz2]; omega) (by unfold maxLen; omega) (Nat.le_refl _) ?_; intro w1 hown1 hgrow1)
  have hb1 : Below w.heap.size w w1 := Below.grown (Below.refl _ _) hgrow1 (Nat.le_refl _) (fun k h => by cases h)
  clear hgrow1
  go_loopw [4] (fun i wr => ∃ (k : Nat) (xs : List Value), k ≤ l.length ∧ i = .int .i64 k ∧ wr.ownsRow w.heap.size 63 3 (.slice (some ⟨w.heap.size, 0, none⟩) l.length l.length) l.length xs ∧ partCs wr w.heap.size xs l k ∧ Below w.heap.size w wr) (fun i _ => l.length - (intOf i).toNat)
  case atStart => exact ⟨0, _, Nat.zero_le _, rfl, hown1, fun i h hi => absurd hi (by omega), hb1⟩
  case round =>
    obtain ⟨k, xs, hk, rfl, hown, hpart, hbel⟩ := hrel
    clear hown1 hb1
    by_cases hlt : k < l.length
    · rcases HI.out.step hbel with h0 | ⟨b, off, rfl, hbl, hc⟩
      · omega
      · have hlt2 : (k : Int) < (l.length : Int) := by omega
        obtain ⟨p, cp, q, cq, ⟨x0, x1, x2⟩, hT, hU⟩ := hc k hlt
        have hsk := HS.out l[k] (List.getElem_mem _)
        obtain ⟨x, hx⟩ : ∃ x, x = l[k] := ⟨_, rfl⟩
        have HX : Hid (x = l[k]) := hx
        rw [← hx] at x0 x1 x2 hT hU hsk
        have HC : Hid (Calls _ _ _ _ _) := toColl_any x p q cp cq wr ⟨hT, hU⟩ hsk
        have hz := hbel.size
        have HO : Hid (World.ownsRow _ _ _ _ _ _ _) := hown
        have HP : Hid (partCs _ _ _ _ _) := hpart
        have HB : Hid (Below _ _ _) := hbel
        have hgl : w.heap.size < wr.heap.size := (hown.lt _ rfl).2
        clear hc hown hbel hT hU hpart hx hsk
        go_wp2_with fail
        refine HC.out.mono ?_
        rintro e w2 ⟨⟨gr, gc, mid, rfl, hR2', hR3', hR4, hR5⟩, hb2⟩
        have hR2 : MadeChs w2 wr.heap.size gr x.chs := ⟨_, _, Nat.le_refl _, hR2'⟩
        have hR3 : MadeDfs w2 wr.heap.size gc x.dfs := ⟨_, _, hR4, hR3'⟩
        clear hR2' hR3'
        have hown2 := owns_below HO.out hb2
        have hxl : xs.length = l.length * 3 := hown2.1
        obtain ⟨z0, y0⟩ := Tr.own_there hown2 (k * 3) (by omega)
        obtain ⟨z1, y1⟩ := Tr.own_there hown2 (k * 3 + 1) (by omega)
        obtain ⟨z2, y2⟩ := Tr.own_there hown2 (k * 3 + 2) (by omega)
        have f0 := World.ownsRow.frozenAt hown2 (k * 3)
        have f1 := World.ownsRow.frozenAt hown2 (k * 3 + 1)
        have f2 := World.ownsRow.frozenAt hown2 (k * 3 + 2)
        have hst := (World.ownsRow.stored (World.ownsRow.stored (World.ownsRow.stored hown2 (k * 3) (.string x.name)).1 (k * 3 + 1) (.slice (some ⟨gr, 0, none⟩) x.chs.length x.chs.length)).1 (k * 3 + 2) (.slice (some ⟨gc, 0, none⟩) x.dfs.length x.dfs.length)).1
        have hpart2 : partCs (((w2.setCell ⟨w.heap.size, k * 3, none⟩ (.string x.name)).setCell ⟨w.heap.size, k * 3 + 1, none⟩ (.slice (some ⟨gr, 0, none⟩) x.chs.length x.chs.length)).setCell ⟨w.heap.size, k * 3 + 2, none⟩ (.slice (some ⟨gc, 0, none⟩) x.dfs.length x.dfs.length)) w.heap.size (((xs.set (k * 3) (.string x.name)).set (k * 3 + 1) (.slice (some ⟨gr, 0, none⟩) x.chs.length x.chs.length)).set (k * 3 + 2) (.slice (some ⟨gc, 0, none⟩) x.dfs.length x.dfs.length)) l (k + 1) := by
          intro i h hi
          by_cases hik : i = k
          · subst hik
            have hxx := HX.out
            subst hxx
            refine ⟨gr, gc, ⟨by rw [List.getElem?_set_ne (by omega), List.getElem?_set_ne (by omega), List.getElem?_set_self (by first | (simp only [List.length_set]; omega) | omega)], by rw [List.getElem?_set_ne (by omega), List.getElem?_set_self (by first | (simp only [List.length_set]; omega) | omega)], by rw [List.getElem?_set_self (by first | (simp only [List.length_set]; omega) | omega)]⟩, ?_, ?_, trivial⟩
            · exact ((((hR2.mono (by omega)).set (by omega)).set (by omega)).set (by omega))
            · exact ((((hR3.mono (by omega)).set (by omega)).set (by omega)).set (by omega))
          · obtain ⟨er, ec, ⟨e0, e1, e2⟩, e6, e7, e8⟩ := HP.out i h (by omega)
            refine ⟨er, ec, ⟨by rw [List.getElem?_set_ne (by omega), List.getElem?_set_ne (by omega), List.getElem?_set_ne (by omega)]; exact e0, by rw [List.getElem?_set_ne (by omega), List.getElem?_set_ne (by omega), List.getElem?_set_ne (by omega)]; exact e1, by rw [List.getElem?_set_ne (by omega), List.getElem?_set_ne (by omega), List.getElem?_set_ne (by omega)]; exact e2⟩, ?_, ?_, e8⟩
            · exact ((((e6.next hb2).set (by omega)).set (by omega)).set (by omega))
            · exact ((((e7.next hb2).set (by omega)).set (by omega)).set (by omega))
        have HST : Hid (World.ownsRow _ _ _ _ _ _ _) := hst
        have HPA : Hid (partCs _ _ _ _ _) := hpart2
        have HB2 : Hid (Below _ _ _) := HB.out.trans (hb2.mono HB.out.size)
        have hz2 := hb2.size
        clear hst hown2 hb2 hpart2 hR2 hR3 HC
        go_wp2_with fail
        go_roundw
        case rel => exact ⟨k + 1, _, by omega, by go_num, HST.out, HPA.out, (((HB2.out.setCell (Nat.le_refl _) _).setCell (Nat.le_refl _) _).setCell (Nat.le_refl _) _)⟩
        case measure => simp [intOf]; omega
    · have hlt2 : ¬ (k : Int) < (l.length : Int) := by omega
      have hR : MadeCs wr w.heap.size w.heap.size l := ⟨Nat.le_refl _, (hown.lt _ rfl).2, fun i hi => by
        obtain ⟨er, ec, ⟨e0, e1, e2⟩, e6, e7, e8⟩ := hpart i hi (by omega)
        exact ⟨er, ec, ⟨owns_cell hown _ _ e0, owns_cell hown _ _ e1, owns_cell hown _ _ e2⟩, e6.mono (by omega), e7.mono (by omega), trivial⟩, Blk.of_own hown⟩
      have HR : Hid (MadeCs _ _ _ _) := hR
      clear hR hpart hown
      go_wp2_with fail
      go_ret
      exact ⟨⟨w.heap.size, rfl, HR.out⟩, hbel⟩
theorem madeDn_set {w : World} {base g b o : Nat} {v : Value} {l : List Dn} (h : MadeDn w base g l) (hb : b < base) : MadeDn (w.setCell ⟨b, o, none⟩ v) base g l := by
  have hg : w.grownBy (w.setCell ⟨b, o, none⟩ v) (some b) := grown_setC
  have hne : some g ≠ some b := fun e => by injection e; have := h.ge; omega
  refine ⟨h.ge, Nat.lt_of_lt_of_le h.lt hg.size, fun i hi => ?_, h.blk.keep (hg.block g h.lt hne)⟩
  obtain ⟨gr, gc, ⟨x0, x1, x2, x3, x4, x5⟩, y, z, u⟩ := h.cells i hi
  have hk : ∀ o, (w.setCell ⟨b, _, none⟩ v).cell? ⟨g, o, none⟩ = w.cell? ⟨g, o, none⟩ := fun o => World.cell?_of_block (hg.block g h.lt hne)
  exact ⟨gr, gc, ⟨(hk _).trans x0, (hk _).trans x1, (hk _).trans x2, (hk _).trans x3, (hk _).trans x4, (hk _).trans x5⟩, y.set hb, readCg_set z (by omega), u⟩

structure MadeSto (W : World) (base gc gt gd : Nat) (s : Sto) : Prop where
  c : MadeCs W base gc s.cs
  t : MadeTn W base gt s.ts
  d : MadeDn W base gd s.ds
theorem MadeSto.old {w : World} {base gc gt gd : Nat} {s : Sto} (h : MadeSto w base gc gt gd s) : Tx.MadeSto w base gc gt gd s := ⟨h.c.old, h.t.old, h.d.old⟩
theorem MadeSto.next {W W' : World} {base gc gt gd : Nat} {s : Sto} (h : MadeSto W base gc gt gd s) (hb : Below W.heap.size W W') : MadeSto W' base gc gt gd s := ⟨h.c.next hb, h.t.next hb, h.d.next hb⟩
set_option maxRecDepth 8000 in
set_option maxHeartbeats 4000000 in
theorem toStore_any (p q r : Option Addr) (cp cq cr : Nat) (s : Sto) (w : World) (hin : InSto w p q r s) (hz : SzSto s) :
    Calls Tryz.prog 10 #[.agg #[.slice p s.cs.length cp, .slice q s.ts.length cq, .slice r s.ds.length cr, .int .i64 s.clk]] w fun e w' => (∃ gc gt gd, e = .returned (.agg #[.slice (some ⟨gc, 0, none⟩) s.cs.length s.cs.length, .slice (some ⟨gt, 0, none⟩) s.ts.length s.ts.length, .slice (some ⟨gd, 0, none⟩) s.ds.length s.ds.length, .int .i64 s.clk]) ∧ MadeSto w' w.heap.size gc gt gd s) ∧ Below w.heap.size w w' := by
  have M0 := MkSt.start w #[.slice p s.cs.length cp, .slice q s.ts.length cq, .slice r s.ds.length cr, .int .i64 s.clk] 26 33
  have HI : Hid (InSto w p q r s) := hin
  have HZ : Hid (SzSto s) := hz
  clear hin hz
  go_enter Tryz.func10, Tryz.ntmps10
  go_wp2_with fail
  generalize ((w.alloc _).alloc _).alloc _ = W0 at M0 ⊢
  have hw0 := M0.lt
  refine (toCollS_any p cp s.cs _ (HI.out.c.step M0.bel) HZ.out.c0 HZ.out.c1).mono ?_
  rintro e w1 ⟨⟨gc, rfl, hC⟩, hb⟩
  have M1 := M0.next hb
  have HC1 : Hid (MadeCs w1 (w.heap.size + 3) gc s.cs) := hC.mono (by omega)
  obtain ⟨p0, p1, p2, p3⟩ := fourTn M1.pb
  obtain ⟨o0, o1, o2, o3⟩ := fourTn M1.ob
  have z0 := softTn M1.ob 0
  have hlt := M1.lt
  have hlp : w.heap.size < w1.heap.size := by omega
  have M1' : MkSt w _ #[.slice p s.cs.length cp, .slice q s.ts.length cq, .slice r s.ds.length cr, .int .i64 s.clk] #[.slice (some ⟨gc, 0, none⟩) s.cs.length s.cs.length, .slice none 0 0, .slice none 0 0, .int .i64 0] 26 33 := M1.set 0 (.slice (some ⟨gc, 0, none⟩) s.cs.length s.cs.length)
  have HC1' : Hid (MadeCs _ (w.heap.size + 3) gc s.cs) := HC1.out.set (b := w.heap.size + 2) (o := 0) (v := .slice (some ⟨gc, 0, none⟩) s.cs.length s.cs.length) (by omega)
  have HTC : Hid (Calls _ _ _ _ _) := toTxnS_any q cq s.ts _ (HI.out.t.step M1'.bel) HZ.out.t0 HZ.out.t1
  have hm1 := M1'.lt
  clear hb M0 hC M1 HC1 hw0
  go_wp2_with fail
  refine HTC.out.mono ?_
  rintro e w2 ⟨⟨gt, rfl, hT⟩, hb⟩
  have M2 := M1'.next hb
  have HC2 : Hid (MadeCs w2 (w.heap.size + 3) gc s.cs) := HC1'.out.next hb
  have HT2 : Hid (MadeTn w2 (w.heap.size + 3) gt s.ts) := hT.mono (by omega)
  clear hb hT HC1' M1' HTC p0 p1 p2 p3 o0 o1 o2 o3 z0 hlt hlp hm1
  obtain ⟨p0, p1, p2, p3⟩ := fourTn M2.pb
  obtain ⟨o0, o1, o2, o3⟩ := fourTn M2.ob
  have z1 := softTn M2.ob 1
  have hlt := M2.lt
  have hlp : w.heap.size < w2.heap.size := by omega
  have M2' : MkSt w _ #[.slice p s.cs.length cp, .slice q s.ts.length cq, .slice r s.ds.length cr, .int .i64 s.clk] #[.slice (some ⟨gc, 0, none⟩) s.cs.length s.cs.length, .slice (some ⟨gt, 0, none⟩) s.ts.length s.ts.length, .slice none 0 0, .int .i64 0] 26 33 := M2.set 1 (.slice (some ⟨gt, 0, none⟩) s.ts.length s.ts.length)
  have HC2' : Hid (MadeCs _ (w.heap.size + 3) gc s.cs) := HC2.out.set (b := w.heap.size + 2) (o := 1) (v := .slice (some ⟨gt, 0, none⟩) s.ts.length s.ts.length) (by omega)
  have HT2' : Hid (MadeTn _ (w.heap.size + 3) gt s.ts) := HT2.out.set (b := w.heap.size + 2) (o := 1) (v := .slice (some ⟨gt, 0, none⟩) s.ts.length s.ts.length) (by omega)
  have HTD : Hid (Calls _ _ _ _ _) := toDoneS_any r cr s.ds _ (HI.out.d.step M2'.bel) HZ.out.d0 HZ.out.d1
  have hm2 := M2'.lt
  clear M2 HC2 HT2
  go_wp2_with fail
  refine HTD.out.mono ?_
  rintro e w3 ⟨⟨gd, rfl, hD⟩, hb⟩
  have M3 := M2'.next hb
  have HC3 : Hid (MadeCs w3 (w.heap.size + 3) gc s.cs) := HC2'.out.next hb
  have HT3 : Hid (MadeTn w3 (w.heap.size + 3) gt s.ts) := HT2'.out.next hb
  have HD3 : Hid (MadeDn w3 (w.heap.size + 3) gd s.ds) := hD.mono (by omega)
  clear hb hD HC2' HT2' M2' HTD p0 p1 p2 p3 o0 o1 o2 o3 z1 hlt hlp hm2
  obtain ⟨p0, p1, p2, p3⟩ := fourTn M3.pb
  obtain ⟨o0, o1, o2, o3⟩ := fourTn M3.ob
  obtain ⟨r0, r1, r2, r3⟩ := fourTn M3.rb
  have y0 := softTn M3.rb 0
  have y1 := softTn M3.rb 1
  have y2 := softTn M3.rb 2
  have y3 := softTn M3.rb 3
  have z2 := softTn M3.ob 2
  have z3 := softTn M3.ob 3
  have hlt := M3.lt
  have hlp : w.heap.size < w3.heap.size := by omega
  have hbw := M3.bel
  clear M3
  go_wp2_with fail
  refine bodyPost_ret (v := .agg #[.slice (some ⟨gc, 0, none⟩) s.cs.length s.cs.length, .slice (some ⟨gt, 0, none⟩) s.ts.length s.ts.length, .slice (some ⟨gd, 0, none⟩) s.ds.length s.ds.length, .int .i64 s.clk]) (by simp [results, Tryz.results10, go_sem, *]) rfl ⟨⟨gc, gt, gd, rfl, ?_⟩, ?_⟩
  · refine ⟨MadeCs.mono (base := w.heap.size + 3) ?_ (by omega), MadeTn.mono (base := w.heap.size + 3) ?_ (by omega), MadeDn.mono (base := w.heap.size + 3) ?_ (by omega)⟩
    · repeat (first | (with_reducible exact HC3.out) | (with_reducible refine MadeCs.set ?_ (by omega)))
    · repeat (first | (with_reducible exact HT3.out) | (with_reducible refine MadeTn.set ?_ (by omega)))
    · repeat (first | (with_reducible exact HD3.out) | (with_reducible refine madeDn_set ?_ (by omega)))
  · (repeat (first | (with_reducible exact Below.refl _ _) | (with_reducible assumption) | (with_reducible apply below_drewN) | (with_reducible apply Below.drew) | ((with_reducible refine Below.setCell ?_ ?_ _); rotate_left; focus (first | (simp; done) | (simp; omega) | omega)) | ((with_reducible refine Below.alloc ?_ ?_ _); rotate_left; focus (first | (simp; done) | (simp; omega) | omega))))


end Go.Proofs.YtpfbepbmiillbaaGreatDoor.Ty

/- What marks on stores keep: cells that hold rows within rows; rows by their blocks alone. -/
namespace Go.Proofs.YtpfbepbmiillbaaGreatDoor.Tz
open Go.RowKit Tr Co Rea Ce Tx Ty
set_option linter.unusedVariables false

theorem blk_cell {w : World} {g o : Nat} {T : TypeId} {vs : Array Value} (h : w.heap[g]? = some (.cells vs T (0, 0))) : w.cell? ⟨g, o, none⟩ = vs[o]? := by simp [World.cell?, h]
theorem _root_.Go.Proofs.YtpfbepbmiillbaaGreatDoor.Ty.Blk.there {w : World} {g n o : Nat} {T : TypeId} (h : Blk w g T n) (ho : o < n) : ∃ u, w.cell? ⟨g, o, none⟩ = some u := by
  obtain ⟨vs, h1, h2⟩ := h
  exact ⟨vs[o], by rw [blk_cell h1, Array.getElem?_eq_getElem (by omega)]⟩
theorem _root_.Go.Proofs.YtpfbepbmiillbaaGreatDoor.Ty.Blk.soft {w : World} {g n : Nat} {T : TypeId} (h : Blk w g T n) (o : Nat) : w.frozen? ⟨g, o, none⟩ = false := by
  obtain ⟨vs, h1, h2⟩ := h
  exact softDn h1 o
theorem _root_.Go.Proofs.YtpfbepbmiillbaaGreatDoor.Ty.Blk.lt {w : World} {g n : Nat} {T : TypeId} (h : Blk w g T n) : g < w.heap.size := by
  obtain ⟨vs, h1, h2⟩ := h
  exact (Array.getElem?_eq_some_iff.1 h1).1
/-- The cells that marks leave: those that hold rows. -/
def kp (T : TypeId) (o : Nat) : Bool := decide (T = 210) || (decide (T = 121) && decide (o % 2 = 1) || (decide (T = 81) && (decide (o % 6 = 2) || decide (o % 6 = 3)) || (decide (T = 66) && decide (o % 2 = 1) || (decide (T = 155) && decide (o % 2 = 1) || (decide (T = 63) && (decide (o % 3 = 1) || decide (o % 3 = 2)) || decide (T = 75) && (decide (o % 4 = 2) || decide (o % 4 = 3)))))))
/-- What marks leave. -/
structure Mk (lo hi : Nat) (w w' : World) : Prop where
  chg : Chg lo hi w w'
  blk : ∀ (g : Nat) (T : TypeId) (vs : Array Value), w.heap[g]? = some (.cells vs T (0, 0)) → ∃ vs', w'.heap[g]? = some (.cells vs' T (0, 0)) ∧ vs'.size = vs.size ∧ ∀ o, kp T o = true → vs'[o]? = vs[o]?
theorem Mk.refl (lo hi : Nat) (w : World) : Mk lo hi w w := ⟨Chg.refl _ _ _, fun g T vs h => ⟨vs, h, rfl, fun _ _ => rfl⟩⟩
theorem Mk.trans {lo hi : Nat} {a b c : World} (h : Mk lo hi a b) (k : Mk lo hi b c) : Mk lo hi a c :=
  ⟨h.chg.trans k.chg, fun g T vs e => by
    obtain ⟨v1, a1, a2, a3⟩ := h.blk g T vs e
    obtain ⟨v2, b1, b2, b3⟩ := k.blk g T v1 a1
    exact ⟨v2, b1, b2.trans a2, fun o t => (b3 o t).trans (a3 o t)⟩⟩
theorem Mk.of_below {lo hi : Nat} {w w' : World} (h : Below w.heap.size w w') : Mk lo hi w w' :=
  ⟨Chg.of_below h, fun g T vs e => ⟨vs, (h.block g (Array.getElem?_eq_some_iff.1 e).1).trans e, rfl, fun _ _ => rfl⟩⟩
theorem Mk.set {lo hi : Nat} {w : World} {g n o : Nat} {T : TypeId} (v : Value) (hB : Blk w g T n) (h1 : lo ≤ g) (h2 : g < hi) (hk : kp T o = false) : Mk lo hi w (w.setCell ⟨g, o, none⟩ v) := by
  have hg : w.grownBy (w.setCell ⟨g, o, none⟩ v) (some g) := grown_setC
  refine ⟨Chg.of_grown hg (fun b e => by injection e with e; omega), fun k U vs e => ?_⟩
  by_cases hkg : k = g
  · subst hkg
    obtain ⟨vs0, e0, _⟩ := hB
    have e1 := e0.symm.trans e
    simp at e1
    obtain ⟨rfl, rfl⟩ := e1
    refine ⟨vs0.setIfInBounds o v, by simp [World.setCell, Array.getElem?_modify, e], by simp, fun i t => ?_⟩
    have hne : o ≠ i := fun h => by subst h; rw [hk] at t; cases t
    rw [Array.getElem?_setIfInBounds_ne hne]
  · exact ⟨vs, (hg.block k (Array.getElem?_eq_some_iff.1 e).1 (fun h => hkg (by injection h))).trans e, rfl, fun _ _ => rfl⟩
theorem Blk.mk {lo hi : Nat} {w w' : World} {g n : Nat} {T : TypeId} (h : Blk w g T n) (k : Mk lo hi w w') : Blk w' g T n := by
  obtain ⟨vs, h1, h2⟩ := h
  obtain ⟨vs', a1, a2, _⟩ := k.blk g T vs h1
  exact ⟨vs', a1, by omega⟩
theorem Mk.cellK {lo hi : Nat} {w w' : World} {g n : Nat} {T : TypeId} (k : Mk lo hi w w') (h : Blk w g T n) (o : Nat) (hk : kp T o = true) : w'.cell? ⟨g, o, none⟩ = w.cell? ⟨g, o, none⟩ := by
  obtain ⟨vs, h1, h2⟩ := h
  obtain ⟨vs', a1, a2, a3⟩ := k.blk g _ vs h1
  rw [blk_cell h1, blk_cell a1, a3 o hk]
/-- Rows of terms, clauses, reads, changes, committed ones, by their blocks alone. -/
structure ShT (w : World) (lo hi g n : Nat) : Prop where
  b : Blk w g 213 (n * 5)
  ge : lo ≤ g
  lt : g < hi
theorem ShT.mk' {lo hi : Nat} {w w' : World} {g n : Nat} (h : ShT w lo hi g n) (k : Mk lo hi w w') : ShT w' lo hi g n := ⟨Blk.mk h.b k, h.ge, h.lt⟩
structure ShC (w : World) (lo hi g : Nat) (f : List (List Trm)) : Prop where
  b : Blk w g 210 f.length
  ge : lo ≤ g
  lt : g < hi
  cells : ∀ i (h : i < f.length), ∃ gi cap, w.cell? ⟨g, i, none⟩ = some (.slice (some ⟨gi, 0, none⟩) f[i].length cap) ∧ ShT w lo hi gi f[i].length
theorem ShC.mk' {lo hi : Nat} {w w' : World} {g : Nat} {f : List (List Trm)} (h : ShC w lo hi g f) (k : Mk lo hi w w') : ShC w' lo hi g f :=
  ⟨Blk.mk h.b k, h.ge, h.lt, fun i hi => by
    obtain ⟨gi, cap, h1, h2⟩ := h.cells i hi
    exact ⟨gi, cap, (k.cellK h.b i (by simp [kp] <;> omega)).trans h1, h2.mk' k⟩⟩
structure ShR (w : World) (lo hi g : Nat) (l : List Rdg) : Prop where
  b : Blk w g 121 (l.length * 2)
  ge : lo ≤ g
  lt : g < hi
  cells : ∀ i (h : i < l.length), ∃ gi, w.cell? ⟨g, i * 2 + 1, none⟩ = some (.slice (some ⟨gi, 0, none⟩) l[i].f.length l[i].f.length) ∧ ShC w lo hi gi l[i].f
theorem ShR.mk' {lo hi : Nat} {w w' : World} {g : Nat} {l : List Rdg} (h : ShR w lo hi g l) (k : Mk lo hi w w') : ShR w' lo hi g l :=
  ⟨Blk.mk h.b k, h.ge, h.lt, fun i hi => by
    obtain ⟨gi, h1, h2⟩ := h.cells i hi
    exact ⟨gi, (k.cellK h.b (i * 2 + 1) (by simp [kp] <;> omega)).trans h1, h2.mk' k⟩⟩
structure ShG (w : World) (lo hi g n : Nat) : Prop where
  b : Blk w g 180 (n * 10)
  ge : lo ≤ g
  lt : g < hi
theorem ShG.mk' {lo hi : Nat} {w w' : World} {g n : Nat} (h : ShG w lo hi g n) (k : Mk lo hi w w') : ShG w' lo hi g n := ⟨Blk.mk h.b k, h.ge, h.lt⟩
structure ShD (w : World) (lo hi g : Nat) (l : List Dn) : Prop where
  b : Blk w g 81 (l.length * 6)
  ge : lo ≤ g
  lt : g < hi
  cells : ∀ i (h : i < l.length), ∃ gr gc, w.cell? ⟨g, i * 6 + 2, none⟩ = some (.slice (some ⟨gr, 0, none⟩) l[i].rs.length l[i].rs.length) ∧ w.cell? ⟨g, i * 6 + 3, none⟩ = some (.slice (some ⟨gc, 0, none⟩) l[i].cs.length l[i].cs.length) ∧ ShR w lo hi gr l[i].rs ∧ ShG w lo hi gc l[i].cs.length
theorem ShD.mk' {lo hi : Nat} {w w' : World} {g : Nat} {l : List Dn} (h : ShD w lo hi g l) (k : Mk lo hi w w') : ShD w' lo hi g l :=
  ⟨Blk.mk h.b k, h.ge, h.lt, fun i hi => by
    obtain ⟨gr, gc, h1, h2, h3, h4⟩ := h.cells i hi
    exact ⟨gr, gc, (k.cellK h.b (i * 6 + 2) (by simp [kp] <;> omega)).trans h1, (k.cellK h.b (i * 6 + 3) (by simp [kp] <;> omega)).trans h2, h3.mk' k, h4.mk' k⟩⟩
theorem ReadT.sh {w : World} {lo g : Nat} {l : List Trm} (h : Ty.ReadT w g l) (hl : lo ≤ g) : ShT w lo w.heap.size g l.length := ⟨h.blk, hl, h.lt⟩
theorem MadeC.sh {w : World} {lo g : Nat} {f : List (List Trm)} (h : Ty.MadeC w lo g f) : ShC w lo w.heap.size g f := ⟨h.blk, h.ge, h.lt, fun i hi => by
    obtain ⟨gi, cap, h1, h2, h3⟩ := h.cells i hi
    exact ⟨gi, cap, h1, ReadT.sh h3 h2⟩⟩
theorem MadeRd.sh {w : World} {lo g : Nat} {l : List Rdg} (h : Ty.MadeRd w lo g l) : ShR w lo w.heap.size g l := ⟨h.blk, h.ge, h.lt, fun i hi => by
    obtain ⟨h0, gi, h1, h2⟩ := h.cells i hi
    exact ⟨gi, h1, MadeC.sh h2⟩⟩
theorem MadeDn.sh {w : World} {lo g : Nat} {l : List Dn} (h : Ty.MadeDn w lo g l) : ShD w lo w.heap.size g l := ⟨h.blk, h.ge, h.lt, fun i hi => by
    obtain ⟨gr, gc, ⟨x0, x1, x2, x3, x4, x5⟩, y, z, u⟩ := h.cells i hi
    exact ⟨gr, gc, x2, x3, MadeRd.sh y, ⟨z.blk, u, z.lt⟩⟩⟩

structure ShV (w : World) (lo hi g n : Nat) : Prop where
  b : Blk w g 70 (n * 5)
  ge : lo ≤ g
  lt : g < hi
theorem ShV.mk' {lo hi : Nat} {w w' : World} {g n : Nat} (h : ShV w lo hi g n) (k : Mk lo hi w w') : ShV w' lo hi g n := ⟨Blk.mk h.b k, h.ge, h.lt⟩
/-- Such a row, an empty one anywhere. -/
def ShVo (w : World) (lo hi : Nat) (p : Option Addr) (n : Nat) : Prop := n = 0 ∨ ∃ g, p = some ⟨g, 0, none⟩ ∧ ShV w lo hi g n
theorem ShVo.mk' {lo hi : Nat} {w w' : World} {p : Option Addr} {n : Nat} (h : ShVo w lo hi p n) (k : Mk lo hi w w') : ShVo w' lo hi p n := by
  rcases h with h | ⟨g, h1, h2⟩
  · exact .inl h
  · exact .inr ⟨g, h1, h2.mk' k⟩
structure ShP (w : World) (lo hi g n : Nat) : Prop where
  b : Blk w g 204 (n * 2)
  ge : lo ≤ g
  lt : g < hi
theorem ShP.mk' {lo hi : Nat} {w w' : World} {g n : Nat} (h : ShP w lo hi g n) (k : Mk lo hi w w') : ShP w' lo hi g n := ⟨Blk.mk h.b k, h.ge, h.lt⟩
/-- Such a row, an empty one anywhere. -/
def ShPo (w : World) (lo hi : Nat) (p : Option Addr) (n : Nat) : Prop := n = 0 ∨ ∃ g, p = some ⟨g, 0, none⟩ ∧ ShP w lo hi g n
theorem ShPo.mk' {lo hi : Nat} {w w' : World} {p : Option Addr} {n : Nat} (h : ShPo w lo hi p n) (k : Mk lo hi w w') : ShPo w' lo hi p n := by
  rcases h with h | ⟨g, h1, h2⟩
  · exact .inl h
  · exact .inr ⟨g, h1, h2.mk' k⟩
structure ShW (w : World) (lo hi g n : Nat) : Prop where
  b : Blk w g 78 (n * 6)
  ge : lo ≤ g
  lt : g < hi
theorem ShW.mk' {lo hi : Nat} {w w' : World} {g n : Nat} (h : ShW w lo hi g n) (k : Mk lo hi w w') : ShW w' lo hi g n := ⟨Blk.mk h.b k, h.ge, h.lt⟩
structure ShH (w : World) (lo hi g : Nat) (f : List Chn) : Prop where
  b : Blk w g 66 (f.length * 2)
  ge : lo ≤ g
  lt : g < hi
  cells : ∀ i (h : i < f.length), ∃ p cap, w.cell? ⟨g, i * 2 + 1, none⟩ = some (.slice p f[i].vs.length cap) ∧ ShVo w lo hi p f[i].vs.length
theorem ShH.mk' {lo hi : Nat} {w w' : World} {g : Nat} {f : List Chn} (h : ShH w lo hi g f) (k : Mk lo hi w w') : ShH w' lo hi g f :=
  ⟨Blk.mk h.b k, h.ge, h.lt, fun i hi => by
    obtain ⟨p, cap, h1, h2⟩ := h.cells i hi
    exact ⟨p, cap, (k.cellK h.b (i * 2 + 1) (by simp [kp] <;> omega)).trans h1, h2.mk' k⟩⟩
structure ShF (w : World) (lo hi g : Nat) (f : List Dfn) : Prop where
  b : Blk w g 155 (f.length * 2)
  ge : lo ≤ g
  lt : g < hi
  cells : ∀ i (h : i < f.length), ∃ p cap, w.cell? ⟨g, i * 2 + 1, none⟩ = some (.slice p f[i].ps.length cap) ∧ ShPo w lo hi p f[i].ps.length
theorem ShF.mk' {lo hi : Nat} {w w' : World} {g : Nat} {f : List Dfn} (h : ShF w lo hi g f) (k : Mk lo hi w w') : ShF w' lo hi g f :=
  ⟨Blk.mk h.b k, h.ge, h.lt, fun i hi => by
    obtain ⟨p, cap, h1, h2⟩ := h.cells i hi
    exact ⟨p, cap, (k.cellK h.b (i * 2 + 1) (by simp [kp] <;> omega)).trans h1, h2.mk' k⟩⟩
structure ShK (w : World) (lo hi g : Nat) (l : List Col) : Prop where
  b : Blk w g 63 (l.length * 3)
  ge : lo ≤ g
  lt : g < hi
  cells : ∀ i (h : i < l.length), ∃ gr gc, w.cell? ⟨g, i * 3 + 1, none⟩ = some (.slice (some ⟨gr, 0, none⟩) l[i].chs.length l[i].chs.length) ∧ w.cell? ⟨g, i * 3 + 2, none⟩ = some (.slice (some ⟨gc, 0, none⟩) l[i].dfs.length l[i].dfs.length) ∧ ShH w lo hi gr l[i].chs ∧ ShF w lo hi gc l[i].dfs
theorem ShK.mk' {lo hi : Nat} {w w' : World} {g : Nat} {l : List Col} (h : ShK w lo hi g l) (k : Mk lo hi w w') : ShK w' lo hi g l :=
  ⟨Blk.mk h.b k, h.ge, h.lt, fun i hi => by
    obtain ⟨gr, gc, h1, h2, h3, h4⟩ := h.cells i hi
    exact ⟨gr, gc, (k.cellK h.b (i * 3 + 1) (by simp [kp] <;> omega)).trans h1, (k.cellK h.b (i * 3 + 2) (by simp [kp] <;> omega)).trans h2, h3.mk' k, h4.mk' k⟩⟩
structure ShX (w : World) (lo hi g : Nat) (l : List Tn) : Prop where
  b : Blk w g 75 (l.length * 4)
  ge : lo ≤ g
  lt : g < hi
  cells : ∀ i (h : i < l.length), ∃ gr gc, w.cell? ⟨g, i * 4 + 2, none⟩ = some (.slice (some ⟨gr, 0, none⟩) l[i].rs.length l[i].rs.length) ∧ w.cell? ⟨g, i * 4 + 3, none⟩ = some (.slice (some ⟨gc, 0, none⟩) l[i].cs.length l[i].cs.length) ∧ ShR w lo hi gr l[i].rs ∧ ShW w lo hi gc l[i].cs.length
theorem ShX.mk' {lo hi : Nat} {w w' : World} {g : Nat} {l : List Tn} (h : ShX w lo hi g l) (k : Mk lo hi w w') : ShX w' lo hi g l :=
  ⟨Blk.mk h.b k, h.ge, h.lt, fun i hi => by
    obtain ⟨gr, gc, h1, h2, h3, h4⟩ := h.cells i hi
    exact ⟨gr, gc, (k.cellK h.b (i * 4 + 2) (by simp [kp] <;> omega)).trans h1, (k.cellK h.b (i * 4 + 3) (by simp [kp] <;> omega)).trans h2, h3.mk' k, h4.mk' k⟩⟩
theorem OwnChH.sh {w : World} {base lo hi g c : Nat} {f : List Chn} (h : OwnChH w lo hi (.slice (some ⟨g, 0, none⟩) f.length c) f) (hb : base ≤ lo) (hw : g < w.heap.size) : ShH w base w.heap.size g f := by
  obtain ⟨vs, xs, hp, _, _⟩ := h
  have hg := hp.row.lt g rfl
  refine ⟨Blk.of_own hp.row, by omega, hw, fun i hi => ?_⟩
  obtain ⟨_, e2⟩ := hp.at_ i hi hi
  have ho := hp.ents i hi hi
  have hc := owns_cell hp.row _ _ e2
  rcases ho.2 with ⟨e, h0⟩ | ⟨k, cap, cur, e, hk, hkk, hr⟩
  · exact ⟨none, 0, by rw [hc, e, h0], .inl h0⟩
  · refine ⟨some ⟨k, 0, none⟩, cap, by rw [hc, e], .inr ⟨k, rfl, ?_⟩⟩
    unfold OwnVr at ho
    rw [e] at ho
    have hl := ho.lt k rfl
    exact ⟨Blk.of_own ho, by omega, hl.2⟩
theorem OwnDfH.sh {w : World} {base lo hi g c : Nat} {f : List Dfn} (h : OwnDfH w lo hi (.slice (some ⟨g, 0, none⟩) f.length c) f) (hb : base ≤ lo) (hw : g < w.heap.size) : ShF w base w.heap.size g f := by
  obtain ⟨vs, xs, hp, _, _⟩ := h
  have hg := hp.row.lt g rfl
  refine ⟨Blk.of_own hp.row, by omega, hw, fun i hi => ?_⟩
  obtain ⟨_, e2⟩ := hp.at_ i hi hi
  have ho := hp.ents i hi hi
  have hc := owns_cell hp.row _ _ e2
  rcases ho.2 with ⟨e, h0⟩ | ⟨k, cap, cur, e, hk, hkk, hr⟩
  · exact ⟨none, 0, by rw [hc, e, h0], .inl h0⟩
  · refine ⟨some ⟨k, 0, none⟩, cap, by rw [hc, e], .inr ⟨k, rfl, ?_⟩⟩
    unfold OwnD at ho
    rw [e] at ho
    have hl := ho.lt k rfl
    exact ⟨Blk.of_own ho, by omega, hl.2⟩
theorem MadeChs.sh {w : World} {lo g : Nat} {f : List Chn} (h : MadeChs w lo g f) : ShH w lo w.heap.size g f := by
  obtain ⟨l, hi, h1, h2⟩ := h
  have h3 := h2
  obtain ⟨vs, xs, hp, _, _⟩ := h3
  exact OwnChH.sh h2 h1 (hp.row.lt g rfl).2
theorem MadeDfs.sh {w : World} {lo g : Nat} {f : List Dfn} (h : MadeDfs w lo g f) : ShF w lo w.heap.size g f := by
  obtain ⟨l, hi, h1, h2⟩ := h
  have h3 := h2
  obtain ⟨vs, xs, hp, _, _⟩ := h3
  exact OwnDfH.sh h2 h1 (hp.row.lt g rfl).2
theorem MadeCs.sh {w : World} {lo g : Nat} {l : List Col} (h : Ty.MadeCs w lo g l) : ShK w lo w.heap.size g l := ⟨h.blk, h.ge, h.lt, fun i hi => by
    obtain ⟨gr, gc, ⟨x0, x1, x2⟩, y, z, u⟩ := h.cells i hi
    exact ⟨gr, gc, x1, x2, MadeChs.sh y, MadeDfs.sh z⟩⟩
theorem MadeTn.sh {w : World} {lo g : Nat} {l : List Tn} (h : Ty.MadeTn w lo g l) : ShX w lo w.heap.size g l := ⟨h.blk, h.ge, h.lt, fun i hi => by
    obtain ⟨gr, gc, ⟨x0, x1, x2, x3⟩, y, z, u⟩ := h.cells i hi
    exact ⟨gr, gc, x2, x3, MadeRd.sh y, ⟨z.blk, u, z.lt⟩⟩⟩

end Go.Proofs.YtpfbepbmiillbaaGreatDoor.Tz

/- Marks on rows of terms, clauses, reads, changes, committed ones: what the laws' helpers answer, and what they leave. -/
namespace Go.Proofs.YtpfbepbmiillbaaGreatDoor.Tz
open Go.RowKit Go.ChangeShapes Go.WideShapes Go.ChangeAt Go.Joins Tr Co Rea Ce Tx Ty
set_option linter.unusedVariables false

theorem mText_at (n : Nat) (z : Int) (hz : z = (n : Int)) (h1 : 1 ≤ n) (h2 : n ≤ 17592186044416) (w : World) :
    Calls Tryz.prog 55 #[.int .i64 z] w fun e w' => e = .returned (.string (Tr.mt n)) ∧ Below w.heap.size w w' := by
  subst hz; exact Tr.markText_any n h1 h2 w
/-- Whether a mark's number makes true. -/
def boolK (n : Int) : Bool := n % 3 == 0
/-- How many numbers marks on rows take. -/
def mkC (f : List (List Trm)) : Nat := sumN (fun l => 5 * l.length) f
def mkR (rs : List Rdg) : Nat := sumN (fun x => 1 + mkC x.f) rs
def mkD (ds : List Dn) : Nat := sumN (fun x => 4 + mkR x.rs + 10 * x.cs.length) ds
theorem sumN_le {α : Type} (F G : α → Nat) : ∀ (l : List α), (∀ x ∈ l, F x ≤ G x) → sumN F l ≤ sumN G l
  | [], _ => Nat.le_refl _
  | a :: l, h => by
    have := sumN_le F G l (fun x hx => h x (List.mem_cons_of_mem _ hx))
    have := h a (List.mem_cons_self ..)
    rw [sumN_cons, sumN_cons]; omega
theorem sumN_mul {α : Type} (c : Nat) (F : α → Nat) : ∀ (l : List α), sumN (fun x => c * F x) l = c * sumN F l
  | [] => rfl
  | a :: l => by rw [sumN_cons, sumN_cons, sumN_mul c F l, Nat.mul_add]
theorem sumN_len {α : Type} (c : Nat) (F : α → Nat) : ∀ (l : List α), sumN (fun x => c + F x) l = c * l.length + sumN F l
  | [] => rfl
  | a :: l => by rw [sumN_cons, sumN_cons, sumN_len c F l, List.length_cons, Nat.mul_add]; omega
theorem sumN_upto {α : Type} (F : α → Nat) (l : List α) (k : Nat) : sumN F (l.take k) ≤ sumN F l := by
  have h : sumN F l = sumN F (l.take k) + sumN F (l.drop k) := by
    unfold sumN; rw [← List.sum_append, ← List.map_append, List.take_append_drop]
  omega
theorem sumN_one {α : Type} (F : α → Nat) (l : List α) (k : Nat) (h : k < l.length) : sumN F (l.take k) + F l[k] ≤ sumN F l := by
  have := sumN_upto F l (k + 1)
  rw [sumN_take F l k h] at this; omega
theorem mkC_le (f : List (List Trm)) : mkC f ≤ 5 * cntC f := by
  have h : sumN (fun l : List Trm => 5 * l.length) f = 5 * sumN (fun l => l.length) f := sumN_mul 5 _ f
  unfold mkC cntC; rw [h]; omega
theorem mkR_le (rs : List Rdg) : mkR rs ≤ 6 * cntR rs := by
  have h : sumN (fun x : Rdg => 1 + mkC x.f) rs ≤ sumN (fun x => 1 + 6 * cntC x.f) rs := sumN_le _ _ rs (fun x _ => by have := mkC_le x.f; omega)
  have h1 : sumN (fun x : Rdg => 1 + 6 * cntC x.f) rs = 1 * rs.length + sumN (fun x => 6 * cntC x.f) rs := sumN_len 1 _ rs
  have h2 : sumN (fun x : Rdg => 6 * cntC x.f) rs = 6 * sumN (fun x => cntC x.f) rs := sumN_mul 6 _ rs
  unfold mkR cntR; omega
theorem mkD_le (ds : List Dn) : mkD ds ≤ 10 * cntD ds := by
  have h : sumN (fun x : Dn => 4 + mkR x.rs + 10 * x.cs.length) ds ≤ sumN (fun x => 4 + 10 * (cntR x.rs + x.cs.length)) ds := sumN_le _ _ ds (fun x _ => by have := mkR_le x.rs; omega)
  have h1 : sumN (fun x : Dn => 4 + 10 * (cntR x.rs + x.cs.length)) ds = 4 * ds.length + sumN (fun x => 10 * (cntR x.rs + x.cs.length)) ds := sumN_len 4 _ ds
  have h2 : sumN (fun x : Dn => 10 * (cntR x.rs + x.cs.length)) ds = 10 * sumN (fun x => cntR x.rs + x.cs.length) ds := sumN_mul 10 _ ds
  unfold mkD cntD; omega
/-- What marks on one row leave, that row kept in sight. -/
structure MkB (lo hi : Nat) (w w' : World) (g n : Nat) (T : TypeId) : Prop where
  m : Mk lo hi w w'
  b : Blk w' g T n
theorem MkB.set {lo hi : Nat} {w w' : World} {g n o : Nat} {T : TypeId} (h : MkB lo hi w w' g n T) (v : Value) (h1 : lo ≤ g) (h2 : g < hi) (hk : kp T o = false) : MkB lo hi w (w'.setCell ⟨g, o, none⟩ v) g n T :=
  have k := Mk.set (lo := lo) (hi := hi) v h.b h1 h2 hk
  ⟨h.m.trans k, Blk.mk h.b k⟩
theorem MkB.next {lo hi : Nat} {w w' w'' : World} {g n : Nat} {T : TypeId} (h : MkB lo hi w w' g n T) (hb : Below w'.heap.size w' w'') : MkB lo hi w w'' g n T :=
  ⟨h.m.trans (Mk.of_below hb), Blk.mk h.b (Mk.of_below (lo := lo) (hi := hi) hb)⟩
theorem MkB.more {lo hi : Nat} {w w' w'' : World} {g n : Nat} {T : TypeId} (h : MkB lo hi w w' g n T) (k : Mk lo hi w' w'') : MkB lo hi w w'' g n T :=
  ⟨h.m.trans k, Blk.mk h.b k⟩

set_option maxRecDepth 4000 in
set_option maxHeartbeats 2000000 in
theorem markTermS_any (lo hi g c : Nat) (n : Nat) (q : Nat) (w : World) (hsh : ShT w lo hi g n) (h1 : 1 ≤ q) (h2 : q + 5 * n ≤ 17592186044416) (hl : n ≤ 1048576) :
    Calls Tryz.prog 159 #[.slice (some ⟨g, 0, none⟩) n c, .int .i64 q] w fun e w' => e = .returned (.int .i64 ((q + 5 * n : Nat) : Int)) ∧ Mk lo hi w w' := by
  have HSH : Hid (ShT w lo hi g n) := hsh
  have HG : Hid (lo ≤ g ∧ g < hi) := ⟨hsh.ge, hsh.lt⟩
  clear hsh
  go_enter Tryz.func159, Tryz.ntmps159
  go_wp2_with fail
  go_loopw [1, 5] (fun x i wr => ∃ (k E : Nat), k ≤ n ∧ i = .int .i64 k ∧ x = .int .i64 (E : Int) ∧ E = q + 5 * k ∧ Mk lo hi w wr) (fun _ i _ => n - (intOf i).toNat)
  case atStart => exact ⟨0, q, Nat.zero_le _, rfl, rfl, by omega, Mk.refl _ _ _⟩
  case round =>
    obtain ⟨k, E, hk, rfl, rfl, hE, hM⟩ := hrel
    have hz := hM.chg.size
    by_cases hlt : k < n
    · have hlt2 : (k : Int) < (n : Int) := by omega
      have hE1 : 1 ≤ E := by omega
      have hEb : E + 5 ≤ 17592186044416 := by omega
      have HEQ : Hid (E = q + 5 * k) := hE
      have M0 : MkB lo hi w wr g (n * 5) 213 := ⟨hM, (HSH.out.mk' hM).b⟩
      have hglr : g < wr.heap.size := M0.b.lt
      clear hE hM
      obtain ⟨z0, y0⟩ := M0.b.there (o := k * 5) (by omega)
      have f0 := M0.b.soft (k * 5)
      have HN0 : Hid (MkB lo hi w _ g (n * 5) 213) := (MkB.set M0 (o := k * 5) (.int .i64 ((E : Int))) HG.out.1 HG.out.2 (by simp [kp] <;> omega))
      clear M0
      go_wp2_with fail
      refine (mText_at (E + 1) _ (by omega) (by omega) (by omega) _).mono ?_
      rintro e w2 ⟨rfl, hb⟩
      have M1 := HN0.out.next hb
      have hglr0 : g < w2.heap.size := M1.b.lt
      have hz0 : w.heap.size ≤ w2.heap.size := M1.m.chg.size
      clear hb HN0 hz hglr y0 f0
      obtain ⟨z1, y1⟩ := M1.b.there (o := k * 5 + 1) (by omega)
      have f1 := M1.b.soft (k * 5 + 1)
      obtain ⟨z2, y2⟩ := M1.b.there (o := k * 5 + 2) (by omega)
      have f2 := M1.b.soft (k * 5 + 2)
      obtain ⟨z3, y3⟩ := M1.b.there (o := k * 5 + 3) (by omega)
      have f3 := M1.b.soft (k * 5 + 3)
      have HN1 : Hid (MkB lo hi w _ g (n * 5) 213) := (MkB.set (MkB.set (MkB.set M1 (o := k * 5 + 1) (.string (Tr.mt (E + 1))) HG.out.1 HG.out.2 (by simp [kp] <;> omega)) (o := k * 5 + 2) (.int .i64 ((E : Int) + 1 + 1)) HG.out.1 HG.out.2 (by simp [kp] <;> omega)) (o := k * 5 + 3) (.int .i64 ((E : Int) + 1 + 1 + 1)) HG.out.1 HG.out.2 (by simp [kp] <;> omega))
      clear M1
      go_wp2_with fail
      refine (mText_at (E + 4) _ (by omega) (by omega) (by omega) _).mono ?_
      rintro e w3 ⟨rfl, hb⟩
      have M2 := HN1.out.next hb
      have hglr1 : g < w3.heap.size := M2.b.lt
      have hz1 : w.heap.size ≤ w3.heap.size := M2.m.chg.size
      clear hb HN1 hz0 hglr0 y1 f1 y2 f2 y3 f3
      obtain ⟨z4, y4⟩ := M2.b.there (o := k * 5 + 4) (by omega)
      have f4 := M2.b.soft (k * 5 + 4)
      have HN2 : Hid (MkB lo hi w _ g (n * 5) 213) := (MkB.set M2 (o := k * 5 + 4) (.string (Tr.mt (E + 4))) HG.out.1 HG.out.2 (by simp [kp] <;> omega))
      clear M2
      go_wp2_with fail
      go_roundw
      case rel => exact ⟨k + 1, E + 5, by omega, by go_num, by go_num, by have := HEQ.out; omega, HN2.out.m⟩
      case measure => simp [intOf]; omega
    · obtain rfl : k = n := by omega
      subst hE
      go_wp2_with fail
      go_ret
      exact ⟨rfl, hM⟩

set_option maxRecDepth 4000 in
set_option maxHeartbeats 2000000 in
theorem markChangeS_any (lo hi g c : Nat) (n : Nat) (q : Nat) (w : World) (hsh : ShG w lo hi g n) (h1 : 1 ≤ q) (h2 : q + 10 * n ≤ 17592186044416) (hl : n ≤ 1048576) :
    Calls Tryz.prog 86 #[.slice (some ⟨g, 0, none⟩) n c, .int .i64 q] w fun e w' => e = .returned (.int .i64 ((q + 10 * n : Nat) : Int)) ∧ Mk lo hi w w' := by
  have HSH : Hid (ShG w lo hi g n) := hsh
  have HG : Hid (lo ≤ g ∧ g < hi) := ⟨hsh.ge, hsh.lt⟩
  clear hsh
  go_enter Tryz.func86, Tryz.ntmps86
  go_wp2_with fail
  go_loopw [1, 5] (fun x i wr => ∃ (k E : Nat), k ≤ n ∧ i = .int .i64 k ∧ x = .int .i64 (E : Int) ∧ E = q + 10 * k ∧ Mk lo hi w wr) (fun _ i _ => n - (intOf i).toNat)
  case atStart => exact ⟨0, q, Nat.zero_le _, rfl, rfl, by omega, Mk.refl _ _ _⟩
  case round =>
    obtain ⟨k, E, hk, rfl, rfl, hE, hM⟩ := hrel
    have hz := hM.chg.size
    by_cases hlt : k < n
    · have hlt2 : (k : Int) < (n : Int) := by omega
      have hE1 : 1 ≤ E := by omega
      have hEb : E + 10 ≤ 17592186044416 := by omega
      have HEQ : Hid (E = q + 10 * k) := hE
      have M0 : MkB lo hi w wr g (n * 10) 180 := ⟨hM, (HSH.out.mk' hM).b⟩
      have hglr : g < wr.heap.size := M0.b.lt
      clear hE hM
      have HN0 : Hid (MkB lo hi w _ g (n * 10) 180) := M0
      clear M0
      go_wp2_with fail
      refine (mText_at (E + 0) _ (by omega) (by omega) (by omega) _).mono ?_
      rintro e w2 ⟨rfl, hb⟩
      have M1 := HN0.out.next hb
      have hglr0 : g < w2.heap.size := M1.b.lt
      have hz0 : w.heap.size ≤ w2.heap.size := M1.m.chg.size
      clear hb HN0 hz hglr 
      obtain ⟨B2, hB2⟩ : ∃ B2 : Bool, B2 = boolK ((E : Int) + 1 + 1) := ⟨_, rfl⟩
      have kB2 : (((E : Int) + 1 + 1) % 3 == 0) = B2 := by rw [hB2]; rfl
      have tB2 : Int.tmod ((E : Int) + 1 + 1) 3 = ((E : Int) + 1 + 1) % 3 := Int.tmod_eq_emod_of_nonneg (by omega)
      clear hB2
      obtain ⟨z0, y0⟩ := M1.b.there (o := k * 10) (by omega)
      have f0 := M1.b.soft (k * 10)
      obtain ⟨z1, y1⟩ := M1.b.there (o := k * 10 + 1) (by omega)
      have f1 := M1.b.soft (k * 10 + 1)
      obtain ⟨z2, y2⟩ := M1.b.there (o := k * 10 + 2) (by omega)
      have f2 := M1.b.soft (k * 10 + 2)
      obtain ⟨z3, y3⟩ := M1.b.there (o := k * 10 + 3) (by omega)
      have f3 := M1.b.soft (k * 10 + 3)
      obtain ⟨z4, y4⟩ := M1.b.there (o := k * 10 + 4) (by omega)
      have f4 := M1.b.soft (k * 10 + 4)
      have HN1 : Hid (MkB lo hi w _ g (n * 10) 180) := (MkB.set (MkB.set (MkB.set (MkB.set (MkB.set M1 (o := k * 10) (.string (Tr.mt (E + 0))) HG.out.1 HG.out.2 (by simp [kp] <;> omega)) (o := k * 10 + 1) (.int .i64 ((E : Int) + 1)) HG.out.1 HG.out.2 (by simp [kp] <;> omega)) (o := k * 10 + 2) (.bool B2) HG.out.1 HG.out.2 (by simp [kp] <;> omega)) (o := k * 10 + 3) (.int .i64 ((E : Int) + 1 + 1 + 1)) HG.out.1 HG.out.2 (by simp [kp] <;> omega)) (o := k * 10 + 4) (.int .i64 ((E : Int) + 1 + 1 + 1 + 1)) HG.out.1 HG.out.2 (by simp [kp] <;> omega))
      clear M1
      go_wp2_with fail
      refine (mText_at (E + 5) _ (by omega) (by omega) (by omega) _).mono ?_
      rintro e w3 ⟨rfl, hb⟩
      have M2 := HN1.out.next hb
      have hglr1 : g < w3.heap.size := M2.b.lt
      have hz1 : w.heap.size ≤ w3.heap.size := M2.m.chg.size
      clear hb HN1 hz0 hglr0 y0 f0 y1 f1 y2 f2 y3 f3 y4 f4
      obtain ⟨z5, y5⟩ := M2.b.there (o := k * 10 + 5) (by omega)
      have f5 := M2.b.soft (k * 10 + 5)
      obtain ⟨z6, y6⟩ := M2.b.there (o := k * 10 + 6) (by omega)
      have f6 := M2.b.soft (k * 10 + 6)
      obtain ⟨z7, y7⟩ := M2.b.there (o := k * 10 + 7) (by omega)
      have f7 := M2.b.soft (k * 10 + 7)
      have HN2 : Hid (MkB lo hi w _ g (n * 10) 180) := (MkB.set (MkB.set (MkB.set M2 (o := k * 10 + 5) (.string (Tr.mt (E + 5))) HG.out.1 HG.out.2 (by simp [kp] <;> omega)) (o := k * 10 + 6) (.int .i64 ((E : Int) + 1 + 1 + 1 + 1 + 1 + 1)) HG.out.1 HG.out.2 (by simp [kp] <;> omega)) (o := k * 10 + 7) (.int .i64 ((E : Int) + 1 + 1 + 1 + 1 + 1 + 1 + 1)) HG.out.1 HG.out.2 (by simp [kp] <;> omega))
      clear M2
      go_wp2_with fail
      refine (mText_at (E + 8) _ (by omega) (by omega) (by omega) _).mono ?_
      rintro e w4 ⟨rfl, hb⟩
      have M3 := HN2.out.next hb
      have hglr2 : g < w4.heap.size := M3.b.lt
      have hz2 : w.heap.size ≤ w4.heap.size := M3.m.chg.size
      clear hb HN2 hz1 hglr1 y5 f5 y6 f6 y7 f7
      obtain ⟨B9, hB9⟩ : ∃ B9 : Bool, B9 = boolK ((E : Int) + 1 + 1 + 1 + 1 + 1 + 1 + 1 + 1 + 1) := ⟨_, rfl⟩
      have kB9 : (((E : Int) + 1 + 1 + 1 + 1 + 1 + 1 + 1 + 1 + 1) % 3 == 0) = B9 := by rw [hB9]; rfl
      have tB9 : Int.tmod ((E : Int) + 1 + 1 + 1 + 1 + 1 + 1 + 1 + 1 + 1) 3 = ((E : Int) + 1 + 1 + 1 + 1 + 1 + 1 + 1 + 1 + 1) % 3 := Int.tmod_eq_emod_of_nonneg (by omega)
      clear hB9
      obtain ⟨z8, y8⟩ := M3.b.there (o := k * 10 + 8) (by omega)
      have f8 := M3.b.soft (k * 10 + 8)
      obtain ⟨z9, y9⟩ := M3.b.there (o := k * 10 + 9) (by omega)
      have f9 := M3.b.soft (k * 10 + 9)
      have HN3 : Hid (MkB lo hi w _ g (n * 10) 180) := (MkB.set (MkB.set M3 (o := k * 10 + 8) (.string (Tr.mt (E + 8))) HG.out.1 HG.out.2 (by simp [kp] <;> omega)) (o := k * 10 + 9) (.bool B9) HG.out.1 HG.out.2 (by simp [kp] <;> omega))
      clear M3
      go_wp2_with fail
      go_roundw
      case rel => exact ⟨k + 1, E + 10, by omega, by go_num, by go_num, by have := HEQ.out; omega, HN3.out.m⟩
      case measure => simp [intOf]; omega
    · obtain rfl : k = n := by omega
      subst hE
      go_wp2_with fail
      go_ret
      exact ⟨rfl, hM⟩

set_option maxRecDepth 4000 in
set_option maxHeartbeats 2000000 in
theorem markClauseS_any (lo hi g c : Nat) (l : List (List Trm)) (q : Nat) (w : World) (hsh : ShC w lo hi g l) (h1 : 1 ≤ q) (h2 : q + mkC l ≤ 17592186044416) (hl : l.length ≤ 1048576) (hls : ∀ x ∈ l, x.length ≤ 1048576) :
    Calls Tryz.prog 124 #[.slice (some ⟨g, 0, none⟩) l.length c, .int .i64 q] w fun e w' => e = .returned (.int .i64 ((q + mkC l : Nat) : Int)) ∧ Mk lo hi w w' := by
  have HSH : Hid (ShC w lo hi g l) := hsh
  have HLS : Hid (∀ x ∈ l, x.length ≤ 1048576) := hls
  have HG : Hid (lo ≤ g ∧ g < hi) := ⟨hsh.ge, hsh.lt⟩
  clear hsh hls
  go_enter Tryz.func124, Tryz.ntmps124
  go_wp2_with fail
  go_loopw [1, 5] (fun x i wr => ∃ (k E : Nat), k ≤ l.length ∧ i = .int .i64 k ∧ x = .int .i64 (E : Int) ∧ E = q + sumN (fun l : List Trm => 5 * l.length) (l.take k) ∧ Mk lo hi w wr) (fun _ i _ => l.length - (intOf i).toNat)
  case atStart => exact ⟨0, q, Nat.zero_le _, rfl, rfl, by simp [sumN], Mk.refl _ _ _⟩
  case round =>
    obtain ⟨k, E, hk, rfl, rfl, hE, hM⟩ := hrel
    have hz := hM.chg.size
    by_cases hlt : k < l.length
    · have hlt2 : (k : Int) < (l.length : Int) := by omega
      have hE1 : 1 ≤ E := by omega
      have hs1 := sumN_one (fun l : List Trm => 5 * l.length) l k hlt
      have HS2 : Hid (sumN (fun l : List Trm => 5 * l.length) (l.take (k + 1)) = sumN (fun l : List Trm => 5 * l.length) (l.take k) + (5 * l[k].length)) := sumN_take (fun l : List Trm => 5 * l.length) l k hlt
      have hEb : E + (5 * l[k].length) ≤ 17592186044416 := by unfold mkC at h2; omega
      have HEQ : Hid (E = q + sumN (fun l : List Trm => 5 * l.length) (l.take k)) := hE
      clear hs1 hE
      have hsr := HSH.out.mk' hM
      obtain ⟨gi, cap, x0, hS⟩ := hsr.cells k hlt
      have hglr : g < wr.heap.size := hsr.b.lt
      have HT : Hid (Calls _ _ _ _ _) := markTermS_any lo hi gi cap l[k].length E wr hS hE1 hEb (HLS.out _ (List.getElem_mem _))
      have HM : Hid (Mk lo hi w wr) := hM
      clear hsr hS hM
      go_wp2_with fail
      refine HT.out.mono ?_
      rintro e w2 ⟨rfl, hm2⟩
      have HM2 : Hid (Mk lo hi w w2) := HM.out.trans hm2
      have hz2 := hm2.chg.size
      clear hm2 HT HM x0
      go_wp2_with fail
      go_roundw
      case rel => exact ⟨k + 1, E + 5 * l[k].length, by omega, by go_num, by go_num, by have a := HEQ.out; have b := HS2.out; omega, HM2.out⟩
      case measure => simp [intOf]; omega
    · obtain rfl : k = l.length := by omega
      rw [List.take_of_length_le (Nat.le_refl _)] at hE
      subst hE
      go_wp2_with fail
      go_ret
      exact ⟨rfl, hM⟩

set_option maxRecDepth 4000 in
set_option maxHeartbeats 2000000 in
theorem markReadS_any (lo hi g c : Nat) (l : List Rdg) (q : Nat) (w : World) (hsh : ShR w lo hi g l) (h1 : 1 ≤ q) (h2 : q + mkR l ≤ 17592186044416) (hl : l.length ≤ 1048576) (hls : ∀ x ∈ l, x.f.length ≤ 1048576 ∧ ∀ y ∈ x.f, y.length ≤ 1048576) :
    Calls Tryz.prog 84 #[.slice (some ⟨g, 0, none⟩) l.length c, .int .i64 q] w fun e w' => e = .returned (.int .i64 ((q + mkR l : Nat) : Int)) ∧ Mk lo hi w w' := by
  have HSH : Hid (ShR w lo hi g l) := hsh
  have HLS : Hid (∀ x ∈ l, x.f.length ≤ 1048576 ∧ ∀ y ∈ x.f, y.length ≤ 1048576) := hls
  have HG : Hid (lo ≤ g ∧ g < hi) := ⟨hsh.ge, hsh.lt⟩
  clear hsh hls
  go_enter Tryz.func84, Tryz.ntmps84
  go_wp2_with fail
  go_loopw [1, 5] (fun x i wr => ∃ (k E : Nat), k ≤ l.length ∧ i = .int .i64 k ∧ x = .int .i64 (E : Int) ∧ E = q + sumN (fun x : Rdg => 1 + mkC x.f) (l.take k) ∧ Mk lo hi w wr) (fun _ i _ => l.length - (intOf i).toNat)
  case atStart => exact ⟨0, q, Nat.zero_le _, rfl, rfl, by simp [sumN], Mk.refl _ _ _⟩
  case round =>
    obtain ⟨k, E, hk, rfl, rfl, hE, hM⟩ := hrel
    have hz := hM.chg.size
    by_cases hlt : k < l.length
    · have hlt2 : (k : Int) < (l.length : Int) := by omega
      have hE1 : 1 ≤ E := by omega
      have hs1 := sumN_one (fun x : Rdg => 1 + mkC x.f) l k hlt
      have HS2 : Hid (sumN (fun x : Rdg => 1 + mkC x.f) (l.take (k + 1)) = sumN (fun x : Rdg => 1 + mkC x.f) (l.take k) + (1 + mkC l[k].f)) := sumN_take (fun x : Rdg => 1 + mkC x.f) l k hlt
      have hEb : E + (1 + mkC l[k].f) ≤ 17592186044416 := by unfold mkR at h2; omega
      have HEQ : Hid (E = q + sumN (fun x : Rdg => 1 + mkC x.f) (l.take k)) := hE
      clear hs1 hE
      have M0 : MkB lo hi w wr g (l.length * 2) 121 := ⟨hM, (HSH.out.mk' hM).b⟩
      have hglr : g < wr.heap.size := M0.b.lt
      clear hM
      go_wp2_with fail
      refine (mText_at E _ (by omega) (by omega) (by omega) _).mono ?_
      rintro e w2 ⟨rfl, hb⟩
      have M1 := M0.next hb
      have hglr2 : g < w2.heap.size := M1.b.lt
      clear hb M0 hglr hz
      have M2 := MkB.set M1 (o := k * 2) (.string (Tr.mt E)) HG.out.1 HG.out.2 (by simp [kp] <;> omega)
      obtain ⟨gi, x1, hS⟩ := (HSH.out.mk' M2.m).cells k hlt
      have hT := markClauseS_any lo hi gi l[k].f.length l[k].f (E + 1) _ hS (by omega) (by omega) (HLS.out _ (List.getElem_mem _)).1 (HLS.out _ (List.getElem_mem _)).2
      rw [show ((E + 1 : Nat) : Int) = (E : Int) + 1 by omega] at hT
      have HT : Hid (Calls _ _ _ _ _) := hT
      have HM2 : Hid (Mk lo hi w _) := M2.m
      obtain ⟨z0, y0⟩ := M1.b.there (o := k * 2) (by omega)
      have f0 := M1.b.soft (k * 2)
      have y1 : w2.cell? ⟨g, k * 2 + 1, none⟩ = some (.slice (some ⟨gi, 0, none⟩) l[k].f.length l[k].f.length) := by
        rw [← x1]
        simp only [World.cell?, World.setCell, Array.getElem?_modify]
        obtain ⟨vs, e1, e2⟩ := M1.b
        simp [e1]
      clear M1 M2 x1 hS hT
      go_wp2_with fail
      refine HT.out.mono ?_
      rintro e w3 ⟨rfl, hm2⟩
      have HM3 : Hid (Mk lo hi w w3) := HM2.out.trans hm2
      have hz3 := hm2.chg.size
      clear hm2 HT HM2 y0 y1 f0
      go_wp2_with fail
      go_roundw
      case rel => exact ⟨k + 1, E + (1 + mkC l[k].f), by omega, by go_num, by go_num, by have a := HEQ.out; have b := HS2.out; omega, HM3.out⟩
      case measure => simp [intOf]; omega
    · obtain rfl : k = l.length := by omega
      rw [List.take_of_length_le (Nat.le_refl _)] at hE
      subst hE
      go_wp2_with fail
      go_ret
      exact ⟨rfl, hM⟩

set_option maxRecDepth 4000 in
set_option maxHeartbeats 2000000 in
theorem markVersionS_any (lo hi g c : Nat) (n : Nat) (q : Nat) (w : World) (hsh : ShV w lo hi g n) (h1 : 1 ≤ q) (h2 : q + 5 * n ≤ 17592186044416) (hl : n ≤ 1048576) :
    Calls Tryz.prog 122 #[.slice (some ⟨g, 0, none⟩) n c, .int .i64 q] w fun e w' => e = .returned (.int .i64 ((q + 5 * n : Nat) : Int)) ∧ Mk lo hi w w' := by
  have HSH : Hid (ShV w lo hi g n) := hsh
  have HG : Hid (lo ≤ g ∧ g < hi) := ⟨hsh.ge, hsh.lt⟩
  clear hsh
  go_enter Tryz.func122, Tryz.ntmps122
  go_wp2_with fail
  go_loopw [1, 5] (fun x i wr => ∃ (k E : Nat), k ≤ n ∧ i = .int .i64 k ∧ x = .int .i64 (E : Int) ∧ E = q + 5 * k ∧ Mk lo hi w wr) (fun _ i _ => n - (intOf i).toNat)
  case atStart => exact ⟨0, q, Nat.zero_le _, rfl, rfl, by omega, Mk.refl _ _ _⟩
  case round =>
    obtain ⟨k, E, hk, rfl, rfl, hE, hM⟩ := hrel
    have hz := hM.chg.size
    by_cases hlt : k < n
    · have hlt2 : (k : Int) < (n : Int) := by omega
      have hE1 : 1 ≤ E := by omega
      have hEb : E + 5 ≤ 17592186044416 := by omega
      have HEQ : Hid (E = q + 5 * k) := hE
      have M0 : MkB lo hi w wr g (n * 5) 70 := ⟨hM, (HSH.out.mk' hM).b⟩
      have hglr : g < wr.heap.size := M0.b.lt
      clear hE hM
      obtain ⟨B1, hB1⟩ : ∃ B1 : Bool, B1 = boolK ((E : Int) + 1) := ⟨_, rfl⟩
      have kB1 : (((E : Int) + 1) % 3 == 0) = B1 := by rw [hB1]; rfl
      have tB1 : Int.tmod ((E : Int) + 1) 3 = ((E : Int) + 1) % 3 := Int.tmod_eq_emod_of_nonneg (by omega)
      clear hB1
      obtain ⟨z0, y0⟩ := M0.b.there (o := k * 5) (by omega)
      have f0 := M0.b.soft (k * 5)
      obtain ⟨z1, y1⟩ := M0.b.there (o := k * 5 + 1) (by omega)
      have f1 := M0.b.soft (k * 5 + 1)
      obtain ⟨z2, y2⟩ := M0.b.there (o := k * 5 + 2) (by omega)
      have f2 := M0.b.soft (k * 5 + 2)
      obtain ⟨z3, y3⟩ := M0.b.there (o := k * 5 + 3) (by omega)
      have f3 := M0.b.soft (k * 5 + 3)
      have HN0 : Hid (MkB lo hi w _ g (n * 5) 70) := (MkB.set (MkB.set (MkB.set (MkB.set M0 (o := k * 5) (.int .i64 ((E : Int))) HG.out.1 HG.out.2 (by simp [kp] <;> omega)) (o := k * 5 + 1) (.bool B1) HG.out.1 HG.out.2 (by simp [kp] <;> omega)) (o := k * 5 + 2) (.int .i64 ((E : Int) + 1 + 1)) HG.out.1 HG.out.2 (by simp [kp] <;> omega)) (o := k * 5 + 3) (.int .i64 ((E : Int) + 1 + 1 + 1)) HG.out.1 HG.out.2 (by simp [kp] <;> omega))
      clear M0
      go_wp2_with fail
      refine (mText_at (E + 4) _ (by omega) (by omega) (by omega) _).mono ?_
      rintro e w2 ⟨rfl, hb⟩
      have M1 := HN0.out.next hb
      have hglr0 : g < w2.heap.size := M1.b.lt
      have hz0 : w.heap.size ≤ w2.heap.size := M1.m.chg.size
      clear hb HN0 hz hglr y0 f0 y1 f1 y2 f2 y3 f3
      obtain ⟨z4, y4⟩ := M1.b.there (o := k * 5 + 4) (by omega)
      have f4 := M1.b.soft (k * 5 + 4)
      have HN1 : Hid (MkB lo hi w _ g (n * 5) 70) := (MkB.set M1 (o := k * 5 + 4) (.string (Tr.mt (E + 4))) HG.out.1 HG.out.2 (by simp [kp] <;> omega))
      clear M1
      go_wp2_with fail
      go_roundw
      case rel => exact ⟨k + 1, E + 5, by omega, by go_num, by go_num, by have := HEQ.out; omega, HN1.out.m⟩
      case measure => simp [intOf]; omega
    · obtain rfl : k = n := by omega
      subst hE
      go_wp2_with fail
      go_ret
      exact ⟨rfl, hM⟩

set_option maxRecDepth 4000 in
set_option maxHeartbeats 2000000 in
theorem markPartS_any (lo hi g c : Nat) (n : Nat) (q : Nat) (w : World) (hsh : ShP w lo hi g n) (h1 : 1 ≤ q) (h2 : q + 2 * n ≤ 17592186044416) (hl : n ≤ 1048576) :
    Calls Tryz.prog 123 #[.slice (some ⟨g, 0, none⟩) n c, .int .i64 q] w fun e w' => e = .returned (.int .i64 ((q + 2 * n : Nat) : Int)) ∧ Mk lo hi w w' := by
  have HSH : Hid (ShP w lo hi g n) := hsh
  have HG : Hid (lo ≤ g ∧ g < hi) := ⟨hsh.ge, hsh.lt⟩
  clear hsh
  go_enter Tryz.func123, Tryz.ntmps123
  go_wp2_with fail
  go_loopw [1, 5] (fun x i wr => ∃ (k E : Nat), k ≤ n ∧ i = .int .i64 k ∧ x = .int .i64 (E : Int) ∧ E = q + 2 * k ∧ Mk lo hi w wr) (fun _ i _ => n - (intOf i).toNat)
  case atStart => exact ⟨0, q, Nat.zero_le _, rfl, rfl, by omega, Mk.refl _ _ _⟩
  case round =>
    obtain ⟨k, E, hk, rfl, rfl, hE, hM⟩ := hrel
    have hz := hM.chg.size
    by_cases hlt : k < n
    · have hlt2 : (k : Int) < (n : Int) := by omega
      have hE1 : 1 ≤ E := by omega
      have hEb : E + 2 ≤ 17592186044416 := by omega
      have HEQ : Hid (E = q + 2 * k) := hE
      have M0 : MkB lo hi w wr g (n * 2) 204 := ⟨hM, (HSH.out.mk' hM).b⟩
      have hglr : g < wr.heap.size := M0.b.lt
      clear hE hM
      have HN0 : Hid (MkB lo hi w _ g (n * 2) 204) := M0
      clear M0
      go_wp2_with fail
      refine (mText_at (E + 0) _ (by omega) (by omega) (by omega) _).mono ?_
      rintro e w2 ⟨rfl, hb⟩
      have M1 := HN0.out.next hb
      have hglr0 : g < w2.heap.size := M1.b.lt
      have hz0 : w.heap.size ≤ w2.heap.size := M1.m.chg.size
      clear hb HN0 hz hglr 
      obtain ⟨B1, hB1⟩ : ∃ B1 : Bool, B1 = boolK ((E : Int) + 1) := ⟨_, rfl⟩
      have kB1 : (((E : Int) + 1) % 3 == 0) = B1 := by rw [hB1]; rfl
      have tB1 : Int.tmod ((E : Int) + 1) 3 = ((E : Int) + 1) % 3 := Int.tmod_eq_emod_of_nonneg (by omega)
      clear hB1
      obtain ⟨z0, y0⟩ := M1.b.there (o := k * 2) (by omega)
      have f0 := M1.b.soft (k * 2)
      obtain ⟨z1, y1⟩ := M1.b.there (o := k * 2 + 1) (by omega)
      have f1 := M1.b.soft (k * 2 + 1)
      have HN1 : Hid (MkB lo hi w _ g (n * 2) 204) := (MkB.set (MkB.set M1 (o := k * 2) (.string (Tr.mt (E + 0))) HG.out.1 HG.out.2 (by simp [kp] <;> omega)) (o := k * 2 + 1) (.bool B1) HG.out.1 HG.out.2 (by simp [kp] <;> omega))
      clear M1
      go_wp2_with fail
      go_roundw
      case rel => exact ⟨k + 1, E + 2, by omega, by go_num, by go_num, by have := HEQ.out; omega, HN1.out.m⟩
      case measure => simp [intOf]; omega
    · obtain rfl : k = n := by omega
      subst hE
      go_wp2_with fail
      go_ret
      exact ⟨rfl, hM⟩

set_option maxRecDepth 4000 in
set_option maxHeartbeats 2000000 in
theorem markWriteS_any (lo hi g c : Nat) (n : Nat) (q : Nat) (w : World) (hsh : ShW w lo hi g n) (h1 : 1 ≤ q) (h2 : q + 6 * n ≤ 17592186044416) (hl : n ≤ 1048576) :
    Calls Tryz.prog 85 #[.slice (some ⟨g, 0, none⟩) n c, .int .i64 q] w fun e w' => e = .returned (.int .i64 ((q + 6 * n : Nat) : Int)) ∧ Mk lo hi w w' := by
  have HSH : Hid (ShW w lo hi g n) := hsh
  have HG : Hid (lo ≤ g ∧ g < hi) := ⟨hsh.ge, hsh.lt⟩
  clear hsh
  go_enter Tryz.func85, Tryz.ntmps85
  go_wp2_with fail
  go_loopw [1, 5] (fun x i wr => ∃ (k E : Nat), k ≤ n ∧ i = .int .i64 k ∧ x = .int .i64 (E : Int) ∧ E = q + 6 * k ∧ Mk lo hi w wr) (fun _ i _ => n - (intOf i).toNat)
  case atStart => exact ⟨0, q, Nat.zero_le _, rfl, rfl, by omega, Mk.refl _ _ _⟩
  case round =>
    obtain ⟨k, E, hk, rfl, rfl, hE, hM⟩ := hrel
    have hz := hM.chg.size
    by_cases hlt : k < n
    · have hlt2 : (k : Int) < (n : Int) := by omega
      have hE1 : 1 ≤ E := by omega
      have hEb : E + 6 ≤ 17592186044416 := by omega
      have HEQ : Hid (E = q + 6 * k) := hE
      have M0 : MkB lo hi w wr g (n * 6) 78 := ⟨hM, (HSH.out.mk' hM).b⟩
      have hglr : g < wr.heap.size := M0.b.lt
      clear hE hM
      have HN0 : Hid (MkB lo hi w _ g (n * 6) 78) := M0
      clear M0
      go_wp2_with fail
      refine (mText_at (E + 0) _ (by omega) (by omega) (by omega) _).mono ?_
      rintro e w2 ⟨rfl, hb⟩
      have M1 := HN0.out.next hb
      have hglr0 : g < w2.heap.size := M1.b.lt
      have hz0 : w.heap.size ≤ w2.heap.size := M1.m.chg.size
      clear hb HN0 hz hglr 
      obtain ⟨B2, hB2⟩ : ∃ B2 : Bool, B2 = boolK ((E : Int) + 1 + 1) := ⟨_, rfl⟩
      have kB2 : (((E : Int) + 1 + 1) % 3 == 0) = B2 := by rw [hB2]; rfl
      have tB2 : Int.tmod ((E : Int) + 1 + 1) 3 = ((E : Int) + 1 + 1) % 3 := Int.tmod_eq_emod_of_nonneg (by omega)
      clear hB2
      obtain ⟨z0, y0⟩ := M1.b.there (o := k * 6) (by omega)
      have f0 := M1.b.soft (k * 6)
      obtain ⟨z1, y1⟩ := M1.b.there (o := k * 6 + 1) (by omega)
      have f1 := M1.b.soft (k * 6 + 1)
      obtain ⟨z2, y2⟩ := M1.b.there (o := k * 6 + 2) (by omega)
      have f2 := M1.b.soft (k * 6 + 2)
      obtain ⟨z3, y3⟩ := M1.b.there (o := k * 6 + 3) (by omega)
      have f3 := M1.b.soft (k * 6 + 3)
      obtain ⟨z4, y4⟩ := M1.b.there (o := k * 6 + 4) (by omega)
      have f4 := M1.b.soft (k * 6 + 4)
      have HN1 : Hid (MkB lo hi w _ g (n * 6) 78) := (MkB.set (MkB.set (MkB.set (MkB.set (MkB.set M1 (o := k * 6) (.string (Tr.mt (E + 0))) HG.out.1 HG.out.2 (by simp [kp] <;> omega)) (o := k * 6 + 1) (.int .i64 ((E : Int) + 1)) HG.out.1 HG.out.2 (by simp [kp] <;> omega)) (o := k * 6 + 2) (.bool B2) HG.out.1 HG.out.2 (by simp [kp] <;> omega)) (o := k * 6 + 3) (.int .i64 ((E : Int) + 1 + 1 + 1)) HG.out.1 HG.out.2 (by simp [kp] <;> omega)) (o := k * 6 + 4) (.int .i64 ((E : Int) + 1 + 1 + 1 + 1)) HG.out.1 HG.out.2 (by simp [kp] <;> omega))
      clear M1
      go_wp2_with fail
      refine (mText_at (E + 5) _ (by omega) (by omega) (by omega) _).mono ?_
      rintro e w3 ⟨rfl, hb⟩
      have M2 := HN1.out.next hb
      have hglr1 : g < w3.heap.size := M2.b.lt
      have hz1 : w.heap.size ≤ w3.heap.size := M2.m.chg.size
      clear hb HN1 hz0 hglr0 y0 f0 y1 f1 y2 f2 y3 f3 y4 f4
      obtain ⟨z5, y5⟩ := M2.b.there (o := k * 6 + 5) (by omega)
      have f5 := M2.b.soft (k * 6 + 5)
      have HN2 : Hid (MkB lo hi w _ g (n * 6) 78) := (MkB.set M2 (o := k * 6 + 5) (.string (Tr.mt (E + 5))) HG.out.1 HG.out.2 (by simp [kp] <;> omega))
      clear M2
      go_wp2_with fail
      go_roundw
      case rel => exact ⟨k + 1, E + 6, by omega, by go_num, by go_num, by have := HEQ.out; omega, HN2.out.m⟩
      case measure => simp [intOf]; omega
    · obtain rfl : k = n := by omega
      subst hE
      go_wp2_with fail
      go_ret
      exact ⟨rfl, hM⟩

end Go.Proofs.YtpfbepbmiillbaaGreatDoor.Tz

/- The laws' sizes of stores, with what they count in all. -/
namespace Go.Proofs.YtpfbepbmiillbaaGreatDoor.Tx
open Go.RowKit Go.ChangeShapes Go.WideShapes Go.ChangeAt Go.Joins Tr Co Rea Ce
set_option linter.unusedVariables false

def cntH (f : List Chn) : Nat := f.length + sumN (fun x => x.vs.length) f
def cntF (f : List Dfn) : Nat := f.length + sumN (fun x => x.ps.length) f
def cntK (l : List Col) : Nat := l.length + sumN (fun x => cntH x.chs + cntF x.dfs) l
def cntX (l : List Tn) : Nat := l.length + sumN (fun x => cntR x.rs + x.cs.length) l
def cntS (s : Sto) : Nat := cntK s.cs + cntX s.ts + cntD s.ds
set_option maxRecDepth 4000 in
set_option maxHeartbeats 1000000 in
theorem szVersionS_tot (a : Option Addr) (cap : Nat) (l : List Ver) (c0 : Int) (w : World) (hin : InVr w a l) (hl : l.length ≤ maxLen) (hs : ∀ v ∈ l, maxVr v) (h0 : 0 ≤ c0) (h1 : c0 ≤ 1048576) :
    Calls Tryz.prog 161 #[.slice a l.length cap, .int .i64 c0] w fun e w' => (∃ r : Int, e = .returned (.int .i64 r) ∧ (r < 0 ∨ (0 ≤ r ∧ r + (l.length : Int) ≤ c0 ∧ l.length ≤ 1048576 ∧ ∀ v ∈ l, szVr v))) ∧ Below w.heap.size w w' := by
  unfold maxLen at hl
  have HI : Hid _ := hin
  have HS : Hid _ := hs
  clear hin hs
  by_cases hbig : c0 < (l.length : Int)
  · have hneg : c0 - (l.length : Int) < 0 := by omega
    go_enter Tryz.func161, Tryz.ntmps161
    go_wp2_with fail
    go_ret
    exact ⟨⟨-1, rfl, .inl (by omega)⟩, Below.refl _ _⟩
  · have hneg : ¬ c0 - (l.length : Int) < 0 := by omega
    go_enter Tryz.func161, Tryz.ntmps161
    go_wp2_with fail
    go_loopw [1, 5] (fun u i wr => ∃ k : Nat, k ≤ l.length ∧ i = .int .i64 k ∧ ∃ c : Int, u = .int .i64 c ∧ 0 ≤ c ∧ c + (l.length : Int) ≤ c0 ∧ (∀ v ∈ l.take k, szVr v) ∧ Below w.heap.size w wr) (fun _ i _ => l.length - (intOf i).toNat)
    case atStart => exact ⟨0, Nat.zero_le _, rfl, _, rfl, by omega, by omega, (fun v hv => by simp at hv), Below.refl _ _⟩
    case round =>
      obtain ⟨k, hk, rfl, c, rfl, hc0, hc1, hall, hbel⟩ := hrel
      have HA : Hid _ := hall
      clear hall
      by_cases hlt : k < l.length
      · rcases HI.out with h0' | ⟨b, off, rfl, hbl, hcell⟩
        · omega
        · have hlt2 : (k : Int) < (l.length : Int) := by omega
          have x0 := (hbel.cell hbl).trans (hcell k hlt).1
          have x1 := (hbel.cell hbl).trans (hcell k hlt).2.1
          have x2 := (hbel.cell hbl).trans (hcell k hlt).2.2.1
          have x3 := (hbel.cell hbl).trans (hcell k hlt).2.2.2.1
          have x4 := (hbel.cell hbl).trans (hcell k hlt).2.2.2.2
          have hsz := HS.out l[k] (List.getElem_mem _)
          clear hcell
          go_wp2_with fail
          refine (szVersion_any _ _ _ _ _ c _ hsz hc0 (by omega)).mono ?_
          rintro e w1 ⟨⟨r, rfl, hr⟩, hb⟩
          have hb1 := hbel.trans (hb.mono hbel.size)
          clear hb
          rcases hr with hneg2 | ⟨hr0, hr1, hr2⟩
          · go_wp2_with fail
            go_ret
            exact ⟨⟨-1, rfl, .inl (by omega)⟩, hb1⟩
          · have hnn : ¬ r < 0 := by omega
            have HSZ : Hid (szVr l[k]) := hr2
            clear hr2
            go_wp2_with fail
            go_roundw
            case rel => exact ⟨k + 1, by omega, by go_num, r, rfl, by omega, by omega, take_allVr _ l k hlt HA.out HSZ.out, hb1⟩
            case measure => simp [intOf]; omega
      · have hlt2 : ¬ (k : Int) < (l.length : Int) := by omega
        go_wp2_with fail
        go_ret
        exact ⟨⟨c, rfl, .inr ⟨hc0, hc1, by omega, by have := HA.out; rw [List.take_of_length_le (by omega)] at this; exact this⟩⟩, hbel⟩

set_option maxRecDepth 4000 in
set_option maxHeartbeats 1000000 in
theorem szChain_tot (num : Int) (a : Option Addr) (cap : Nat) (l : List Ver) (c0 : Int) (w : World) (hin : InVr w a l) (hm : l.length ≤ maxLen ∧ ∀ v ∈ l, maxVr v) (h0 : 0 ≤ c0) (h1 : c0 ≤ 1048576) :
    Calls Tryz.prog 126 #[.agg #[.int .i64 num, .slice a l.length cap], .int .i64 c0] w fun e w' => (∃ r : Int, e = .returned (.int .i64 r) ∧ (r < 0 ∨ (0 ≤ r ∧ r + (l.length : Int) ≤ c0 ∧ l.length ≤ 1048576 ∧ ∀ v ∈ l, szVr v))) ∧ Below w.heap.size w w' := by
  have hb0 : Below w.heap.size w (w.alloc (.cells #[.int .i64 num, .slice a l.length cap] 185)) := (Below.refl _ _).alloc (Nat.le_refl _) _
  have HC : Hid (Calls _ _ _ _ _) := szVersionS_tot a cap l c0 (w.alloc (.cells #[.int .i64 num, .slice a l.length cap] 185)) (hin.step hb0) hm.1 hm.2 h0 h1
  clear hin hm
  go_enter Tryz.func126, Tryz.ntmps126
  go_wp2_with fail
  refine HC.out.mono ?_
  rintro e w1 ⟨⟨r, rfl, hr⟩, hb⟩
  have hb1 := hb0.trans (hb.mono hb0.size)
  clear hb HC
  rcases hr with hneg | ⟨hr0, hr1, hr2, hr3⟩
  · go_wp2_with fail
    go_ret
    exact ⟨⟨-1, rfl, .inl (by omega)⟩, hb1⟩
  · have hnn : ¬ r < 0 := by omega
    have HS : Hid (l.length ≤ 1048576 ∧ ∀ v ∈ l, szVr v) := ⟨hr2, hr3⟩
    clear hr2 hr3
    go_wp2_with fail
    go_ret
    exact ⟨⟨r, rfl, .inr ⟨hr0, hr1, HS.out⟩⟩, hb1⟩

set_option maxRecDepth 4000 in
set_option maxHeartbeats 1000000 in
theorem szChainS_tot (a : Option Addr) (cap : Nat) (f : List Chn) (c0 : Int) (w : World) (hin : InCh w a f) (hl : f.length ≤ maxLen) (hs : ∀ l ∈ f, maxCh l) (h0 : 0 ≤ c0) (h1 : c0 ≤ 1048576) :
    Calls Tryz.prog 92 #[.slice a f.length cap, .int .i64 c0] w fun e w' => (∃ r : Int, e = .returned (.int .i64 r) ∧ (r < 0 ∨ (0 ≤ r ∧ r + (cntH f : Int) ≤ c0 ∧ f.length ≤ 1048576 ∧ ∀ l ∈ f, szCh l))) ∧ Below w.heap.size w w' := by
  unfold maxLen at hl
  have HI : Hid (InCh _ _ _) := hin
  have HS : Hid _ := hs
  clear hin hs
  by_cases hbig : c0 < (f.length : Int)
  · have hneg : c0 - (f.length : Int) < 0 := by omega
    go_enter Tryz.func92, Tryz.ntmps92
    go_wp2_with fail
    go_ret
    exact ⟨⟨-1, rfl, .inl (by omega)⟩, Below.refl _ _⟩
  · have hneg : ¬ c0 - (f.length : Int) < 0 := by omega
    go_enter Tryz.func92, Tryz.ntmps92
    go_wp2_with fail
    go_loopw [1, 5] (fun u i wr => ∃ k : Nat, k ≤ f.length ∧ i = .int .i64 k ∧ ∃ c : Int, u = .int .i64 c ∧ 0 ≤ c ∧ c + (f.length : Int) + (sumN (fun x => x.vs.length) (f.take k) : Int) ≤ c0 ∧ (∀ v ∈ f.take k, szCh v) ∧ Below w.heap.size w wr) (fun _ i _ => f.length - (intOf i).toNat)
    case atStart => exact ⟨0, Nat.zero_le _, rfl, _, rfl, by omega, by rw [List.take_zero]; simp only [sumN_nil]; omega, (fun v hv => by simp at hv), Below.refl _ _⟩
    case round =>
      obtain ⟨k, hk, rfl, c, rfl, hc0, hc1, hall, hbel⟩ := hrel
      have HA : Hid _ := hall
      clear hall
      by_cases hlt : k < f.length
      · rcases HI.out.step hbel with h0' | ⟨b, off, rfl, hbl, hcell⟩
        · omega
        · have hlt2 : (k : Int) < (f.length : Int) := by omega
          obtain ⟨x0, p, pc, x1, hT⟩ := hcell k hlt
          have HC : Hid (Calls _ _ _ _ _) := szChain_tot f[k].id p pc f[k].vs c wr hT (HS.out f[k] (List.getElem_mem _)) hc0 (by omega)
          clear hcell hT
          go_wp2_with fail
          refine HC.out.mono ?_
          rintro e w1 ⟨⟨r, rfl, hr⟩, hb⟩
          have hb1 := hbel.trans (hb.mono hbel.size)
          clear hb HC
          rcases hr with hneg2 | ⟨hr0, hr1, hr2⟩
          · go_wp2_with fail
            go_ret
            exact ⟨⟨-1, rfl, .inl (by omega)⟩, hb1⟩
          · have hnn : ¬ r < 0 := by omega
            have HSZ : Hid (szCh f[k]) := hr2
            clear hr2
            go_wp2_with fail
            go_roundw
            case rel => exact ⟨k + 1, by omega, by go_num, r, rfl, by omega, by have hsn := sumN_take (fun x => x.vs.length) f k hlt; (try dsimp only at hsn); omega, take_allCh _ f k hlt HA.out HSZ.out, hb1⟩
            case measure => simp [intOf]; omega
      · have hlt2 : ¬ (k : Int) < (f.length : Int) := by omega
        go_wp2_with fail
        go_ret
        exact ⟨⟨c, rfl, .inr ⟨hc0, by rw [List.take_of_length_le (by omega)] at hc1; unfold cntH; omega, by omega, by have := HA.out; rw [List.take_of_length_le (by omega)] at this; exact this⟩⟩, hbel⟩
set_option maxRecDepth 4000 in
set_option maxHeartbeats 1000000 in
theorem szPartS_tot (a : Option Addr) (cap : Nat) (l : List Prt) (c0 : Int) (w : World) (hin : InD w a l) (hl : l.length ≤ maxLen) (hs : ∀ v ∈ l, maxPt v) (h0 : 0 ≤ c0) (h1 : c0 ≤ 1048576) :
    Calls Tryz.prog 162 #[.slice a l.length cap, .int .i64 c0] w fun e w' => (∃ r : Int, e = .returned (.int .i64 r) ∧ (r < 0 ∨ (0 ≤ r ∧ r + (l.length : Int) ≤ c0 ∧ l.length ≤ 1048576 ∧ ∀ v ∈ l, szPt v))) ∧ Below w.heap.size w w' := by
  unfold maxLen at hl
  have HI : Hid _ := hin
  have HS : Hid _ := hs
  clear hin hs
  by_cases hbig : c0 < (l.length : Int)
  · have hneg : c0 - (l.length : Int) < 0 := by omega
    go_enter Tryz.func162, Tryz.ntmps162
    go_wp2_with fail
    go_ret
    exact ⟨⟨-1, rfl, .inl (by omega)⟩, Below.refl _ _⟩
  · have hneg : ¬ c0 - (l.length : Int) < 0 := by omega
    go_enter Tryz.func162, Tryz.ntmps162
    go_wp2_with fail
    go_loopw [1, 5] (fun u i wr => ∃ k : Nat, k ≤ l.length ∧ i = .int .i64 k ∧ ∃ c : Int, u = .int .i64 c ∧ 0 ≤ c ∧ c + (l.length : Int) ≤ c0 ∧ (∀ v ∈ l.take k, szPt v) ∧ Below w.heap.size w wr) (fun _ i _ => l.length - (intOf i).toNat)
    case atStart => exact ⟨0, Nat.zero_le _, rfl, _, rfl, by omega, by omega, (fun v hv => by simp at hv), Below.refl _ _⟩
    case round =>
      obtain ⟨k, hk, rfl, c, rfl, hc0, hc1, hall, hbel⟩ := hrel
      have HA : Hid _ := hall
      clear hall
      by_cases hlt : k < l.length
      · rcases HI.out with h0' | ⟨b, off, rfl, hbl, hcell⟩
        · omega
        · have hlt2 : (k : Int) < (l.length : Int) := by omega
          have x0 := (hbel.cell hbl).trans (hcell k hlt).1
          have x1 := (hbel.cell hbl).trans (hcell k hlt).2
          have hsz := HS.out l[k] (List.getElem_mem _)
          clear hcell
          go_wp2_with fail
          refine (szPart_any _ _ c _ hsz hc0 (by omega)).mono ?_
          rintro e w1 ⟨⟨r, rfl, hr⟩, hb⟩
          have hb1 := hbel.trans (hb.mono hbel.size)
          clear hb
          rcases hr with hneg2 | ⟨hr0, hr1, hr2⟩
          · go_wp2_with fail
            go_ret
            exact ⟨⟨-1, rfl, .inl (by omega)⟩, hb1⟩
          · have hnn : ¬ r < 0 := by omega
            have HSZ : Hid (szPt l[k]) := hr2
            clear hr2
            go_wp2_with fail
            go_roundw
            case rel => exact ⟨k + 1, by omega, by go_num, r, rfl, by omega, by omega, take_allD _ l k hlt HA.out HSZ.out, hb1⟩
            case measure => simp [intOf]; omega
      · have hlt2 : ¬ (k : Int) < (l.length : Int) := by omega
        go_wp2_with fail
        go_ret
        exact ⟨⟨c, rfl, .inr ⟨hc0, hc1, by omega, by have := HA.out; rw [List.take_of_length_le (by omega)] at this; exact this⟩⟩, hbel⟩

set_option maxRecDepth 4000 in
set_option maxHeartbeats 1000000 in
theorem szDef_tot (n : ByteArray) (a : Option Addr) (cap : Nat) (l : List Prt) (c0 : Int) (w : World) (hin : InD w a l) (hm : maxDf ⟨n, l⟩) (h0 : 0 ≤ c0) (h1 : c0 ≤ 1048576) :
    Calls Tryz.prog 127 #[.agg #[.string n, .slice a l.length cap], .int .i64 c0] w fun e w' => (∃ r : Int, e = .returned (.int .i64 r) ∧ (r < 0 ∨ (0 ≤ r ∧ r + (l.length : Int) ≤ c0 ∧ szDf ⟨n, l⟩))) ∧ Below w.heap.size w w' := by
  obtain ⟨hn, hl, hs⟩ := hm
  replace hn : n.size ≤ maxLen := hn
  replace hl : l.length ≤ maxLen := hl
  replace hs : ∀ v ∈ l, maxPt v := hs
  unfold maxLen at hn
  have X0 := BoxD.start w n (.slice a l.length cap) 189
  have hbw0 := X0.bel
  by_cases hbig : c0 < n.size
  · have hneg : c0 - (n.size : Int) < 0 := by omega
    clear hin hs
    go_enter Tryz.func127, Tryz.ntmps127
    go_wp2_with fail
    go_ret
    exact ⟨⟨-1, rfl, .inl (by omega)⟩, hbw0⟩
  · have hneg : ¬ (c0 - (n.size : Int) < 0) := by omega
    have HC : Hid (∀ W : World, Below w.heap.size w W → Calls _ _ _ W _) := fun W hW => szPartS_tot a cap l (c0 - (n.size : Int)) W (hin.step hW) hl hs (by omega) (by omega)
    clear hin hs
    go_enter Tryz.func127, Tryz.ntmps127
    go_wp2_with fail
    refine (HC.out _ X0.bel).mono ?_
    rintro e w1 ⟨⟨r, rfl, hr⟩, hb⟩
    have hbw := (X0.step hb).bel
    clear hb HC
    rcases hr with hneg2 | ⟨hr0, hr1, hr2, hr3⟩
    · go_wp2_with fail
      go_ret
      exact ⟨⟨-1, rfl, .inl (by omega)⟩, hbw⟩
    · have hnn : ¬ r < 0 := by omega
      have HS : Hid (∀ v ∈ l, szPt v) := hr3
      clear hr3
      go_wp2_with fail
      go_ret
      exact ⟨⟨r, rfl, .inr ⟨hr0, by omega, by show n.size ≤ 1048576; omega, hr2, HS.out⟩⟩, hbw⟩
set_option maxRecDepth 4000 in
set_option maxHeartbeats 1000000 in
theorem szDefS_tot (a : Option Addr) (cap : Nat) (f : List Dfn) (c0 : Int) (w : World) (hin : InDf w a f) (hl : f.length ≤ maxLen) (hs : ∀ l ∈ f, maxDf l) (h0 : 0 ≤ c0) (h1 : c0 ≤ 1048576) :
    Calls Tryz.prog 93 #[.slice a f.length cap, .int .i64 c0] w fun e w' => (∃ r : Int, e = .returned (.int .i64 r) ∧ (r < 0 ∨ (0 ≤ r ∧ r + (cntF f : Int) ≤ c0 ∧ f.length ≤ 1048576 ∧ ∀ l ∈ f, szDf l))) ∧ Below w.heap.size w w' := by
  unfold maxLen at hl
  have HI : Hid (InDf _ _ _) := hin
  have HS : Hid _ := hs
  clear hin hs
  by_cases hbig : c0 < (f.length : Int)
  · have hneg : c0 - (f.length : Int) < 0 := by omega
    go_enter Tryz.func93, Tryz.ntmps93
    go_wp2_with fail
    go_ret
    exact ⟨⟨-1, rfl, .inl (by omega)⟩, Below.refl _ _⟩
  · have hneg : ¬ c0 - (f.length : Int) < 0 := by omega
    go_enter Tryz.func93, Tryz.ntmps93
    go_wp2_with fail
    go_loopw [1, 5] (fun u i wr => ∃ k : Nat, k ≤ f.length ∧ i = .int .i64 k ∧ ∃ c : Int, u = .int .i64 c ∧ 0 ≤ c ∧ c + (f.length : Int) + (sumN (fun x => x.ps.length) (f.take k) : Int) ≤ c0 ∧ (∀ v ∈ f.take k, szDf v) ∧ Below w.heap.size w wr) (fun _ i _ => f.length - (intOf i).toNat)
    case atStart => exact ⟨0, Nat.zero_le _, rfl, _, rfl, by omega, by rw [List.take_zero]; simp only [sumN_nil]; omega, (fun v hv => by simp at hv), Below.refl _ _⟩
    case round =>
      obtain ⟨k, hk, rfl, c, rfl, hc0, hc1, hall, hbel⟩ := hrel
      have HA : Hid _ := hall
      clear hall
      by_cases hlt : k < f.length
      · rcases HI.out.step hbel with h0' | ⟨b, off, rfl, hbl, hcell⟩
        · omega
        · have hlt2 : (k : Int) < (f.length : Int) := by omega
          obtain ⟨x0, p, pc, x1, hT⟩ := hcell k hlt
          have HC : Hid (Calls _ _ _ _ _) := szDef_tot f[k].name p pc f[k].ps c wr hT (HS.out f[k] (List.getElem_mem _)) hc0 (by omega)
          clear hcell hT
          go_wp2_with fail
          refine HC.out.mono ?_
          rintro e w1 ⟨⟨r, rfl, hr⟩, hb⟩
          have hb1 := hbel.trans (hb.mono hbel.size)
          clear hb HC
          rcases hr with hneg2 | ⟨hr0, hr1, hr2⟩
          · go_wp2_with fail
            go_ret
            exact ⟨⟨-1, rfl, .inl (by omega)⟩, hb1⟩
          · have hnn : ¬ r < 0 := by omega
            have HSZ : Hid (szDf f[k]) := hr2
            clear hr2
            go_wp2_with fail
            go_roundw
            case rel => exact ⟨k + 1, by omega, by go_num, r, rfl, by omega, by have hsn := sumN_take (fun x => x.ps.length) f k hlt; (try dsimp only at hsn); omega, take_allDf _ f k hlt HA.out HSZ.out, hb1⟩
            case measure => simp [intOf]; omega
      · have hlt2 : ¬ (k : Int) < (f.length : Int) := by omega
        go_wp2_with fail
        go_ret
        exact ⟨⟨c, rfl, .inr ⟨hc0, by rw [List.take_of_length_le (by omega)] at hc1; unfold cntF; omega, by omega, by have := HA.out; rw [List.take_of_length_le (by omega)] at this; exact this⟩⟩, hbel⟩
set_option maxRecDepth 4000 in
set_option maxHeartbeats 1000000 in
theorem szColl_tot (c : Col) (p q : Option Addr) (cp cq : Nat) (c0 : Int) (w : World) (hin : InCol w p q c) (hm : MaxCol c) (h0 : 0 ≤ c0) (h1 : c0 ≤ 1048576) :
    Calls Tryz.prog 60 #[.agg #[.string c.name, .slice p c.chs.length cp, .slice q c.dfs.length cq], .int .i64 c0] w fun e w' => (∃ r : Int, e = .returned (.int .i64 r) ∧ (r < 0 ∨ (0 ≤ r ∧ r + ((cntH c.chs + cntF c.dfs : Nat) : Int) ≤ c0 ∧ SzCol c))) ∧ Below w.heap.size w w' := by
  have X0 := Boxed.start w (.string c.name) (.slice p c.chs.length cp) (.slice q c.dfs.length cq) 104
  have hbw0 := X0.bel
  have hn := hm.name
  unfold maxLen at hn
  by_cases hbig : c0 < (c.name.size : Int)
  · have hneg : c0 - (c.name.size : Int) < 0 := by omega
    clear hin hm
    go_enter Tryz.func60, Tryz.ntmps60
    go_wp2_with fail
    go_ret
    exact ⟨⟨-1, rfl, .inl (by omega)⟩, hbw0⟩
  · have hneg : ¬ (c0 - (c.name.size : Int) < 0) := by omega
    have HC : Hid (∀ W : World, Below w.heap.size w W → Calls _ _ _ W _) := fun W hW => szChainS_tot p cp c.chs (c0 - (c.name.size : Int)) W (hin.ch.step hW) hm.chl hm.chs (by omega) (by omega)
    have HD : Hid (∀ (r : Int) (h0 : 0 ≤ r) (h1 : r ≤ 1048576) (W : World), Below w.heap.size w W → Calls Tryz.prog 93 #[.slice q c.dfs.length cq, .int .i64 r] W fun e w' => (∃ r' : Int, e = .returned (.int .i64 r') ∧ (r' < 0 ∨ (0 ≤ r' ∧ r' + (cntF c.dfs : Int) ≤ r ∧ c.dfs.length ≤ 1048576 ∧ ∀ l ∈ c.dfs, szDf l))) ∧ Below W.heap.size W w') := fun r h0 h1 W hW => szDefS_tot q cq c.dfs r W (hin.df.step hW) hm.dfl hm.dfs h0 h1
    clear hin hm
    go_enter Tryz.func60, Tryz.ntmps60
    go_wp2_with fail
    refine (HC.out _ X0.bel).mono ?_
    rintro e w1 ⟨⟨r, rfl, hr⟩, hb⟩
    have X1 := X0.step hb
    have hbw := X1.bel
    have c2 := X1.c2
    clear hb HC
    rcases hr with hneg2 | ⟨hr0, hr1, hr2, hr3⟩
    · go_wp2_with fail
      go_ret
      exact ⟨⟨-1, rfl, .inl (by omega)⟩, hbw⟩
    · have hnn : ¬ r < 0 := by omega
      have HS : Hid (∀ v ∈ c.chs, szCh v) := hr3
      clear hr3
      go_wp2_with fail
      refine (HD.out r hr0 (by omega) _ X1.bel).mono ?_
      rintro e w2 ⟨⟨r2, rfl, hr⟩, hb⟩
      have hbw2 := (X1.step hb).bel
      clear hb HD
      rcases hr with hneg2 | ⟨ht0, ht1, ht2, ht3⟩
      · go_wp2_with fail
        go_ret
        exact ⟨⟨-1, rfl, .inl (by omega)⟩, hbw2⟩
      · have hnn2 : ¬ r2 < 0 := by omega
        have HS2 : Hid (∀ v ∈ c.dfs, szDf v) := ht3
        clear ht3
        go_wp2_with fail
        go_ret
        exact ⟨⟨r2, rfl, .inr ⟨ht0, by omega, ⟨by omega, hr2, HS.out, ht2, HS2.out⟩⟩⟩, hbw2⟩

set_option maxRecDepth 4000 in
set_option maxHeartbeats 1000000 in
theorem szCollS_tot (a : Option Addr) (cap : Nat) (l : List Col) (c0 : Int) (w : World) (hin : InCs w a l) (hl : l.length ≤ maxLen) (hs : ∀ v ∈ l, maxCs v) (h0 : 0 ≤ c0) (h1 : c0 ≤ 1048576) :
    Calls Tryz.prog 28 #[.slice a l.length cap, .int .i64 c0] w fun e w' => (∃ r : Int, e = .returned (.int .i64 r) ∧ (r < 0 ∨ (0 ≤ r ∧ r + (cntK l : Int) ≤ c0 ∧ l.length ≤ 1048576 ∧ ∀ v ∈ l, szCs v))) ∧ Below w.heap.size w w' := by
  unfold maxLen at hl
  have HI : Hid (InCs _ _ _) := hin
  have HS : Hid (∀ v ∈ l, maxCs v) := hs
  clear hin hs
  by_cases hbig : c0 < (l.length : Int)
  · have hneg : c0 - (l.length : Int) < 0 := by omega
    go_enter Tryz.func28, Tryz.ntmps28
    go_wp2_with fail
    go_ret
    exact ⟨⟨-1, rfl, .inl (by omega)⟩, Below.refl _ _⟩
  · have hneg : ¬ c0 - (l.length : Int) < 0 := by omega
    go_enter Tryz.func28, Tryz.ntmps28
    go_wp2_with fail
    go_loopw [1, 5] (fun u i wr => ∃ k : Nat, k ≤ l.length ∧ i = .int .i64 k ∧ ∃ c : Int, u = .int .i64 c ∧ 0 ≤ c ∧ c + (l.length : Int) + (sumN (fun x => cntH x.chs + cntF x.dfs) (l.take k) : Int) ≤ c0 ∧ (∀ v ∈ l.take k, szCs v) ∧ Below w.heap.size w wr) (fun _ i _ => l.length - (intOf i).toNat)
    case atStart => exact ⟨0, Nat.zero_le _, rfl, _, rfl, by omega, by rw [List.take_zero]; simp only [sumN_nil]; omega, (fun v hv => by simp at hv), Below.refl _ _⟩
    case round =>
      obtain ⟨k, hk, rfl, c, rfl, hc0, hc1, hall, hbel⟩ := hrel
      have HA : Hid (∀ v ∈ l.take k, szCs v) := hall
      clear hall
      by_cases hlt : k < l.length
      · rcases HI.out.step hbel with h0' | ⟨b, off, rfl, hbl, hcell⟩
        · omega
        · have hlt2 : (k : Int) < (l.length : Int) := by omega
          obtain ⟨p, cp, q, cq, ⟨x0, x1, x2⟩, hT, hU⟩ := hcell k hlt
          have HC : Hid (Calls _ _ _ _ _) := szColl_tot l[k] p q cp cq c wr ⟨hT, hU⟩ (HS.out l[k] (List.getElem_mem _)) hc0 (by omega)
          clear hcell hT hU
          go_wp2_with fail
          refine HC.out.mono ?_
          rintro e w1 ⟨⟨r, rfl, hr⟩, hb⟩
          have hb1 := hbel.trans (hb.mono hbel.size)
          clear hb HC
          rcases hr with hneg2 | ⟨hr0, hr1, hr2⟩
          · go_wp2_with fail
            go_ret
            exact ⟨⟨-1, rfl, .inl (by omega)⟩, hb1⟩
          · have hnn : ¬ r < 0 := by omega
            have HSZ : Hid (szCs l[k]) := hr2
            clear hr2
            go_wp2_with fail
            go_roundw
            case rel => exact ⟨k + 1, by omega, by go_num, r, rfl, by omega, by have hsn := sumN_take (fun x => cntH x.chs + cntF x.dfs) l k hlt; (try dsimp only at hsn); omega, take_allCs _ l k hlt HA.out HSZ.out, hb1⟩
            case measure => simp [intOf]; omega
      · have hlt2 : ¬ (k : Int) < (l.length : Int) := by omega
        go_wp2_with fail
        go_ret
        exact ⟨⟨c, rfl, .inr ⟨hc0, by rw [List.take_of_length_le (by omega)] at hc1; unfold cntK; omega, by omega, by have := HA.out; rw [List.take_of_length_le (by omega)] at this; exact this⟩⟩, hbel⟩
set_option maxRecDepth 4000 in
set_option maxHeartbeats 1000000 in
theorem szWriteS_tot (a : Option Addr) (cap : Nat) (l : List Wrt) (c0 : Int) (w : World) (hin : InWs w a l) (hl : l.length ≤ maxLen) (hs : ∀ v ∈ l, maxWs v) (h0 : 0 ≤ c0) (h1 : c0 ≤ 1048576) :
    Calls Tryz.prog 95 #[.slice a l.length cap, .int .i64 c0] w fun e w' => (∃ r : Int, e = .returned (.int .i64 r) ∧ (r < 0 ∨ (0 ≤ r ∧ r + (l.length : Int) ≤ c0 ∧ l.length ≤ 1048576 ∧ ∀ v ∈ l, szWs v))) ∧ Below w.heap.size w w' := by
  unfold maxLen at hl
  have HI : Hid _ := hin
  have HS : Hid _ := hs
  clear hin hs
  by_cases hbig : c0 < (l.length : Int)
  · have hneg : c0 - (l.length : Int) < 0 := by omega
    go_enter Tryz.func95, Tryz.ntmps95
    go_wp2_with fail
    go_ret
    exact ⟨⟨-1, rfl, .inl (by omega)⟩, Below.refl _ _⟩
  · have hneg : ¬ c0 - (l.length : Int) < 0 := by omega
    go_enter Tryz.func95, Tryz.ntmps95
    go_wp2_with fail
    go_loopw [1, 5] (fun u i wr => ∃ k : Nat, k ≤ l.length ∧ i = .int .i64 k ∧ ∃ c : Int, u = .int .i64 c ∧ 0 ≤ c ∧ c + (l.length : Int) ≤ c0 ∧ (∀ v ∈ l.take k, szWs v) ∧ Below w.heap.size w wr) (fun _ i _ => l.length - (intOf i).toNat)
    case atStart => exact ⟨0, Nat.zero_le _, rfl, _, rfl, by omega, by omega, (fun v hv => by simp at hv), Below.refl _ _⟩
    case round =>
      obtain ⟨k, hk, rfl, c, rfl, hc0, hc1, hall, hbel⟩ := hrel
      have HA : Hid _ := hall
      clear hall
      by_cases hlt : k < l.length
      · rcases HI.out with h0' | ⟨b, off, rfl, hbl, hcell⟩
        · omega
        · have hlt2 : (k : Int) < (l.length : Int) := by omega
          have x0 := (hbel.cell hbl).trans (hcell k hlt).1
          have x1 := (hbel.cell hbl).trans (hcell k hlt).2.1
          have x2 := (hbel.cell hbl).trans (hcell k hlt).2.2.1
          have x3 := (hbel.cell hbl).trans (hcell k hlt).2.2.2.1
          have x4 := (hbel.cell hbl).trans (hcell k hlt).2.2.2.2.1
          have x5 := (hbel.cell hbl).trans (hcell k hlt).2.2.2.2.2
          have hsz := HS.out l[k] (List.getElem_mem _)
          clear hcell
          go_wp2_with fail
          refine (szWrite_any l[k] c _ hsz hc0 (by omega)).mono ?_
          rintro e w1 ⟨⟨r, rfl, hr⟩, hb⟩
          have hb1 := hbel.trans (hb.mono hbel.size)
          clear hb
          rcases hr with hneg2 | ⟨hr0, hr1, hr2⟩
          · go_wp2_with fail
            go_ret
            exact ⟨⟨-1, rfl, .inl (by omega)⟩, hb1⟩
          · have hnn : ¬ r < 0 := by omega
            have HSZ : Hid (szWs l[k]) := hr2
            clear hr2
            go_wp2_with fail
            go_roundw
            case rel => exact ⟨k + 1, by omega, by go_num, r, rfl, by omega, by omega, take_allWs _ l k hlt HA.out HSZ.out, hb1⟩
            case measure => simp [intOf]; omega
      · have hlt2 : ¬ (k : Int) < (l.length : Int) := by omega
        go_wp2_with fail
        go_ret
        exact ⟨⟨c, rfl, .inr ⟨hc0, hc1, by omega, by have := HA.out; rw [List.take_of_length_le (by omega)] at this; exact this⟩⟩, hbel⟩

set_option maxRecDepth 4000 in
set_option maxHeartbeats 2000000 in
theorem szTxn_tot (sn sp : Int) (p1 p2 : Option Addr) (c1 c2 : Nat) (rs : List Rdg) (cs : List Wrt) (c0 : Int) (w : World) (h1 : InRd w p1 rs) (h2 : InWs w p2 cs) (hm : MaxTn rs cs) (hc0 : 0 ≤ c0) (hc1 : c0 ≤ 1048576) :
    Calls Tryz.prog 61 #[.agg #[.int .i64 sn, .int .i64 sp, .slice p1 rs.length c1, .slice p2 cs.length c2], .int .i64 c0] w fun e w' => (∃ r : Int, e = .returned (.int .i64 r) ∧ (r < 0 ∨ (0 ≤ r ∧ r + ((cntR rs + cs.length : Nat) : Int) ≤ c0 ∧ SzTn rs cs))) ∧ Below w.heap.size w w' := by
  have X0 := BxTn.start w (.int .i64 sn) (.int .i64 sp) (.slice p1 rs.length c1) (.slice p2 cs.length c2) 109
  have HI2 : Hid (InWs _ _ _) := h2
  have HM : Hid (MaxTn rs cs) := hm
  have HA : Hid (Calls _ _ _ _ _) := szReadS_tot p1 c1 rs c0 _ (h1.step X0.bel) hm.r0 hm.r1 hc0 hc1
  clear h1 h2 hm
  go_enter Tryz.func61, Tryz.ntmps61
  go_wp2_with fail
  refine HA.out.mono ?_
  rintro e w1 ⟨⟨r1, rfl, hr1⟩, hb⟩
  have X1 := X0.step hb
  have k3 := X1.c3
  have B1 := X1.bel
  clear hb X0 HA
  rcases hr1 with hneg | ⟨q0, q1, q2, q3⟩
  · go_wp2_with fail
    go_ret
    exact ⟨⟨-1, rfl, .inl (by omega)⟩, B1⟩
  have hn1 : ¬ r1 < 0 := by omega
  have HP : Hid (∀ v ∈ rs, szRd v) := q3
  clear q3
  go_wp2_with fail
  refine (szWriteS_tot p2 c2 cs r1 _ (HI2.out.step X1.bel) HM.out.s0 HM.out.s1 q0 (by omega)).mono ?_
  rintro e w2 ⟨⟨r2, rfl, hr2⟩, hb⟩
  have B2 := (X1.step hb).bel
  clear hb X1
  rcases hr2 with hneg | ⟨s0, s1, s2, s3⟩
  · go_wp2_with fail
    go_ret
    exact ⟨⟨-1, rfl, .inl (by omega)⟩, B2⟩
  have hn2 : ¬ r2 < 0 := by omega
  have HS : Hid (∀ v ∈ cs, szWs v) := s3
  clear s3
  go_wp2_with fail
  go_ret
  exact ⟨⟨r2, rfl, .inr ⟨by omega, by omega, ⟨q2, HP.out, s2, HS.out⟩⟩⟩, B2⟩

set_option maxRecDepth 4000 in
set_option maxHeartbeats 1000000 in
theorem szTxnS_tot (a : Option Addr) (cap : Nat) (l : List Tn) (c0 : Int) (w : World) (hin : InTn w a l) (hl : l.length ≤ maxLen) (hs : ∀ v ∈ l, maxTn v) (h0 : 0 ≤ c0) (h1 : c0 ≤ 1048576) :
    Calls Tryz.prog 29 #[.slice a l.length cap, .int .i64 c0] w fun e w' => (∃ r : Int, e = .returned (.int .i64 r) ∧ (r < 0 ∨ (0 ≤ r ∧ r + (cntX l : Int) ≤ c0 ∧ l.length ≤ 1048576 ∧ ∀ v ∈ l, szTn v))) ∧ Below w.heap.size w w' := by
  unfold maxLen at hl
  have HI : Hid (InTn _ _ _) := hin
  have HS : Hid (∀ v ∈ l, maxTn v) := hs
  clear hin hs
  by_cases hbig : c0 < (l.length : Int)
  · have hneg : c0 - (l.length : Int) < 0 := by omega
    go_enter Tryz.func29, Tryz.ntmps29
    go_wp2_with fail
    go_ret
    exact ⟨⟨-1, rfl, .inl (by omega)⟩, Below.refl _ _⟩
  · have hneg : ¬ c0 - (l.length : Int) < 0 := by omega
    go_enter Tryz.func29, Tryz.ntmps29
    go_wp2_with fail
    go_loopw [1, 5] (fun u i wr => ∃ k : Nat, k ≤ l.length ∧ i = .int .i64 k ∧ ∃ c : Int, u = .int .i64 c ∧ 0 ≤ c ∧ c + (l.length : Int) + (sumN (fun x => cntR x.rs + x.cs.length) (l.take k) : Int) ≤ c0 ∧ (∀ v ∈ l.take k, szTn v) ∧ Below w.heap.size w wr) (fun _ i _ => l.length - (intOf i).toNat)
    case atStart => exact ⟨0, Nat.zero_le _, rfl, _, rfl, by omega, by rw [List.take_zero]; simp only [sumN_nil]; omega, (fun v hv => by simp at hv), Below.refl _ _⟩
    case round =>
      obtain ⟨k, hk, rfl, c, rfl, hc0, hc1, hall, hbel⟩ := hrel
      have HA : Hid (∀ v ∈ l.take k, szTn v) := hall
      clear hall
      by_cases hlt : k < l.length
      · rcases HI.out.step hbel with h0' | ⟨b, off, rfl, hbl, hcell⟩
        · omega
        · have hlt2 : (k : Int) < (l.length : Int) := by omega
          obtain ⟨p, cp, q, cq, ⟨x0, x1, x2, x3⟩, hT, hU⟩ := hcell k hlt
          have HC : Hid (Calls _ _ _ _ _) := szTxn_tot l[k].sn l[k].sp p q cp cq l[k].rs l[k].cs c wr hT hU (HS.out l[k] (List.getElem_mem _)) hc0 (by omega)
          clear hcell hT hU
          go_wp2_with fail
          refine HC.out.mono ?_
          rintro e w1 ⟨⟨r, rfl, hr⟩, hb⟩
          have hb1 := hbel.trans (hb.mono hbel.size)
          clear hb HC
          rcases hr with hneg2 | ⟨hr0, hr1, hr2⟩
          · go_wp2_with fail
            go_ret
            exact ⟨⟨-1, rfl, .inl (by omega)⟩, hb1⟩
          · have hnn : ¬ r < 0 := by omega
            have HSZ : Hid (szTn l[k]) := hr2
            clear hr2
            go_wp2_with fail
            go_roundw
            case rel => exact ⟨k + 1, by omega, by go_num, r, rfl, by omega, by have hsn := sumN_take (fun x => cntR x.rs + x.cs.length) l k hlt; (try dsimp only at hsn); omega, take_allTn _ l k hlt HA.out HSZ.out, hb1⟩
            case measure => simp [intOf]; omega
      · have hlt2 : ¬ (k : Int) < (l.length : Int) := by omega
        go_wp2_with fail
        go_ret
        exact ⟨⟨c, rfl, .inr ⟨hc0, by rw [List.take_of_length_le (by omega)] at hc1; unfold cntX; omega, by omega, by have := HA.out; rw [List.take_of_length_le (by omega)] at this; exact this⟩⟩, hbel⟩
set_option maxRecDepth 4000 in
set_option maxHeartbeats 2000000 in
theorem szStore_tot (p q r : Option Addr) (cp cq cr : Nat) (s : Sto) (c0 : Int) (w : World) (hin : InSto w p q r s) (hm : MaxSto s) (hc0 : 0 ≤ c0) (hc1 : c0 ≤ 1048576) :
    Calls Tryz.prog 8 #[.agg #[.slice p s.cs.length cp, .slice q s.ts.length cq, .slice r s.ds.length cr, .int .i64 s.clk], .int .i64 c0] w fun e w' => (∃ r : Int, e = .returned (.int .i64 r) ∧ (r < 0 ∨ (0 ≤ r ∧ r + (cntS s : Int) ≤ c0 ∧ SzSto s))) ∧ Below w.heap.size w w' := by
  have X0 := BxTn.start w (.slice p s.cs.length cp) (.slice q s.ts.length cq) (.slice r s.ds.length cr) (.int .i64 s.clk) 26
  have HC : Hid (Calls _ _ _ _ _) := szCollS_tot p cp s.cs c0 _ (hin.c.step X0.bel) hm.c0 hm.c1 hc0 hc1
  have HT : Hid (∀ (L : Int) (W : World), 0 ≤ L → L ≤ 1048576 → Below w.heap.size w W → Calls _ _ _ W _) := fun L W h0 h1 hW => szTxnS_tot q cq s.ts L W (hin.t.step hW) hm.t0 hm.t1 h0 h1
  have HD : Hid (∀ (L : Int) (W : World), 0 ≤ L → L ≤ 1048576 → Below w.heap.size w W → Calls _ _ _ W _) := fun L W h0 h1 hW => szDoneS_tot r cr s.ds L W (hin.d.step hW) hm.d0 hm.d1 h0 h1
  clear hin hm
  go_enter Tryz.func8, Tryz.ntmps8
  go_wp2_with fail
  refine HC.out.mono ?_
  rintro e w1 ⟨⟨r1, rfl, hr1⟩, hb⟩
  have X1 := X0.step hb
  have k1 := X1.c1
  have B1 := X1.bel
  clear hb X0 HC
  rcases hr1 with hneg | ⟨q0, q1, q2, q3⟩
  · go_wp2_with fail
    go_ret
    exact ⟨⟨-1, rfl, .inl (by omega)⟩, B1⟩
  have hn1 : ¬ r1 < 0 := by omega
  have HP : Hid (s.cs.length ≤ 1048576 ∧ ∀ v ∈ s.cs, szCs v) := ⟨q2, q3⟩
  clear q2 q3
  go_wp2_with fail
  refine (HT.out r1 _ q0 (by omega) X1.bel).mono ?_
  rintro e w2 ⟨⟨r2, rfl, hr2⟩, hb⟩
  have X2 := X1.step hb
  have k2 := X2.c2
  have B2 := X2.bel
  clear hb X1 HT k1 B1
  rcases hr2 with hneg | ⟨s0, s1, s2, s3⟩
  · go_wp2_with fail
    go_ret
    exact ⟨⟨-1, rfl, .inl (by omega)⟩, B2⟩
  have hn2 : ¬ r2 < 0 := by omega
  have HP2 : Hid (s.ts.length ≤ 1048576 ∧ ∀ v ∈ s.ts, szTn v) := ⟨s2, s3⟩
  clear s2 s3
  go_wp2_with fail
  refine (HD.out r2 _ s0 (by omega) X2.bel).mono ?_
  rintro e w3 ⟨⟨r3, rfl, hr3⟩, hb⟩
  have B3 := (X2.step hb).bel
  clear hb X2 HD k2 B2
  rcases hr3 with hneg | ⟨u0, u1, u2, u3⟩
  · go_wp2_with fail
    go_ret
    exact ⟨⟨-1, rfl, .inl (by omega)⟩, B3⟩
  have hn3 : ¬ r3 < 0 := by omega
  have HP3 : Hid (s.ds.length ≤ 1048576 ∧ ∀ v ∈ s.ds, szDn v) := ⟨u2, u3⟩
  clear u2 u3
  go_wp2_with fail
  go_ret
  exact ⟨⟨r3, rfl, .inr ⟨by omega, by unfold cntS; omega, ⟨HP.out.1, HP.out.2, HP2.out.1, HP2.out.2, HP3.out.1, HP3.out.2⟩⟩⟩, B3⟩


end Go.Proofs.YtpfbepbmiillbaaGreatDoor.Tx

/- Marks on chains, definitions, committed ones, collections, transactions, whole stores: what the laws' helpers answer, and what they leave. -/
namespace Go.Proofs.YtpfbepbmiillbaaGreatDoor.Tz
open Go.RowKit Go.ChangeShapes Go.WideShapes Go.ChangeAt Go.Joins Tr Co Rea Ce Tx Ty
set_option linter.unusedVariables false

def mkH (f : List Chn) : Nat := sumN (fun x => 1 + 5 * x.vs.length) f
def mkF (f : List Dfn) : Nat := sumN (fun x => 1 + 2 * x.ps.length) f
def mkK (l : List Col) : Nat := sumN (fun x => 1 + mkH x.chs + mkF x.dfs) l
def mkX (l : List Tn) : Nat := sumN (fun x => 2 + mkR x.rs + 6 * x.cs.length) l
theorem mkH_le (f : List Chn) : mkH f ≤ 5 * cntH f := by
  have h1 : sumN (fun x : Chn => 1 + 5 * x.vs.length) f = 1 * f.length + sumN (fun x => 5 * x.vs.length) f := sumN_len 1 _ f
  have h2 : sumN (fun x : Chn => 5 * x.vs.length) f = 5 * sumN (fun x => x.vs.length) f := sumN_mul 5 _ f
  unfold mkH cntH; omega
theorem mkF_le (f : List Dfn) : mkF f ≤ 5 * cntF f := by
  have h1 : sumN (fun x : Dfn => 1 + 2 * x.ps.length) f = 1 * f.length + sumN (fun x => 2 * x.ps.length) f := sumN_len 1 _ f
  have h2 : sumN (fun x : Dfn => 2 * x.ps.length) f = 2 * sumN (fun x => x.ps.length) f := sumN_mul 2 _ f
  unfold mkF cntF; omega
theorem mkK_le (l : List Col) : mkK l ≤ 5 * cntK l := by
  have h : sumN (fun x : Col => 1 + mkH x.chs + mkF x.dfs) l ≤ sumN (fun x => 1 + 5 * (cntH x.chs + cntF x.dfs)) l := sumN_le _ _ l (fun x _ => by have := mkH_le x.chs; have := mkF_le x.dfs; omega)
  have h1 : sumN (fun x : Col => 1 + 5 * (cntH x.chs + cntF x.dfs)) l = 1 * l.length + sumN (fun x => 5 * (cntH x.chs + cntF x.dfs)) l := sumN_len 1 _ l
  have h2 : sumN (fun x : Col => 5 * (cntH x.chs + cntF x.dfs)) l = 5 * sumN (fun x => cntH x.chs + cntF x.dfs) l := sumN_mul 5 _ l
  unfold mkK cntK; omega
theorem mkX_le (l : List Tn) : mkX l ≤ 6 * cntX l := by
  have h : sumN (fun x : Tn => 2 + mkR x.rs + 6 * x.cs.length) l ≤ sumN (fun x => 2 + 6 * (cntR x.rs + x.cs.length)) l := sumN_le _ _ l (fun x _ => by have := mkR_le x.rs; omega)
  have h1 : sumN (fun x : Tn => 2 + 6 * (cntR x.rs + x.cs.length)) l = 2 * l.length + sumN (fun x => 6 * (cntR x.rs + x.cs.length)) l := sumN_len 2 _ l
  have h2 : sumN (fun x : Tn => 6 * (cntR x.rs + x.cs.length)) l = 6 * sumN (fun x => cntR x.rs + x.cs.length) l := sumN_mul 6 _ l
  unfold mkX cntX; omega
set_option maxRecDepth 4000 in
set_option maxHeartbeats 1000000 in
theorem markVersionSo_any (lo hi : Nat) (p : Option Addr) (c n q : Nat) (w : World) (hsh : ShVo w lo hi p n) (h1 : 1 ≤ q) (h2 : q + 5 * n ≤ 17592186044416) (hl : n ≤ 1048576) :
    Calls Tryz.prog 122 #[.slice p n c, .int .i64 q] w fun e w' => e = .returned (.int .i64 ((q + 5 * n : Nat) : Int)) ∧ Mk lo hi w w' := by
  rcases hsh with h0 | ⟨g, rfl, hs⟩
  · subst h0
    go_enter Tryz.func122, Tryz.ntmps122
    go_wp2_with fail
    go_loopw [1, 5] (fun x i wr => x = .int .i64 (q : Int) ∧ i = .int .i64 0 ∧ wr = w) (fun _ _ _ => 0)
    case atStart => exact ⟨rfl, rfl, rfl⟩
    case round =>
      obtain ⟨rfl, rfl, rfl⟩ := hrel
      go_wp2_with fail
      go_ret
      exact ⟨by simp, Mk.refl _ _ _⟩
  · exact markVersionS_any lo hi g c n q w hs h1 h2 hl

set_option maxRecDepth 4000 in
set_option maxHeartbeats 1000000 in
theorem markPartSo_any (lo hi : Nat) (p : Option Addr) (c n q : Nat) (w : World) (hsh : ShPo w lo hi p n) (h1 : 1 ≤ q) (h2 : q + 2 * n ≤ 17592186044416) (hl : n ≤ 1048576) :
    Calls Tryz.prog 123 #[.slice p n c, .int .i64 q] w fun e w' => e = .returned (.int .i64 ((q + 2 * n : Nat) : Int)) ∧ Mk lo hi w w' := by
  rcases hsh with h0 | ⟨g, rfl, hs⟩
  · subst h0
    go_enter Tryz.func123, Tryz.ntmps123
    go_wp2_with fail
    go_loopw [1, 5] (fun x i wr => x = .int .i64 (q : Int) ∧ i = .int .i64 0 ∧ wr = w) (fun _ _ _ => 0)
    case atStart => exact ⟨rfl, rfl, rfl⟩
    case round =>
      obtain ⟨rfl, rfl, rfl⟩ := hrel
      go_wp2_with fail
      go_ret
      exact ⟨by simp, Mk.refl _ _ _⟩
  · exact markPartS_any lo hi g c n q w hs h1 h2 hl

set_option maxRecDepth 4000 in
set_option maxHeartbeats 2000000 in
theorem markChainS_any (lo hi g c : Nat) (l : List Chn) (q : Nat) (w : World) (hsh : ShH w lo hi g l) (h1 : 1 ≤ q) (h2 : q + mkH l ≤ 17592186044416) (hl : l.length ≤ 1048576) (hls : ∀ x ∈ l, x.vs.length ≤ 1048576) :
    Calls Tryz.prog 82 #[.slice (some ⟨g, 0, none⟩) l.length c, .int .i64 q] w fun e w' => e = .returned (.int .i64 ((q + mkH l : Nat) : Int)) ∧ Mk lo hi w w' := by
  have HSH : Hid (ShH w lo hi g l) := hsh
  have HLS : Hid (∀ x ∈ l, x.vs.length ≤ 1048576) := hls
  have HG : Hid (lo ≤ g ∧ g < hi) := ⟨hsh.ge, hsh.lt⟩
  clear hsh hls
  go_enter Tryz.func82, Tryz.ntmps82
  go_wp2_with fail
  go_loopw [1, 5] (fun x i wr => ∃ (k E : Nat), k ≤ l.length ∧ i = .int .i64 k ∧ x = .int .i64 (E : Int) ∧ E = q + sumN (fun x : Chn => 1 + 5 * x.vs.length) (l.take k) ∧ Mk lo hi w wr) (fun _ i _ => l.length - (intOf i).toNat)
  case atStart => exact ⟨0, q, Nat.zero_le _, rfl, rfl, by simp [sumN], Mk.refl _ _ _⟩
  case round =>
    obtain ⟨k, E, hk, rfl, rfl, hE, hM⟩ := hrel
    have hz := hM.chg.size
    by_cases hlt : k < l.length
    · have hlt2 : (k : Int) < (l.length : Int) := by omega
      have hE1 : 1 ≤ E := by omega
      have hs1 := sumN_one (fun x : Chn => 1 + 5 * x.vs.length) l k hlt
      have HS2 : Hid (sumN (fun x : Chn => 1 + 5 * x.vs.length) (l.take (k + 1)) = sumN (fun x : Chn => 1 + 5 * x.vs.length) (l.take k) + (1 + 5 * l[k].vs.length)) := sumN_take (fun x : Chn => 1 + 5 * x.vs.length) l k hlt
      have hEb : E + (1 + 5 * l[k].vs.length) ≤ 17592186044416 := by unfold mkH at h2; omega
      have HEQ : Hid (E = q + sumN (fun x : Chn => 1 + 5 * x.vs.length) (l.take k)) := hE
      clear hs1 hE
      have M0 : MkB lo hi w wr g (l.length * 2) 66 := ⟨hM, (HSH.out.mk' hM).b⟩
      have hglr : g < wr.heap.size := M0.b.lt
      clear hM
      have M1 := M0
      have M2 := MkB.set M1 (o := k * 2) (.int .i64 (E : Int)) HG.out.1 HG.out.2 (by simp [kp] <;> omega)
      obtain ⟨p, cap, x1, hS⟩ := (HSH.out.mk' M2.m).cells k hlt
      have hT := markVersionSo_any lo hi p cap l[k].vs.length (E + 1) _ hS (by omega) (by omega) (HLS.out _ (List.getElem_mem _))
      rw [show ((E + 1 : Nat) : Int) = (E : Int) + 1 by omega] at hT
      have HT : Hid (Calls _ _ _ _ _) := hT
      have HM2 : Hid (Mk lo hi w _) := M2.m
      obtain ⟨z0, y0⟩ := M1.b.there (o := k * 2) (by omega)
      have f0 := M1.b.soft (k * 2)
      have y1 : wr.cell? ⟨g, k * 2 + 1, none⟩ = some (.slice p l[k].vs.length cap) := by
        rw [← x1]
        simp only [World.cell?, World.setCell, Array.getElem?_modify]
        obtain ⟨vs, e1, e2⟩ := M1.b
        simp [e1]
      clear M1 M2 x1 hS hT M0
      go_wp2_with fail
      refine HT.out.mono ?_
      rintro e w3 ⟨rfl, hm2⟩
      have HM3 : Hid (Mk lo hi w w3) := HM2.out.trans hm2
      have hz3 := hm2.chg.size
      clear hm2 HT HM2 y0 y1 f0
      go_wp2_with fail
      go_roundw
      case rel => exact ⟨k + 1, E + (1 + 5 * l[k].vs.length), by omega, by go_num, by go_num, by have a := HEQ.out; have b := HS2.out; omega, HM3.out⟩
      case measure => simp [intOf]; omega
    · obtain rfl : k = l.length := by omega
      rw [List.take_of_length_le (Nat.le_refl _)] at hE
      subst hE
      go_wp2_with fail
      go_ret
      exact ⟨rfl, hM⟩

set_option maxRecDepth 4000 in
set_option maxHeartbeats 2000000 in
theorem markDefS_any (lo hi g c : Nat) (l : List Dfn) (q : Nat) (w : World) (hsh : ShF w lo hi g l) (h1 : 1 ≤ q) (h2 : q + mkF l ≤ 17592186044416) (hl : l.length ≤ 1048576) (hls : ∀ x ∈ l, x.ps.length ≤ 1048576) :
    Calls Tryz.prog 83 #[.slice (some ⟨g, 0, none⟩) l.length c, .int .i64 q] w fun e w' => e = .returned (.int .i64 ((q + mkF l : Nat) : Int)) ∧ Mk lo hi w w' := by
  have HSH : Hid (ShF w lo hi g l) := hsh
  have HLS : Hid (∀ x ∈ l, x.ps.length ≤ 1048576) := hls
  have HG : Hid (lo ≤ g ∧ g < hi) := ⟨hsh.ge, hsh.lt⟩
  clear hsh hls
  go_enter Tryz.func83, Tryz.ntmps83
  go_wp2_with fail
  go_loopw [1, 5] (fun x i wr => ∃ (k E : Nat), k ≤ l.length ∧ i = .int .i64 k ∧ x = .int .i64 (E : Int) ∧ E = q + sumN (fun x : Dfn => 1 + 2 * x.ps.length) (l.take k) ∧ Mk lo hi w wr) (fun _ i _ => l.length - (intOf i).toNat)
  case atStart => exact ⟨0, q, Nat.zero_le _, rfl, rfl, by simp [sumN], Mk.refl _ _ _⟩
  case round =>
    obtain ⟨k, E, hk, rfl, rfl, hE, hM⟩ := hrel
    have hz := hM.chg.size
    by_cases hlt : k < l.length
    · have hlt2 : (k : Int) < (l.length : Int) := by omega
      have hE1 : 1 ≤ E := by omega
      have hs1 := sumN_one (fun x : Dfn => 1 + 2 * x.ps.length) l k hlt
      have HS2 : Hid (sumN (fun x : Dfn => 1 + 2 * x.ps.length) (l.take (k + 1)) = sumN (fun x : Dfn => 1 + 2 * x.ps.length) (l.take k) + (1 + 2 * l[k].ps.length)) := sumN_take (fun x : Dfn => 1 + 2 * x.ps.length) l k hlt
      have hEb : E + (1 + 2 * l[k].ps.length) ≤ 17592186044416 := by unfold mkF at h2; omega
      have HEQ : Hid (E = q + sumN (fun x : Dfn => 1 + 2 * x.ps.length) (l.take k)) := hE
      clear hs1 hE
      have M0 : MkB lo hi w wr g (l.length * 2) 155 := ⟨hM, (HSH.out.mk' hM).b⟩
      have hglr : g < wr.heap.size := M0.b.lt
      clear hM
      go_wp2_with fail
      refine (mText_at E _ (by omega) (by omega) (by omega) _).mono ?_
      rintro e w2 ⟨rfl, hb⟩
      have M1 := M0.next hb
      have hglr2 : g < w2.heap.size := M1.b.lt
      clear hb M0 hglr hz
      have M2 := MkB.set M1 (o := k * 2) (.string (Tr.mt E)) HG.out.1 HG.out.2 (by simp [kp] <;> omega)
      obtain ⟨p, cap, x1, hS⟩ := (HSH.out.mk' M2.m).cells k hlt
      have hT := markPartSo_any lo hi p cap l[k].ps.length (E + 1) _ hS (by omega) (by omega) (HLS.out _ (List.getElem_mem _))
      rw [show ((E + 1 : Nat) : Int) = (E : Int) + 1 by omega] at hT
      have HT : Hid (Calls _ _ _ _ _) := hT
      have HM2 : Hid (Mk lo hi w _) := M2.m
      obtain ⟨z0, y0⟩ := M1.b.there (o := k * 2) (by omega)
      have f0 := M1.b.soft (k * 2)
      have y1 : w2.cell? ⟨g, k * 2 + 1, none⟩ = some (.slice p l[k].ps.length cap) := by
        rw [← x1]
        simp only [World.cell?, World.setCell, Array.getElem?_modify]
        obtain ⟨vs, e1, e2⟩ := M1.b
        simp [e1]
      clear M1 M2 x1 hS hT
      go_wp2_with fail
      refine HT.out.mono ?_
      rintro e w3 ⟨rfl, hm2⟩
      have HM3 : Hid (Mk lo hi w w3) := HM2.out.trans hm2
      have hz3 := hm2.chg.size
      clear hm2 HT HM2 y0 y1 f0
      go_wp2_with fail
      go_roundw
      case rel => exact ⟨k + 1, E + (1 + 2 * l[k].ps.length), by omega, by go_num, by go_num, by have a := HEQ.out; have b := HS2.out; omega, HM3.out⟩
      case measure => simp [intOf]; omega
    · obtain rfl : k = l.length := by omega
      rw [List.take_of_length_le (Nat.le_refl _)] at hE
      subst hE
      go_wp2_with fail
      go_ret
      exact ⟨rfl, hM⟩

set_option maxRecDepth 4000 in
set_option maxHeartbeats 2000000 in
theorem markDoneS_any (lo hi g c : Nat) (l : List Dn) (q : Nat) (w : World) (hsh : ShD w lo hi g l) (h1 : 1 ≤ q) (h2 : q + mkD l ≤ 17592186044416) (hl : l.length ≤ 1048576) (hls : ∀ d ∈ l, d.rs.length ≤ 1048576 ∧ d.cs.length ≤ 1048576 ∧ ∀ x ∈ d.rs, x.f.length ≤ 1048576 ∧ ∀ y ∈ x.f, y.length ≤ 1048576) :
    Calls Tryz.prog 50 #[.slice (some ⟨g, 0, none⟩) l.length c, .int .i64 q] w fun e w' => e = .returned (.int .i64 ((q + mkD l : Nat) : Int)) ∧ Mk lo hi w w' := by
  have HSH : Hid (ShD w lo hi g l) := hsh
  have HLS : Hid (∀ d ∈ l, d.rs.length ≤ 1048576 ∧ d.cs.length ≤ 1048576 ∧ ∀ x ∈ d.rs, x.f.length ≤ 1048576 ∧ ∀ y ∈ x.f, y.length ≤ 1048576) := hls
  have HG : Hid (lo ≤ g ∧ g < hi) := ⟨hsh.ge, hsh.lt⟩
  clear hsh hls
  go_enter Tryz.func50, Tryz.ntmps50
  go_wp2_with fail
  go_loopw [1, 5] (fun x i wr => ∃ (k E : Nat), k ≤ l.length ∧ i = .int .i64 k ∧ x = .int .i64 (E : Int) ∧ E = q + sumN (fun x : Dn => 4 + mkR x.rs + 10 * x.cs.length) (l.take k) ∧ Mk lo hi w wr) (fun _ i _ => l.length - (intOf i).toNat)
  case atStart => exact ⟨0, q, Nat.zero_le _, rfl, rfl, by simp [sumN], Mk.refl _ _ _⟩
  case round =>
    obtain ⟨k, E, hk, rfl, rfl, hE, hM⟩ := hrel
    have hz := hM.chg.size
    by_cases hlt : k < l.length
    · have hlt2 : (k : Int) < (l.length : Int) := by omega
      have hE1 : 1 ≤ E := by omega
      have hs1 := sumN_one (fun x : Dn => 4 + mkR x.rs + 10 * x.cs.length) l k hlt
      have HS2 : Hid (sumN (fun x : Dn => 4 + mkR x.rs + 10 * x.cs.length) (l.take (k + 1)) = sumN (fun x : Dn => 4 + mkR x.rs + 10 * x.cs.length) (l.take k) + (4 + mkR l[k].rs + 10 * l[k].cs.length)) := sumN_take (fun x : Dn => 4 + mkR x.rs + 10 * x.cs.length) l k hlt
      have hEb : E + (4 + mkR l[k].rs + 10 * l[k].cs.length) ≤ 17592186044416 := by unfold mkD at h2; omega
      have HEQ : Hid (E = q + sumN (fun x : Dn => 4 + mkR x.rs + 10 * x.cs.length) (l.take k)) := hE
      clear hs1 hE
      have M0 : MkB lo hi w wr g (l.length * 6) 81 := ⟨hM, (HSH.out.mk' hM).b⟩
      have hglr : g < wr.heap.size := M0.b.lt
      have hls := HLS.out l[k] (List.getElem_mem _)
      clear hM
      have M1 := (MkB.set (MkB.set M0 (o := k * 6) (.int .i64 ((E : Int))) HG.out.1 HG.out.2 (by simp [kp] <;> omega)) (o := k * 6 + 1) (.int .i64 ((E : Int) + 1)) HG.out.1 HG.out.2 (by simp [kp] <;> omega))
      obtain ⟨gr, gc, x2, x3, hR, hC⟩ := (HSH.out.mk' M1.m).cells k hlt
      have hT := markReadS_any lo hi gr l[k].rs.length l[k].rs (E + 2) _ hR (by omega) (by omega) hls.1 hls.2.2
      rw [show ((E + 2 : Nat) : Int) = (E : Int) + 1 + 1 by omega] at hT
      have HT : Hid (Calls _ _ _ _ _) := hT
      have HM1 : Hid (MkB lo hi w _ g (l.length * 6) 81) := M1
      obtain ⟨z0, y0⟩ := M0.b.there (o := k * 6) (by omega)
      have f0 := M0.b.soft (k * 6)
      obtain ⟨z1, y1⟩ := M0.b.there (o := k * 6 + 1) (by omega)
      have f1 := M0.b.soft (k * 6 + 1)
      have y2 : wr.cell? ⟨g, k * 6 + 2, none⟩ = some (.slice (some ⟨gr, 0, none⟩) l[k].rs.length l[k].rs.length) := by
        rw [← x2]
        simp only [World.cell?, World.setCell, Array.getElem?_modify]
        obtain ⟨vs, e1, e2⟩ := M0.b
        simp [e1]
      have y3 : wr.cell? ⟨g, k * 6 + 3, none⟩ = some (.slice (some ⟨gc, 0, none⟩) l[k].cs.length l[k].cs.length) := by
        rw [← x3]
        simp only [World.cell?, World.setCell, Array.getElem?_modify]
        obtain ⟨vs, e1, e2⟩ := M0.b
        simp [e1]
      have HX3 : Hid (_ = _) := x3
      have HC : Hid (ShG _ lo hi gc l[k].cs.length) := hC
      clear M0 M1 x2 x3 hR hC hT
      go_wp2_with fail
      refine HT.out.mono ?_
      rintro e w2 ⟨rfl, hm2⟩
      have M2 := HM1.out.more hm2
      obtain ⟨F, hF⟩ : ∃ F, F = E + 2 + mkR l[k].rs := ⟨_, rfl⟩
      rw [← hF]
      have hT := markChangeS_any lo hi gc l[k].cs.length l[k].cs.length F w2 (HC.out.mk' hm2) (by omega) (by omega) hls.2.1
      have y3' := ((hm2.cellK HM1.out.b (k * 6 + 3) (by simp [kp] <;> omega))).trans HX3.out
      have hFb : F + 10 * l[k].cs.length + 2 ≤ 17592186044416 := by omega
      have HF : Hid (F = E + 2 + mkR l[k].rs) := hF
      have HT2 : Hid (Calls _ _ _ _ _) := hT
      have HM2 : Hid (MkB lo hi w w2 g (l.length * 6) 81) := M2
      have hglr2 : g < w2.heap.size := M2.b.lt
      have hz2 : w.heap.size ≤ w2.heap.size := M2.m.chg.size
      clear hm2 HT HM1 HX3 HC M2 hT hF y0 y1 y2 y3 f0 f1 hz hglr
      go_wp2_with fail
      refine HT2.out.mono ?_
      rintro e w3 ⟨rfl, hm3⟩
      have M3 := HM2.out.more hm3
      obtain ⟨G, hG⟩ : ∃ G, G = F + 10 * l[k].cs.length := ⟨_, rfl⟩
      rw [← hG]
      have hGb : G + 2 ≤ 17592186044416 := by omega
      have hglr3 : g < w3.heap.size := M3.b.lt
      have hz3 : w.heap.size ≤ w3.heap.size := M3.m.chg.size
      obtain ⟨B4, hB4⟩ : ∃ B4 : Bool, B4 = boolK ((G : Int)) := ⟨_, rfl⟩
      have kB4 : (((G : Int)) % 3 == 0) = B4 := by rw [hB4]; rfl
      have tB4 : Int.tmod ((G : Int)) 3 = ((G : Int)) % 3 := Int.tmod_eq_emod_of_nonneg (by omega)
      clear hB4
      obtain ⟨B5, hB5⟩ : ∃ B5 : Bool, B5 = boolK ((G : Int) + 1) := ⟨_, rfl⟩
      have kB5 : (((G : Int) + 1) % 3 == 0) = B5 := by rw [hB5]; rfl
      have tB5 : Int.tmod ((G : Int) + 1) 3 = ((G : Int) + 1) % 3 := Int.tmod_eq_emod_of_nonneg (by omega)
      clear hB5
      obtain ⟨z4, y4⟩ := M3.b.there (o := k * 6 + 4) (by omega)
      have f4 := M3.b.soft (k * 6 + 4)
      obtain ⟨z5, y5⟩ := M3.b.there (o := k * 6 + 5) (by omega)
      have f5 := M3.b.soft (k * 6 + 5)
      have HM4 : Hid (MkB lo hi w _ g (l.length * 6) 81) := (MkB.set (MkB.set M3 (o := k * 6 + 4) (.bool B4) HG.out.1 HG.out.2 (by simp [kp] <;> omega)) (o := k * 6 + 5) (.bool B5) HG.out.1 HG.out.2 (by simp [kp] <;> omega))
      have HQ : Hid (F = E + 2 + mkR l[k].rs ∧ G = F + 10 * l[k].cs.length) := ⟨HF.out, hG⟩
      clear hm3 HT2 HM2 M3 y3' HF hG hz2 hglr2 hls
      go_wp2_with fail
      go_roundw
      case rel => exact ⟨k + 1, E + (4 + mkR l[k].rs + 10 * l[k].cs.length), by omega, by go_num, by have a := HQ.out; go_num, by have a := HEQ.out; have b := HS2.out; omega, HM4.out.m⟩
      case measure => simp [intOf]; omega
    · obtain rfl : k = l.length := by omega
      rw [List.take_of_length_le (Nat.le_refl _)] at hE
      subst hE
      go_wp2_with fail
      go_ret
      exact ⟨rfl, hM⟩

set_option maxRecDepth 4000 in
set_option maxHeartbeats 2000000 in
theorem markCollS_any (lo hi g c : Nat) (l : List Col) (q : Nat) (w : World) (hsh : ShK w lo hi g l) (h1 : 1 ≤ q) (h2 : q + mkK l ≤ 17592186044416) (hl : l.length ≤ 1048576) (hls : ∀ d ∈ l, d.chs.length ≤ 1048576 ∧ (∀ x ∈ d.chs, x.vs.length ≤ 1048576) ∧ d.dfs.length ≤ 1048576 ∧ ∀ x ∈ d.dfs, x.ps.length ≤ 1048576) :
    Calls Tryz.prog 48 #[.slice (some ⟨g, 0, none⟩) l.length c, .int .i64 q] w fun e w' => e = .returned (.int .i64 ((q + mkK l : Nat) : Int)) ∧ Mk lo hi w w' := by
  have HSH : Hid (ShK w lo hi g l) := hsh
  have HLS : Hid (∀ d ∈ l, d.chs.length ≤ 1048576 ∧ (∀ x ∈ d.chs, x.vs.length ≤ 1048576) ∧ d.dfs.length ≤ 1048576 ∧ ∀ x ∈ d.dfs, x.ps.length ≤ 1048576) := hls
  have HG : Hid (lo ≤ g ∧ g < hi) := ⟨hsh.ge, hsh.lt⟩
  clear hsh hls
  go_enter Tryz.func48, Tryz.ntmps48
  go_wp2_with fail
  go_loopw [1, 5] (fun x i wr => ∃ (k E : Nat), k ≤ l.length ∧ i = .int .i64 k ∧ x = .int .i64 (E : Int) ∧ E = q + sumN (fun x : Col => 1 + mkH x.chs + mkF x.dfs) (l.take k) ∧ Mk lo hi w wr) (fun _ i _ => l.length - (intOf i).toNat)
  case atStart => exact ⟨0, q, Nat.zero_le _, rfl, rfl, by simp [sumN], Mk.refl _ _ _⟩
  case round =>
    obtain ⟨k, E, hk, rfl, rfl, hE, hM⟩ := hrel
    have hz := hM.chg.size
    by_cases hlt : k < l.length
    · have hlt2 : (k : Int) < (l.length : Int) := by omega
      have hE1 : 1 ≤ E := by omega
      have hs1 := sumN_one (fun x : Col => 1 + mkH x.chs + mkF x.dfs) l k hlt
      have HS2 : Hid (sumN (fun x : Col => 1 + mkH x.chs + mkF x.dfs) (l.take (k + 1)) = sumN (fun x : Col => 1 + mkH x.chs + mkF x.dfs) (l.take k) + (1 + mkH l[k].chs + mkF l[k].dfs)) := sumN_take (fun x : Col => 1 + mkH x.chs + mkF x.dfs) l k hlt
      have hEb : E + (1 + mkH l[k].chs + mkF l[k].dfs) ≤ 17592186044416 := by unfold mkK at h2; omega
      have HEQ : Hid (E = q + sumN (fun x : Col => 1 + mkH x.chs + mkF x.dfs) (l.take k)) := hE
      clear hs1 hE
      have hls := HLS.out l[k] (List.getElem_mem _)
      have M0 : MkB lo hi w wr g (l.length * 3) 63 := ⟨hM, (HSH.out.mk' hM).b⟩
      have hglr : g < wr.heap.size := M0.b.lt
      clear hM
      go_wp2_with fail
      refine (mText_at E _ (by omega) (by omega) (by omega) _).mono ?_
      rintro e wt ⟨rfl, hb⟩
      have MT := M0.next hb
      have hglrT : g < wt.heap.size := MT.b.lt
      have hzT : w.heap.size ≤ wt.heap.size := MT.m.chg.size
      clear hb M0 hglr hz
      have M1 := (MkB.set MT (o := k * 3) (.string (Tr.mt E)) HG.out.1 HG.out.2 (by simp [kp] <;> omega))
      obtain ⟨gr, gc, x2, x3, hR, hC⟩ := (HSH.out.mk' M1.m).cells k hlt
      have hT := markChainS_any lo hi gr l[k].chs.length l[k].chs (E + 1) _ hR (by omega) (by omega) hls.1 hls.2.1
      rw [show ((E + 1 : Nat) : Int) = (E : Int) + 1 by omega] at hT
      have HT : Hid (Calls _ _ _ _ _) := hT
      have HM1 : Hid (MkB lo hi w _ g (l.length * 3) 63) := M1
      obtain ⟨z0, y0⟩ := MT.b.there (o := k * 3) (by omega)
      have f0 := MT.b.soft (k * 3)
      have y1' : wt.cell? ⟨g, k * 3 + 1, none⟩ = some (.slice (some ⟨gr, 0, none⟩) l[k].chs.length l[k].chs.length) := by
        rw [← x2]
        simp only [World.cell?, World.setCell, Array.getElem?_modify]
        obtain ⟨vs, e1, e2⟩ := MT.b
        simp [e1]
      have y2' : wt.cell? ⟨g, k * 3 + 2, none⟩ = some (.slice (some ⟨gc, 0, none⟩) l[k].dfs.length l[k].dfs.length) := by
        rw [← x3]
        simp only [World.cell?, World.setCell, Array.getElem?_modify]
        obtain ⟨vs, e1, e2⟩ := MT.b
        simp [e1]
      have HX3 : Hid (_ = _) := x3
      have HC : Hid (ShF _ lo hi gc l[k].dfs) := hC
      clear MT M1 x2 x3 hR hC hT
      go_wp2_with fail
      refine HT.out.mono ?_
      rintro e w2 ⟨rfl, hm2⟩
      have M2 := HM1.out.more hm2
      obtain ⟨F, hF⟩ : ∃ F, F = E + 1 + mkH l[k].chs := ⟨_, rfl⟩
      rw [← hF]
      have hT := markDefS_any lo hi gc l[k].dfs.length l[k].dfs F w2 (HC.out.mk' hm2) (by omega) (by omega) hls.2.2.1 hls.2.2.2
      have yb' := (hm2.cellK HM1.out.b (k * 3 + 2) (by simp [kp] <;> omega)).trans HX3.out
      have hFb : F + mkF l[k].dfs ≤ 17592186044416 := by omega
      have HF : Hid (F = E + 1 + mkH l[k].chs) := hF
      have HT2 : Hid (Calls _ _ _ _ _) := hT
      have HM2 : Hid (MkB lo hi w w2 g (l.length * 3) 63) := M2
      have hglr2 : g < w2.heap.size := M2.b.lt
      have hz2 : w.heap.size ≤ w2.heap.size := M2.m.chg.size
      clear hm2 HT HM1 HX3 HC M2 hT hF y0 f0 y1' y2' hzT hglrT
      go_wp2_with fail
      refine HT2.out.mono ?_
      rintro e w3 ⟨rfl, hm3⟩
      have HM3 : Hid (Mk lo hi w w3) := (HM2.out.more hm3).m
      have hz3 : w.heap.size ≤ w3.heap.size := HM3.out.chg.size
      clear hm3 HT2 HM2 yb' hz2 hglr2 hls
      go_wp2_with fail
      go_roundw
      case rel => exact ⟨k + 1, E + (1 + mkH l[k].chs + mkF l[k].dfs), by omega, by go_num, by have a := HF.out; go_num, by have a := HEQ.out; have b := HS2.out; omega, HM3.out⟩
      case measure => simp [intOf]; omega
    · obtain rfl : k = l.length := by omega
      rw [List.take_of_length_le (Nat.le_refl _)] at hE
      subst hE
      go_wp2_with fail
      go_ret
      exact ⟨rfl, hM⟩

set_option maxRecDepth 4000 in
set_option maxHeartbeats 2000000 in
theorem markTxnS_any (lo hi g c : Nat) (l : List Tn) (q : Nat) (w : World) (hsh : ShX w lo hi g l) (h1 : 1 ≤ q) (h2 : q + mkX l ≤ 17592186044416) (hl : l.length ≤ 1048576) (hls : ∀ d ∈ l, d.rs.length ≤ 1048576 ∧ d.cs.length ≤ 1048576 ∧ ∀ x ∈ d.rs, x.f.length ≤ 1048576 ∧ ∀ y ∈ x.f, y.length ≤ 1048576) :
    Calls Tryz.prog 49 #[.slice (some ⟨g, 0, none⟩) l.length c, .int .i64 q] w fun e w' => e = .returned (.int .i64 ((q + mkX l : Nat) : Int)) ∧ Mk lo hi w w' := by
  have HSH : Hid (ShX w lo hi g l) := hsh
  have HLS : Hid (∀ d ∈ l, d.rs.length ≤ 1048576 ∧ d.cs.length ≤ 1048576 ∧ ∀ x ∈ d.rs, x.f.length ≤ 1048576 ∧ ∀ y ∈ x.f, y.length ≤ 1048576) := hls
  have HG : Hid (lo ≤ g ∧ g < hi) := ⟨hsh.ge, hsh.lt⟩
  clear hsh hls
  go_enter Tryz.func49, Tryz.ntmps49
  go_wp2_with fail
  go_loopw [1, 5] (fun x i wr => ∃ (k E : Nat), k ≤ l.length ∧ i = .int .i64 k ∧ x = .int .i64 (E : Int) ∧ E = q + sumN (fun x : Tn => 2 + mkR x.rs + 6 * x.cs.length) (l.take k) ∧ Mk lo hi w wr) (fun _ i _ => l.length - (intOf i).toNat)
  case atStart => exact ⟨0, q, Nat.zero_le _, rfl, rfl, by simp [sumN], Mk.refl _ _ _⟩
  case round =>
    obtain ⟨k, E, hk, rfl, rfl, hE, hM⟩ := hrel
    have hz := hM.chg.size
    by_cases hlt : k < l.length
    · have hlt2 : (k : Int) < (l.length : Int) := by omega
      have hE1 : 1 ≤ E := by omega
      have hs1 := sumN_one (fun x : Tn => 2 + mkR x.rs + 6 * x.cs.length) l k hlt
      have HS2 : Hid (sumN (fun x : Tn => 2 + mkR x.rs + 6 * x.cs.length) (l.take (k + 1)) = sumN (fun x : Tn => 2 + mkR x.rs + 6 * x.cs.length) (l.take k) + (2 + mkR l[k].rs + 6 * l[k].cs.length)) := sumN_take (fun x : Tn => 2 + mkR x.rs + 6 * x.cs.length) l k hlt
      have hEb : E + (2 + mkR l[k].rs + 6 * l[k].cs.length) ≤ 17592186044416 := by unfold mkX at h2; omega
      have HEQ : Hid (E = q + sumN (fun x : Tn => 2 + mkR x.rs + 6 * x.cs.length) (l.take k)) := hE
      clear hs1 hE
      have hls := HLS.out l[k] (List.getElem_mem _)
      have M0 : MkB lo hi w wr g (l.length * 4) 75 := ⟨hM, (HSH.out.mk' hM).b⟩
      have hglr : g < wr.heap.size := M0.b.lt
      clear hM
      have M1 := (MkB.set (MkB.set M0 (o := k * 4) (.int .i64 ((E : Int))) HG.out.1 HG.out.2 (by simp [kp] <;> omega)) (o := k * 4 + 1) (.int .i64 ((E : Int) + 1)) HG.out.1 HG.out.2 (by simp [kp] <;> omega))
      obtain ⟨gr, gc, x2, x3, hR, hC⟩ := (HSH.out.mk' M1.m).cells k hlt
      have hT := markReadS_any lo hi gr l[k].rs.length l[k].rs (E + 2) _ hR (by omega) (by omega) hls.1 hls.2.2
      rw [show ((E + 2 : Nat) : Int) = (E : Int) + 1 + 1 by omega] at hT
      have HT : Hid (Calls _ _ _ _ _) := hT
      have HM1 : Hid (MkB lo hi w _ g (l.length * 4) 75) := M1
      obtain ⟨z0, y0⟩ := M0.b.there (o := k * 4) (by omega)
      have f0 := M0.b.soft (k * 4)
      obtain ⟨z1, y1⟩ := M0.b.there (o := k * 4 + 1) (by omega)
      have f1 := M0.b.soft (k * 4 + 1)
      have y2' : wr.cell? ⟨g, k * 4 + 2, none⟩ = some (.slice (some ⟨gr, 0, none⟩) l[k].rs.length l[k].rs.length) := by
        rw [← x2]
        simp only [World.cell?, World.setCell, Array.getElem?_modify]
        obtain ⟨vs, e1, e2⟩ := M0.b
        simp [e1]
      have y3' : wr.cell? ⟨g, k * 4 + 3, none⟩ = some (.slice (some ⟨gc, 0, none⟩) l[k].cs.length l[k].cs.length) := by
        rw [← x3]
        simp only [World.cell?, World.setCell, Array.getElem?_modify]
        obtain ⟨vs, e1, e2⟩ := M0.b
        simp [e1]
      have HX3 : Hid (_ = _) := x3
      have HC : Hid (ShW _ lo hi gc l[k].cs.length) := hC
      clear M0 M1 x2 x3 hR hC hT
      go_wp2_with fail
      refine HT.out.mono ?_
      rintro e w2 ⟨rfl, hm2⟩
      have M2 := HM1.out.more hm2
      obtain ⟨F, hF⟩ : ∃ F, F = E + 2 + mkR l[k].rs := ⟨_, rfl⟩
      rw [← hF]
      have hT := markWriteS_any lo hi gc l[k].cs.length l[k].cs.length F w2 (HC.out.mk' hm2) (by omega) (by omega) hls.2.1
      have yb' := (hm2.cellK HM1.out.b (k * 4 + 3) (by simp [kp] <;> omega)).trans HX3.out
      have hFb : F + 6 * l[k].cs.length ≤ 17592186044416 := by omega
      have HF : Hid (F = E + 2 + mkR l[k].rs) := hF
      have HT2 : Hid (Calls _ _ _ _ _) := hT
      have HM2 : Hid (MkB lo hi w w2 g (l.length * 4) 75) := M2
      have hglr2 : g < w2.heap.size := M2.b.lt
      have hz2 : w.heap.size ≤ w2.heap.size := M2.m.chg.size
      clear hm2 HT HM1 HX3 HC M2 hT hF y0 f0 y1 f1 y2' y3' hz hglr
      go_wp2_with fail
      refine HT2.out.mono ?_
      rintro e w3 ⟨rfl, hm3⟩
      have HM3 : Hid (Mk lo hi w w3) := (HM2.out.more hm3).m
      have hz3 : w.heap.size ≤ w3.heap.size := HM3.out.chg.size
      clear hm3 HT2 HM2 yb' hz2 hglr2 hls
      go_wp2_with fail
      go_roundw
      case rel => exact ⟨k + 1, E + (2 + mkR l[k].rs + 6 * l[k].cs.length), by omega, by go_num, by have a := HF.out; go_num, by have a := HEQ.out; have b := HS2.out; omega, HM3.out⟩
      case measure => simp [intOf]; omega
    · obtain rfl : k = l.length := by omega
      rw [List.take_of_length_le (Nat.le_refl _)] at hE
      subst hE
      go_wp2_with fail
      go_ret
      exact ⟨rfl, hM⟩

end Go.Proofs.YtpfbepbmiillbaaGreatDoor.Tz

/- Marks on a whole store, and what the law on open sessions leans on. -/
namespace Go.Proofs.YtpfbepbmiillbaaGreatDoor.Tz
open Go.RowKit Go.ChangeShapes Go.WideShapes Go.ChangeAt Go.Joins Tr Co Rea Ce Tx Ty
set_option linter.unusedVariables false

def mkS (s : Sto) : Nat := mkK s.cs + mkX s.ts + mkD s.ds
theorem mkS_le (s : Sto) (r : Int) (h0 : 0 ≤ r) (h1 : r + (cntS s : Int) ≤ 1048576) : mkS s ≤ 10485760 := by
  have a := mkK_le s.cs
  have b := mkX_le s.ts
  have c := mkD_le s.ds
  unfold mkS
  unfold cntS at h1
  omega
structure SmS (s : Sto) : Prop where
  c0 : s.cs.length ≤ 1048576
  c1 : ∀ d ∈ s.cs, d.chs.length ≤ 1048576 ∧ (∀ x ∈ d.chs, x.vs.length ≤ 1048576) ∧ d.dfs.length ≤ 1048576 ∧ ∀ x ∈ d.dfs, x.ps.length ≤ 1048576
  t0 : s.ts.length ≤ 1048576
  t1 : ∀ d ∈ s.ts, d.rs.length ≤ 1048576 ∧ d.cs.length ≤ 1048576 ∧ ∀ x ∈ d.rs, x.f.length ≤ 1048576 ∧ ∀ y ∈ x.f, y.length ≤ 1048576
  d0 : s.ds.length ≤ 1048576
  d1 : ∀ d ∈ s.ds, d.rs.length ≤ 1048576 ∧ d.cs.length ≤ 1048576 ∧ ∀ x ∈ d.rs, x.f.length ≤ 1048576 ∧ ∀ y ∈ x.f, y.length ≤ 1048576
theorem SmS.of {s : Sto} (h : SzSto s) : SmS s :=
  ⟨h.c0, fun d hd => ⟨(h.c1 d hd).chl, (h.c1 d hd).vs, (h.c1 d hd).dfl, fun x hx => ((h.c1 d hd).dfs x hx).2.1⟩, h.t0, fun d hd => ⟨(h.t1 d hd).r0, (h.t1 d hd).s0, fun x hx => ⟨((h.t1 d hd).r1 x hx).f0, ((h.t1 d hd).r1 x hx).len⟩⟩, h.d0, fun d hd => ⟨(h.d1 d hd).r0, (h.d1 d hd).s0, fun x hx => ⟨((h.d1 d hd).r1 x hx).f0, ((h.d1 d hd).r1 x hx).len⟩⟩⟩
set_option maxRecDepth 4000 in
set_option maxHeartbeats 4000000 in
theorem markStore_any (lo hi ga gb gd ca cb cd q : Nat) (s : Sto) (w : World) (hk : ShK w lo hi ga s.cs) (hx : ShX w lo hi gb s.ts) (hd : ShD w lo hi gd s.ds) (hhi : hi ≤ w.heap.size) (h1 : 1 ≤ q) (h2 : q + mkS s ≤ 17592186044416) (hz : SmS s) :
    Calls Tryz.prog 18 #[.agg #[.slice (some ⟨ga, 0, none⟩) s.cs.length ca, .slice (some ⟨gb, 0, none⟩) s.ts.length cb, .slice (some ⟨gd, 0, none⟩) s.ds.length cd, .int .i64 s.clk], .int .i64 q] w fun e w' => e = .returned (.int .i64 ((q + mkS s : Nat) : Int)) ∧ Mk lo hi w w' := by
  have X0 := BxTn.start w (.slice (some ⟨ga, 0, none⟩) s.cs.length ca) (.slice (some ⟨gb, 0, none⟩) s.ts.length cb) (.slice (some ⟨gd, 0, none⟩) s.ds.length cd) (.int .i64 s.clk) 33
  have K0 : Mk lo hi w (w.alloc (.cells #[.slice (some ⟨ga, 0, none⟩) s.cs.length ca, .slice (some ⟨gb, 0, none⟩) s.ts.length cb, .slice (some ⟨gd, 0, none⟩) s.ds.length cd, .int .i64 s.clk] 33)) := Mk.of_below X0.bel
  unfold mkS at h2
  have HA : Hid (Calls _ _ _ _ _) := markCollS_any lo hi ga ca s.cs q _ (hk.mk' K0) h1 (by omega) hz.c0 hz.c1
  have HX : Hid (ShX w lo hi gb s.ts ∧ ShD w lo hi gd s.ds ∧ SmS s) := ⟨hx, hd, hz⟩
  have hgo : ((q + mkS s : Nat) : Int) = ((q + mkK s.cs + mkX s.ts + mkD s.ds : Nat) : Int) := by unfold mkS; omega
  rw [hgo]
  clear hk hx hd hz hgo
  obtain ⟨_, xl, k0, k1, k2, k3⟩ := id X0
  go_enter Tryz.func18, Tryz.ntmps18
  go_wp2_with fail
  generalize w.alloc (.cells #[.slice (some ⟨ga, 0, none⟩) s.cs.length ca, .slice (some ⟨gb, 0, none⟩) s.ts.length cb, .slice (some ⟨gd, 0, none⟩) s.ds.length cd, .int .i64 s.clk] 33) = W0 at X0 K0 HA xl k0 k1 k2 k3 ⊢
  refine HA.out.mono ?_
  rintro e w1 ⟨rfl, hm1⟩
  have K1 := K0.trans hm1
  have z1 := hm1.chg.size
  have xl1 : w.heap.size < w1.heap.size := by omega
  have kc : ∀ o, w1.cell? ⟨w.heap.size, o, none⟩ = W0.cell? ⟨w.heap.size, o, none⟩ := fun o => World.cell?_of_block (a := ⟨w.heap.size, o, none⟩) (hm1.chg.block w.heap.size xl (.inr hhi))
  have y1 := (kc 1).trans k1
  have y2 := (kc 2).trans k2
  obtain ⟨E1, hE1⟩ : ∃ E, E = q + mkK s.cs := ⟨_, rfl⟩
  rw [← hE1]
  have HB : Hid (Calls _ _ _ _ _) := markTxnS_any lo hi gb cb s.ts E1 w1 (HX.out.1.mk' K1) (by omega) (by omega) HX.out.2.2.t0 HX.out.2.2.t1
  clear hm1 kc k0 k1 k2 k3 X0 K0 HA xl
  have HE1 : Hid (E1 = q + mkK s.cs) := hE1
  clear hE1
  go_wp2_with fail
  refine HB.out.mono ?_
  rintro e w2 ⟨rfl, hm2⟩
  have K2 := K1.trans hm2
  have z2 := hm2.chg.size
  have u2 := (World.cell?_of_block (a := ⟨w.heap.size, 2, none⟩) (hm2.chg.block w.heap.size xl1 (.inr hhi))).trans y2
  have xl2 : w.heap.size < w2.heap.size := by omega
  obtain ⟨E2, hE2⟩ : ∃ E, E = E1 + mkX s.ts := ⟨_, rfl⟩
  rw [← hE2]
  have HC : Hid (Calls _ _ _ _ _) := markDoneS_any lo hi gd cd s.ds E2 w2 (HX.out.2.1.mk' K2) (by have := HE1.out; omega) (by have := HE1.out; omega) HX.out.2.2.d0 HX.out.2.2.d1
  have HE2 : Hid (E2 = E1 + mkX s.ts) := hE2
  clear hm2 y1 y2 HB K1 hE2
  go_wp2_with fail
  refine HC.out.mono ?_
  rintro e w3 ⟨rfl, hm3⟩
  have HK : Hid (Mk lo hi w w3) := K2.trans hm3
  clear hm3 K2 HC u2 xl1 xl2 z1 z2
  have hfin : ((E2 : Int) + (mkD s.ds : Int)) = ((q + mkK s.cs + mkX s.ts + mkD s.ds : Nat) : Int) := by have := HE1.out; have := HE2.out; omega
  have HF : Hid (_ = _) := hfin
  clear hfin
  go_wp2_with fail
  go_ret
  exact ⟨by rw [← HF.out]; rfl, HK.out⟩

end Go.Proofs.YtpfbepbmiillbaaGreatDoor.Tz
