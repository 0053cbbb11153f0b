/- What the laws' own helpers on rows of texts answer. -/
import Derived.Test.YtbplmgmajmomcaaGreatDoorSplitS
import Derived.Test.YtbplmgmajmomcaaGreatDoorRowV
import Derived.ProofKit
import Derived.Deep.Strs
namespace Go.Proofs.YtbplmgmajmomcaaGreatDoor
open Go.RowKit
set_option linter.unusedVariables false

/-- Texts that came in. -/
def InS (w : World) (a : Option Addr) (l : List ByteArray) : Prop := l.length = 0 ∨ ∃ b off, a = some ⟨b, off, none⟩ ∧ b < w.heap.size ∧ ∀ i (h : i < l.length), w.cell? ⟨b, off + i, none⟩ = some (.string l[i])
theorem InS.step {w w' : World} {a : Option Addr} {l : List ByteArray} (h : InS w a l) (hb : Below w.heap.size w w') : InS w' a l := by
  rcases h with h | ⟨b, off, ha, hlt, hc⟩
  · exact .inl h
  · exact .inr ⟨b, off, ha, Nat.lt_of_lt_of_le hlt hb.size, fun i hi => (hb.cell hlt).trans (hc i hi)⟩
theorem ins_of {w : World} {x : Addr} {l c m : Nat} {b0 : Bool} {Sx : Nat → ByteArray} (hl : l ≤ c) (hm : c ≤ maxLen) (hmm : m = if b0 = true then c else l) (hcell : ∀ i, i < m → w.cell? (x.add i) = some (.string (Sx i)) ∧ (Sx i).size ≤ maxLen) :
    ∃ ys : List ByteArray, ys.length = l ∧ ys.length ≤ maxLen ∧ (∀ s ∈ ys, s.size ≤ maxLen) ∧ InS w (some x) ys := by
  have hlm : l ≤ m := by rw [hmm]; split <;> omega
  have hlen : ((List.range l).map Sx).length = l := by simp
  refine ⟨(List.range l).map Sx, hlen, by omega, ?_, ?_⟩
  · intro s hs
    obtain ⟨i, hi, rfl⟩ := List.mem_map.mp hs
    exact (hcell i (by have := List.mem_range.mp hi; omega)).2
  by_cases h0 : l = 0
  · exact .inl (by simp [h0])
  · obtain ⟨b, off, spot⟩ := x
    have hc0 := (hcell 0 (by omega)).1
    have hspot : spot = none := by simpa [Addr.add] using World.cell?_spot hc0
    subst hspot
    have hlt : b < w.heap.size := by
      rcases Nat.lt_or_ge b w.heap.size with h | h
      · exact h
      · simp [World.cell?, Addr.add, Array.getElem?_eq_none h] at hc0
    refine .inr ⟨b, off, rfl, hlt, fun i hi => ?_⟩
    have hi2 : i < l := by omega
    have := (hcell i (by omega)).1
    rw [show ((List.range l).map Sx)[i] = Sx i by simp, ← this]
    by_cases hi0 : i = 0
    · subst hi0; simp [Addr.add]
    · simp [Addr.add, hi0]

theorem take_allS (p : ByteArray → Prop) (l : List ByteArray) (k : Nat) (h : k < l.length) (h1 : ∀ v ∈ l.take k, p v) (h2 : p l[k]) : ∀ v ∈ l.take (k + 1), p v := by
  intro v hv
  rw [List.take_succ_eq_append_getElem h] at hv
  rcases List.mem_append.mp hv with hv | hv
  · exact h1 v hv
  · rw [List.mem_singleton.mp hv]; exact h2

set_option maxRecDepth 4000 in
set_option maxHeartbeats 1000000 in
theorem szStringS_any (a : Option Addr) (cap : Nat) (l : List ByteArray) (w : World) (hin : InS w a l) (hl : l.length ≤ maxLen) (hs : ∀ v ∈ l, v.size ≤ maxLen) :
    Calls Tryz.prog 102 #[.slice a l.length cap, .int .i64 1048576] w fun e w' => (∃ r : Int, e = .returned (.int .i64 r) ∧ (r < 0 ∨ (0 ≤ r ∧ l.length ≤ 1048576 ∧ ∀ v ∈ l, v.size ≤ 1048576))) ∧ Below w.heap.size w w' := by
  unfold maxLen at hl
  have HI : Hid _ := hin
  have HS : Hid _ := hs
  clear hin hs
  by_cases hbig : (1048576 : Int) < (l.length : Int)
  · go_enter Tryz.func102, Tryz.ntmps102
    go_wp2_with fail
    go_ret
    exact ⟨⟨-1, rfl, .inl (by omega)⟩, Below.refl _ _⟩
  · go_enter Tryz.func102, Tryz.ntmps102
    go_wp2_with fail
    go_loopw [1, 5] (fun u i wr => ∃ k : Nat, k ≤ l.length ∧ i = .int .i64 k ∧ ∃ c : Int, u = .int .i64 c ∧ 0 ≤ c ∧ c ≤ 1048576 ∧ (∀ v ∈ l.take k, v.size ≤ 1048576) ∧ wr = w) (fun _ i _ => l.length - (intOf i).toNat)
    case atStart => exact ⟨0, Nat.zero_le _, rfl, _, rfl, by omega, by omega, fun v hv => by simp at hv, rfl⟩
    case round =>
      obtain ⟨k, hk, rfl, c, rfl, hc0, hc1, hall, rfl⟩ := hrel
      have HA : Hid _ := hall
      clear hall
      by_cases hlt : k < l.length
      · rcases HI.out with h0 | ⟨b, off, rfl, hbl, hcell⟩
        · omega
        · have x0 := hcell k hlt
          have hsz := HS.out l[k] (List.getElem_mem _)
          unfold maxLen at hsz
          clear hcell
          by_cases hover : c < (l[k].size : Int)
          · have hneg : c - (l[k].size : Int) < 0 := by omega
            go_wp2_with fail
            go_ret
            exact ⟨⟨-1, rfl, .inl (by omega)⟩, Below.refl _ _⟩
          · have hpos : ¬ (c - (l[k].size : Int) < 0) := by omega
            go_wp2_with fail
            go_roundw
            case rel => exact ⟨k + 1, by omega, by go_num, c - l[k].size, rfl, by omega, by omega, take_allS _ l k hlt HA.out (by omega), trivial⟩
            case measure => simp [intOf]; omega
      · go_wp2_with fail
        go_ret
        exact ⟨⟨c, rfl, .inr ⟨hc0, by omega, by have := HA.out; rw [List.take_of_length_le (by omega)] at this; exact this⟩⟩, Below.refl _ _⟩

/-- The first k texts, and empty ones behind them. -/
def mixS (l : List ByteArray) (k : Nat) : List ByteArray := l.take k ++ List.replicate (l.length - k) em
theorem mixS_len (l : List ByteArray) (k : Nat) (h : k ≤ l.length) : (mixS l k).length = l.length := by unfold mixS; simp; omega
theorem mixS_full (l : List ByteArray) (k : Nat) (h : l.length ≤ k) : mixS l k = l := by
  unfold mixS; rw [List.take_of_length_le h, Nat.sub_eq_zero_of_le h]; simp
theorem mixS_set (l : List ByteArray) (k : Nat) (h : k < l.length) : (mixS l k).set k l[k] = mixS l (k + 1) := by
  unfold mixS
  have hl : (l.take k).length = k := by simp; omega
  rw [List.take_succ_eq_append_getElem h, List.append_assoc, List.set_append_right _ _ (by omega)]
  congr 1
  rw [hl, Nat.sub_self]
  obtain ⟨m, hm⟩ : ∃ m, l.length - k = m + 1 := ⟨l.length - k - 1, by omega⟩
  rw [hm, List.replicate_succ, show l.length - (k + 1) = m by omega]
  rfl
theorem strs_set (l : List ByteArray) (k : Nat) (s : ByteArray) : (strs l).set k (.string s) = strs (l.set k s) := by unfold strs; rw [List.map_set]
theorem strs_get (l : List ByteArray) (k : Nat) (h : k < l.length) : (strs l)[k]? = some (.string l[k]) := by unfold strs; simp [List.getElem?_eq_getElem h]
theorem made_zeroS (n : Nat) : (madeCells (Value.string em).cells (n * 1)).toList = strs (List.replicate n em) := by
  apply List.ext_getElem?
  intro j
  have hc : (Value.string em).cells = #[.string em] := rfl
  rw [hc]
  by_cases hj : j < n
  · rw [strs_get _ j (by simpa using hj)]
    simp [madeCells, hj, Nat.mod_one]
  · rw [List.getElem?_eq_none (by simp [madeCells]; omega), List.getElem?_eq_none (by simp [strs]; omega)]

set_option maxRecDepth 4000 in
set_option maxHeartbeats 1000000 in
theorem toStringS_any (a : Option Addr) (cap : Nat) (l : List ByteArray) (w : World) (hin : InS w a l) (hlen : l.length ≤ 1048576) :
    Calls Tryz.prog 111 #[.slice a l.length cap] w fun e w' => (∃ g, e = .returned (.slice (some ⟨g, 0, none⟩) l.length l.length) ∧ w.heap.size ≤ g ∧ ReadS w' g 0 l) ∧ Below w.heap.size w w' := by
  obtain ⟨i0, hi, hz0, hz1, hz2⟩ := info_parts infoS
  have HI : Hid _ := hin
  clear hin
  go_enter Tryz.func111, Tryz.ntmps111
  go_wp2_with (refine wpList_make_full _ rfl (.tmp 6) (.tmp 6) 43 rfl w.heap.size 9 i0 (.string em) 1 Tryz.underlying43 hi hz0 hz1 .i64 .i64 _ _ l.length rfl rfl rfl rfl (by rw [hz2]; omega) (by unfold maxLen; omega) (Nat.le_refl _) ?_; intro w1 hown1 hgrow1)
  have hb1 : Below w.heap.size w w1 := Below.grown (Below.refl _ _) hgrow1 (Nat.le_refl _) (fun k h => by cases h)
  rw [made_zeroS, show List.replicate l.length em = mixS l 0 from by simp [mixS]] at hown1
  clear hgrow1
  go_loopw [4] (fun i wr => ∃ k : Nat, k ≤ l.length ∧ i = .int .i64 k ∧ wr.ownsRow w.heap.size 9 1 (.slice (some ⟨w.heap.size, 0, none⟩) l.length l.length) l.length (strs (mixS l k)) ∧ Below w.heap.size w wr) (fun i _ => l.length - (intOf i).toNat)
  case atStart => exact ⟨0, Nat.zero_le _, rfl, hown1, hb1⟩
  case round =>
    obtain ⟨k, hk, rfl, hown, hbel⟩ := hrel
    clear hown1 hb1
    by_cases hlt : k < l.length
    · rcases HI.out with h0 | ⟨b, off, rfl, hbl, hc⟩
      · omega
      · have x0 := (hbel.cell hbl).trans (hc k hlt)
        have hz := hbel.size
        have hm := mixS_len l k hk
        obtain ⟨z0, y0⟩ : ∃ u, wr.cell? ⟨w.heap.size, k, none⟩ = some u := ⟨_, owns_cell hown _ _ (strs_get (mixS l k) k (by omega))⟩
        have f0 := World.ownsRow.frozenAt hown k
        have hst := (World.ownsRow.stored hown k (.string l[k])).1
        rw [strs_set, mixS_set l k hlt] at hst
        have HS : Hid _ := hst
        have HB : Hid _ := hbel
        have hgl : w.heap.size < wr.heap.size := (hown.lt _ rfl).2
        clear hc hown hbel hst hm
        go_wp2_with fail
        go_roundw
        case rel => exact ⟨k + 1, by omega, by go_num, HS.out, HB.out.setCell (Nat.le_refl _) _⟩
        case measure => simp [intOf]; omega
    · go_wp2_with fail
      go_ret
      rw [mixS_full l k (by omega)] at hown
      exact ⟨⟨w.heap.size, rfl, Nat.le_refl _, readS_own hown⟩, hbel⟩

set_option maxRecDepth 4000 in
set_option maxHeartbeats 1000000 in
theorem eqStringS_same (g1 c1 g2 c2 : Nat) (l : List ByteArray) (w : World) (h1 : ReadS w g1 0 l) (h2 : ReadS w g2 0 l) (hlen : l.length ≤ 1048576) :
    Calls Tryz.prog 121 #[.slice (some ⟨g1, 0, none⟩) l.length c1, .slice (some ⟨g2, 0, none⟩) l.length c2] w fun e w' => e = .returned (.bool true) ∧ Below w.heap.size w w' := by
  have H1 : Hid _ := h1
  have H2 : Hid _ := h2
  clear h1 h2
  go_enter Tryz.func121, Tryz.ntmps121
  go_wp2_with fail
  go_loopw [5] (fun i wr => ∃ k : Nat, k ≤ l.length ∧ i = .int .i64 k ∧ ∃ q, wr = w.drewN q) (fun i _ => l.length - (intOf i).toNat)
  case atStart => exact ⟨0, Nat.zero_le _, rfl, 0, rfl⟩
  case round =>
    obtain ⟨k, hk, rfl, q, rfl⟩ := hrel
    by_cases hlt : k < l.length
    · have x1 := H1.out.cells k hlt
      have x2 := H2.out.cells k hlt
      rw [Nat.zero_add] at x1 x2
      have hk1 : (k : Int) < (l.length : Int) := by omega
      go_wp2_with fail
      go_quiet (fail)
      go_wp2_with fail
      go_roundw
      case rel => exact ⟨k + 1, by omega, by go_num, _, rfl⟩
      case measure => simp [intOf]; omega
    · go_wp2_with fail
      go_ret
      exact ⟨rfl, below_drewN (Below.refl _ _) _⟩

end Go.Proofs.YtbplmgmajmomcaaGreatDoor
