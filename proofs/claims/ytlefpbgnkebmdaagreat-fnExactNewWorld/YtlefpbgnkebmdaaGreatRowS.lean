/- What the laws' own helpers on rows of texts answer. -/
import Derived.Test.YtlefpbgnkebmdaaGreatSplitS
import Derived.Test.YtlefpbgnkebmdaaGreatRowV
import Derived.ProofKit
import Derived.Deep.Strs
namespace Go.Proofs.YtlefpbgnkebmdaaGreat
open Go.RowKit
set_option linter.unusedVariables false

/-- Texts that came in. -/
def InS (w : World) (a : Option Addr) (l : List ByteArray) : Prop := l.length = 0 ∨ ∃ b off, a = some ⟨b, off, none⟩ ∧ b < w.heap.size ∧ ∀ i (h : i < l.length), w.cell? ⟨b, off + i, none⟩ = some (.string l[i])
theorem InS.step {w w' : World} {a : Option Addr} {l : List ByteArray} (h : InS w a l) (hb : Below w.heap.size w w') : InS w' a l := by
  rcases h with h | ⟨b, off, ha, hlt, hc⟩
  · exact .inl h
  · exact .inr ⟨b, off, ha, Nat.lt_of_lt_of_le hlt hb.size, fun i hi => (hb.cell hlt).trans (hc i hi)⟩
theorem ins_of {w : World} {x : Addr} {l c m : Nat} {b0 : Bool} {Sx : Nat → ByteArray} (hl : l ≤ c) (hm : c ≤ maxLen) (hmm : m = if b0 = true then c else l) (hcell : ∀ i, i < m → w.cell? (x.add i) = some (.string (Sx i)) ∧ (Sx i).size ≤ maxLen) :
    ∃ ys : List ByteArray, ys.length = l ∧ ys.length ≤ maxLen ∧ (∀ s ∈ ys, s.size ≤ maxLen) ∧ InS w (some x) ys := by
  have hlm : l ≤ m := by rw [hmm]; split <;> omega
  have hlen : ((List.range l).map Sx).length = l := by simp
  refine ⟨(List.range l).map Sx, hlen, by omega, ?_, ?_⟩
  · intro s hs
    obtain ⟨i, hi, rfl⟩ := List.mem_map.mp hs
    exact (hcell i (by have := List.mem_range.mp hi; omega)).2
  by_cases h0 : l = 0
  · exact .inl (by simp [h0])
  · obtain ⟨b, off, spot⟩ := x
    have hc0 := (hcell 0 (by omega)).1
    have hspot : spot = none := by simpa [Addr.add] using World.cell?_spot hc0
    subst hspot
    have hlt : b < w.heap.size := by
      rcases Nat.lt_or_ge b w.heap.size with h | h
      · exact h
      · simp [World.cell?, Addr.add, Array.getElem?_eq_none h] at hc0
    refine .inr ⟨b, off, rfl, hlt, fun i hi => ?_⟩
    have hi2 : i < l := by omega
    have := (hcell i (by omega)).1
    rw [show ((List.range l).map Sx)[i] = Sx i by simp, ← this]
    by_cases hi0 : i = 0
    · subst hi0; simp [Addr.add]
    · simp [Addr.add, hi0]

theorem take_allS (p : ByteArray → Prop) (l : List ByteArray) (k : Nat) (h : k < l.length) (h1 : ∀ v ∈ l.take k, p v) (h2 : p l[k]) : ∀ v ∈ l.take (k + 1), p v := by
  intro v hv
  rw [List.take_succ_eq_append_getElem h] at hv
  rcases List.mem_append.mp hv with hv | hv
  · exact h1 v hv
  · rw [List.mem_singleton.mp hv]; exact h2

/-- The first k texts, and empty ones behind them. -/
def mixS (l : List ByteArray) (k : Nat) : List ByteArray := l.take k ++ List.replicate (l.length - k) em
theorem mixS_len (l : List ByteArray) (k : Nat) (h : k ≤ l.length) : (mixS l k).length = l.length := by unfold mixS; simp; omega
theorem mixS_full (l : List ByteArray) (k : Nat) (h : l.length ≤ k) : mixS l k = l := by
  unfold mixS; rw [List.take_of_length_le h, Nat.sub_eq_zero_of_le h]; simp
theorem mixS_set (l : List ByteArray) (k : Nat) (h : k < l.length) : (mixS l k).set k l[k] = mixS l (k + 1) := by
  unfold mixS
  have hl : (l.take k).length = k := by simp; omega
  rw [List.take_succ_eq_append_getElem h, List.append_assoc, List.set_append_right _ _ (by omega)]
  congr 1
  rw [hl, Nat.sub_self]
  obtain ⟨m, hm⟩ : ∃ m, l.length - k = m + 1 := ⟨l.length - k - 1, by omega⟩
  rw [hm, List.replicate_succ, show l.length - (k + 1) = m by omega]
  rfl
theorem strs_set (l : List ByteArray) (k : Nat) (s : ByteArray) : (strs l).set k (.string s) = strs (l.set k s) := by unfold strs; rw [List.map_set]
theorem strs_get (l : List ByteArray) (k : Nat) (h : k < l.length) : (strs l)[k]? = some (.string l[k]) := by unfold strs; simp [List.getElem?_eq_getElem h]
theorem made_zeroS (n : Nat) : (madeCells (Value.string em).cells (n * 1)).toList = strs (List.replicate n em) := by
  apply List.ext_getElem?
  intro j
  have hc : (Value.string em).cells = #[.string em] := rfl
  rw [hc]
  by_cases hj : j < n
  · rw [strs_get _ j (by simpa using hj)]
    simp [madeCells, hj, Nat.mod_one]
  · rw [List.getElem?_eq_none (by simp [madeCells]; omega), List.getElem?_eq_none (by simp [strs]; omega)]

set_option maxRecDepth 4000 in
set_option maxHeartbeats 1000000 in
theorem eqStringS_same (g1 c1 g2 c2 : Nat) (l : List ByteArray) (w : World) (h1 : ReadS w g1 0 l) (h2 : ReadS w g2 0 l) (hlen : l.length ≤ 1048576) :
    Calls Tryz.prog 98 #[.slice (some ⟨g1, 0, none⟩) l.length c1, .slice (some ⟨g2, 0, none⟩) l.length c2] w fun e w' => e = .returned (.bool true) ∧ Below w.heap.size w w' := by
  have H1 : Hid _ := h1
  have H2 : Hid _ := h2
  clear h1 h2
  go_enter Tryz.func98, Tryz.ntmps98
  go_wp2_with fail
  go_loopw [5] (fun i wr => ∃ k : Nat, k ≤ l.length ∧ i = .int .i64 k ∧ ∃ q, wr = w.drewN q) (fun i _ => l.length - (intOf i).toNat)
  case atStart => exact ⟨0, Nat.zero_le _, rfl, 0, rfl⟩
  case round =>
    obtain ⟨k, hk, rfl, q, rfl⟩ := hrel
    by_cases hlt : k < l.length
    · have x1 := H1.out.cells k hlt
      have x2 := H2.out.cells k hlt
      rw [Nat.zero_add] at x1 x2
      have hk1 : (k : Int) < (l.length : Int) := by omega
      go_wp2_with fail
      go_quiet (fail)
      go_wp2_with fail
      go_roundw
      case rel => exact ⟨k + 1, by omega, by go_num, _, rfl⟩
      case measure => simp [intOf]; omega
    · go_wp2_with fail
      go_ret
      exact ⟨rfl, below_drewN (Below.refl _ _) _⟩

end Go.Proofs.YtlefpbgnkebmdaaGreat
