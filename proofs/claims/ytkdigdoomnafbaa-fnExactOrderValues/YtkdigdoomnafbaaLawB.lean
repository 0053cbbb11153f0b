/- What the laws' own helpers on bytes answer. -/
import Derived.Test.YtkdigdoomnafbaaOKD
import Derived.Laws.BytesArg
import Derived.Laws.OwnMore
namespace Go.Proofs.Ytkdigdoomnafbaa
open Go.RowKit
set_option linter.unusedVariables false

theorem infoB : (Try.prog.info? 5).map (fun i => (i.zero, i.size, i.bytes)) = some (some (.int .u8 0), 1, 1) := by kernel_rfl
theorem gd (zs : List Int) (k : Nat) (h : k < zs.length) : zs.getD k 0 = zs[k] := by
  rw [List.getD_eq_getElem?_getD, List.getElem?_eq_getElem h]; rfl
def rowB (zs : List Int) : List Value := zs.map (Value.int .u8)
theorem rowB_get (zs : List Int) (i : Nat) (h : i < zs.length) : (rowB zs)[i]? = some (.int .u8 (zs.getD i 0)) := by
  unfold rowB; rw [List.getElem?_map, List.getElem?_eq_getElem h, gd zs i h]; rfl
/-- A row of bytes that the call itself has made. -/
def OwnB (w : World) (base g cap : Nat) (zs : List Int) : Prop := w.ownsRow base 5 1 (.slice (some ⟨g, 0, none⟩) zs.length cap) zs.length (rowB zs)
theorem OwnB.cell {w : World} {base g cap : Nat} {zs : List Int} (h : OwnB w base g cap zs) (i : Nat) (hi : i < zs.length) : w.cell? ⟨g, i, none⟩ = some (.int .u8 (zs.getD i 0)) :=
  owns_cell h i _ (rowB_get zs i hi)
theorem OwnB.step {w w' : World} {base g cap : Nat} {zs : List Int} (h : OwnB w base g cap zs) (hb : Below w.heap.size w w') : OwnB w' base g cap zs := owns_below h hb
theorem OwnB.lt {w : World} {base g cap : Nat} {zs : List Int} (h : OwnB w base g cap zs) : base ≤ g ∧ g < w.heap.size := World.ownsRow.lt h g rfl
/-- Bytes that came in. -/
def InB (w : World) (a : Option Addr) (zs : List Int) : Prop := zs.length = 0 ∨ ∃ b off, a = some ⟨b, off, none⟩ ∧ b < w.heap.size ∧ ∀ i, i < zs.length → w.cell? ⟨b, off + i, none⟩ = some (.int .u8 (zs.getD i 0))
theorem InB.step {w w' : World} {a : Option Addr} {zs : List Int} (h : InB w a zs) (hb : Below w.heap.size w w') : InB w' a zs := by
  rcases h with h | ⟨b, off, ha, hlt, hc⟩
  · exact .inl h
  · exact .inr ⟨b, off, ha, Nat.lt_of_lt_of_le hlt hb.size, fun i hi => (hb.cell hlt).trans (hc i hi)⟩

/-- The first k numbers, and noughts behind them. -/
def partB (zs : List Int) (k : Nat) : List Value := rowB (zs.take k) ++ List.replicate (zs.length - k) (.int .u8 0)
theorem partB_zero (zs : List Int) : partB zs 0 = List.replicate zs.length (.int .u8 0) := by simp [partB, rowB]
theorem partB_full (zs : List Int) (k : Nat) (h : zs.length ≤ k) : partB zs k = rowB zs := by
  unfold partB; rw [List.take_of_length_le h, Nat.sub_eq_zero_of_le h]; simp
theorem partB_set (zs : List Int) (k : Nat) (h : k < zs.length) : (partB zs k).set k (.int .u8 (zs.getD k 0)) = partB zs (k + 1) := by
  unfold partB rowB
  have hl : (zs.take k).length = k := by simp; omega
  rw [List.take_succ_eq_append_getElem h, List.map_append, List.append_assoc]
  rw [List.set_append_right _ _ (by simp; omega)]
  congr 1
  simp only [List.length_map, hl, Nat.sub_self]
  obtain ⟨m, hm⟩ : ∃ m, zs.length - k = m + 1 := ⟨zs.length - k - 1, by omega⟩
  rw [hm, List.replicate_succ, show zs.length - (k + 1) = m by omega, gd zs k h]
  rfl

set_option maxRecDepth 4000 in
set_option maxHeartbeats 1000000 in
theorem toByteS_any (a : Option Addr) (cap : Nat) (zs : List Int) (w : World) (hin : InB w a zs) (hlen : zs.length ≤ 1048576) :
    Calls Try.prog 25 #[.slice a zs.length cap] w fun e w' => e = .returned (.slice (some ⟨w.heap.size, 0, none⟩) zs.length zs.length) ∧ OwnB w' w.heap.size w.heap.size zs.length zs ∧ Below w.heap.size w w' := by
  obtain ⟨i0, hi, hz0, hz1, hz2⟩ := info_parts infoB
  have HI : Hid _ := hin
  clear hin
  go_enter Try.func25, Try.ntmps25
  go_wp2_with (refine wpList_make_full _ rfl (.tmp 6) (.tmp 6) 30 rfl w.heap.size 5 i0 (.int .u8 0) 1 Try.underlying30 hi hz0 hz1 .i64 .i64 _ _ zs.length rfl rfl rfl rfl (by rw [hz2]; omega) (by unfold maxLen; omega) (Nat.le_refl _) ?_; intro w1 hown1 hgrow1)
  have hb1 : Below w.heap.size w w1 := Below.grown (Below.refl _ _) hgrow1 (Nat.le_refl _) (fun k h => by cases h)
  have hz : w.heap.size < w1.heap.size := (World.ownsRow.lt hown1 w.heap.size rfl).2
  rw [show (madeCells (Value.int .u8 0).cells (zs.length * 1)).toList = partB zs 0 from by rw [Nat.mul_one, partB_zero]; exact toList_madeCells_one _ _] at hown1
  clear hgrow1
  go_loopw [4] (fun i wr => ∃ k : Nat, k ≤ zs.length ∧ i = .int .i64 k ∧ wr.ownsRow w.heap.size 5 1 (.slice (some ⟨w.heap.size, 0, none⟩) zs.length zs.length) zs.length (partB zs k) ∧ Below w.heap.size w wr) (fun i _ => zs.length - (intOf i).toNat)
  case atStart => exact ⟨0, Nat.zero_le _, rfl, hown1, hb1⟩
  case round =>
    obtain ⟨k, hk, rfl, hown, hbel⟩ := hrel
    clear hown1 hb1 hz
    by_cases hlt : k < zs.length
    · rcases HI.out with h0 | ⟨b, off, rfl, hbl, hc⟩
      · omega
      · have c1 : wr.cell? ⟨b, off + k, none⟩ = some (.int .u8 (zs.getD k 0)) := (hbel.cell hbl).trans (hc k hlt)
        have c2 : ∃ u, wr.cell? ⟨w.heap.size, k, none⟩ = some u := by
          have := World.ownsRow.cellAt hown k (by omega)
          rw [this]
          exact ⟨_, List.getElem?_eq_getElem (by have := hown.1; omega)⟩
        obtain ⟨u, c2⟩ := c2
        have f2 := World.ownsRow.frozenAt hown k
        have hst := (World.ownsRow.stored hown k (.int .u8 (zs.getD k 0))).1
        rw [partB_set zs k hlt] at hst
        have HS : Hid _ := hst
        clear hst hc hown
        have hz := hbel.size
        go_wp2_with fail
        go_roundw
        case rel =>
          rw [← gd zs k hlt]
          exact ⟨k + 1, by omega, by go_num, HS.out, hbel.setCell (Nat.le_refl _) _⟩
        case measure => simp [intOf]; omega
    · go_wp2_with fail
      go_ret
      refine ⟨rfl, ?_, hbel⟩
      rw [partB_full zs k (by omega)] at hown
      exact hown

set_option maxHeartbeats 1000000 in
theorem eqByteS_same (g1 c1 g2 c2 : Nat) (zs : List Int) (w : World) (b1 b2 : Nat) (h1 : OwnB w b1 g1 c1 zs) (h2 : OwnB w b2 g2 c2 zs) (hlen : zs.length ≤ 1048576) :
    Calls Try.prog 21 #[.slice (some ⟨g1, 0, none⟩) zs.length c1, .slice (some ⟨g2, 0, none⟩) zs.length c2] w fun e w' => e = .returned (.bool true) ∧ Below w.heap.size w w' := by
  have H1 : Hid _ := h1
  have H2 : Hid _ := h2
  clear h1 h2
  go_enter Try.func21, Try.ntmps21
  go_wp2_with fail
  go_loopw [5] (fun i wr => ∃ k : Nat, k ≤ zs.length ∧ i = .int .i64 k ∧ ∃ q, wr = w.drewN q) (fun i _ => zs.length - (intOf i).toNat)
  case atStart => exact ⟨0, Nat.zero_le _, rfl, 0, rfl⟩
  case round =>
    obtain ⟨k, hk, rfl, q, rfl⟩ := hrel
    by_cases hlt : k < zs.length
    · have x1 := OwnB.cell H1.out k hlt
      have x2 := OwnB.cell H2.out k hlt
      have hk1 : (k : Int) < (zs.length : Int) := by omega
      go_wp2_with fail
      go_quiet (fail)
      go_wp2_with fail
      go_roundw
      case rel => exact ⟨k + 1, by omega, by go_num, _, rfl⟩
      case measure => simp [intOf]; omega
    · go_wp2_with fail
      go_ret
      exact ⟨rfl, below_drewN (Below.refl _ _) _⟩

set_option maxHeartbeats 1000000 in
theorem eqValue_same (k n : Int) (t : ByteArray) (w : World) :
    Calls Try.prog 27 #[.agg #[.int .i64 k, .int .i64 n, .string t], .agg #[.int .i64 k, .int .i64 n, .string t]] w fun e w' => e = .returned (.bool true) ∧ Below w.heap.size w w' := by
  go_enter Try.func27, Try.ntmps27
  go_wp2
  go_ret
  exact ⟨rfl, by (repeat (first | (with_reducible exact Below.refl _ _) | (with_reducible assumption) | (with_reducible apply below_drewN) | (with_reducible apply Below.drew) | ((with_reducible refine Below.setCell ?_ ?_ _); rotate_left; focus (first | (simp; done) | (simp; omega) | omega)) | ((with_reducible refine Below.alloc ?_ ?_ _); rotate_left; focus (first | (simp; done) | (simp; omega) | omega))))⟩

end Go.Proofs.Ytkdigdoomnafbaa
