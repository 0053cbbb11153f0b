/- What the laws' own helpers on bytes answer. -/
import Derived.Test.YtcggkeleaepebaaGreatDoorOKD
import Derived.Laws.BytesArg
import Derived.Laws.OwnMore
namespace Go.Proofs.YtcggkeleaepebaaGreatDoor
open Go.RowKit
set_option linter.unusedVariables false

theorem infoB : (Tryz.prog.info? 5).map (fun i => (i.zero, i.size, i.bytes)) = some (some (.int .u8 0), 1, 1) := by kernel_rfl
theorem gd (zs : List Int) (k : Nat) (h : k < zs.length) : zs.getD k 0 = zs[k] := by
  rw [List.getD_eq_getElem?_getD, List.getElem?_eq_getElem h]; rfl
def rowB (zs : List Int) : List Value := zs.map (Value.int .u8)
theorem rowB_get (zs : List Int) (i : Nat) (h : i < zs.length) : (rowB zs)[i]? = some (.int .u8 (zs.getD i 0)) := by
  unfold rowB; rw [List.getElem?_map, List.getElem?_eq_getElem h, gd zs i h]; rfl
/-- A row of bytes that the call itself has made. -/
def OwnB (w : World) (base g cap : Nat) (zs : List Int) : Prop := w.ownsRow base 5 1 (.slice (some ⟨g, 0, none⟩) zs.length cap) zs.length (rowB zs)
theorem OwnB.cell {w : World} {base g cap : Nat} {zs : List Int} (h : OwnB w base g cap zs) (i : Nat) (hi : i < zs.length) : w.cell? ⟨g, i, none⟩ = some (.int .u8 (zs.getD i 0)) :=
  owns_cell h i _ (rowB_get zs i hi)
theorem OwnB.step {w w' : World} {base g cap : Nat} {zs : List Int} (h : OwnB w base g cap zs) (hb : Below w.heap.size w w') : OwnB w' base g cap zs := owns_below h hb
theorem OwnB.lt {w : World} {base g cap : Nat} {zs : List Int} (h : OwnB w base g cap zs) : base ≤ g ∧ g < w.heap.size := World.ownsRow.lt h g rfl
/-- Bytes that came in. -/
def InB (w : World) (a : Option Addr) (zs : List Int) : Prop := zs.length = 0 ∨ ∃ b off, a = some ⟨b, off, none⟩ ∧ b < w.heap.size ∧ ∀ i, i < zs.length → w.cell? ⟨b, off + i, none⟩ = some (.int .u8 (zs.getD i 0))
theorem InB.step {w w' : World} {a : Option Addr} {zs : List Int} (h : InB w a zs) (hb : Below w.heap.size w w') : InB w' a zs := by
  rcases h with h | ⟨b, off, ha, hlt, hc⟩
  · exact .inl h
  · exact .inr ⟨b, off, ha, Nat.lt_of_lt_of_le hlt hb.size, fun i hi => (hb.cell hlt).trans (hc i hi)⟩

/-- The first k numbers, and noughts behind them. -/
def partB (zs : List Int) (k : Nat) : List Value := rowB (zs.take k) ++ List.replicate (zs.length - k) (.int .u8 0)
theorem partB_zero (zs : List Int) : partB zs 0 = List.replicate zs.length (.int .u8 0) := by simp [partB, rowB]
theorem partB_full (zs : List Int) (k : Nat) (h : zs.length ≤ k) : partB zs k = rowB zs := by
  unfold partB; rw [List.take_of_length_le h, Nat.sub_eq_zero_of_le h]; simp
theorem partB_set (zs : List Int) (k : Nat) (h : k < zs.length) : (partB zs k).set k (.int .u8 (zs.getD k 0)) = partB zs (k + 1) := by
  unfold partB rowB
  have hl : (zs.take k).length = k := by simp; omega
  rw [List.take_succ_eq_append_getElem h, List.map_append, List.append_assoc]
  rw [List.set_append_right _ _ (by simp; omega)]
  congr 1
  simp only [List.length_map, hl, Nat.sub_self]
  obtain ⟨m, hm⟩ : ∃ m, zs.length - k = m + 1 := ⟨zs.length - k - 1, by omega⟩
  rw [hm, List.replicate_succ, show zs.length - (k + 1) = m by omega, gd zs k h]
  rfl

set_option maxHeartbeats 1000000 in
theorem eqValue_same (k n : Int) (t : ByteArray) (w : World) :
    Calls Tryz.prog 90 #[.agg #[.int .i64 k, .int .i64 n, .string t], .agg #[.int .i64 k, .int .i64 n, .string t]] w fun e w' => e = .returned (.bool true) ∧ Below w.heap.size w w' := by
  go_enter Tryz.func90, Tryz.ntmps90
  go_wp2
  go_ret
  exact ⟨rfl, by (repeat (first | (with_reducible exact Below.refl _ _) | (with_reducible assumption) | (with_reducible apply below_drewN) | (with_reducible apply Below.drew) | ((with_reducible refine Below.setCell ?_ ?_ _); rotate_left; focus (first | (simp; done) | (simp; omega) | omega)) | ((with_reducible refine Below.alloc ?_ ?_ _); rotate_left; focus (first | (simp; done) | (simp; omega) | omega))))⟩

end Go.Proofs.YtcggkeleaepebaaGreatDoor
