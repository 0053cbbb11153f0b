/- What begins with a text, said plainly; and the row that a text's bytes are copied into. -/
import Derived.Test.YtkeghknceccdmaaGreatDoorKeyM
import Derived.Test.YtkeghknceccdmaaGreatDoorIvlH
import Derived.Lib.ConvBytes
import Derived.Laws.AppendOwn
namespace Go.Proofs.YtkeghknceccdmaaGreatDoor
open Go.RowKit
set_option linter.unusedVariables false

/-- The least text behind all that begin with the first n bytes of a text, and whether there is one. -/
def behN (l : List UInt8) : Nat → List UInt8 × Bool
  | 0 => ([], false)
  | n + 1 => if l.getD n 0 < 255 then (l.take n ++ [l.getD n 0 + 1], true) else behN l n
/-- All that begins with a text. -/
def beginI (l : List UInt8) : Ivl := ⟨mkB l, mkB (behN l l.length).1, !(behN l l.length).2⟩
theorem getD_byte (t : ByteArray) (m : Nat) (h : m < t.size) : t.data.toList.getD m 0 = t[m] := by
  have h2 : m < t.data.toList.length := by rw [toList_length]; exact h
  rw [List.getD_eq_getElem?_getD, List.getElem?_eq_getElem h2, get_data t m h h2]; rfl
theorem behN_low (t : ByteArray) (m : Nat) (h : m < t.size) (hl : t[m] < 255) : behN t.data.toList (m + 1) = (t.data.toList.take m ++ [t[m] + 1], true) := by
  rw [behN, getD_byte t m h, if_pos hl]
theorem behN_high (t : ByteArray) (m : Nat) (h : m < t.size) (hl : ¬ t[m] < 255) : behN t.data.toList (m + 1) = behN t.data.toList m := by
  rw [behN, getD_byte t m h, if_neg hl]
theorem succ_byte (c : UInt8) (h : c < 255) : (((c + 1 : UInt8).toNat : Nat) : Int) = (c.toNat : Int) + 1 := by
  have h1 : c.toNat < 255 := by rw [UInt8.lt_iff_toNat_lt] at h; exact h
  rw [UInt8.toNat_add]
  show (((c.toNat + 1) % 256 : Nat) : Int) = _
  omega
theorem ext_take (t : ByteArray) (m : Nat) : t.extract 0 m = mkB (t.data.toList.take m) := by
  apply ba_ext
  rw [mkB_data]
  simp
theorem txt_succ (c : UInt8) (h : c < 255) : txt [(c.toNat : Int) + 1] = mkB [c + 1] := by
  have e : UInt8.ofNat ((c.toNat : Int) + 1).toNat = c + 1 := by rw [← succ_byte c h, Int.toNat_natCast, UInt8.ofNat_toNat]
  show mkB [UInt8.ofNat ((c.toNat : Int) + 1).toNat] = _
  rw [e]
theorem low_nat (c : UInt8) : c < 255 ↔ (c.toNat : Int) < 255 := by
  rw [UInt8.lt_iff_toNat_lt]
  show c.toNat < 255 ↔ _
  omega
theorem convK (W : World) (g : Nat) (z : Int) (h : W.cell? ⟨g, 0, none⟩ = some (.int .u8 z)) : (convert 22 9 (.slice (some ⟨g, 0, none⟩) 1 1)).run Tryz.prog W = .ok (.string (txt [z])) W :=
  run_convert_bytes_arg _ 22 5 Tryz.underlying22 Tryz.underlying5 g 0 1 1 [z] rfl (fun i hi => by
    have : i = 0 := by omega
    subst this
    simpa using h) 9 Tryz.underlying9

/-- The row of a text's bytes that []byte(t) makes. -/
structure RowOf (W V : World) (t : ByteArray) : Prop where
  bel : Below W.heap.size W V
  size : V.heap.size = W.heap.size + 1
  cells : ∀ j (h : j < t.size), V.cell? ⟨W.heap.size, j, none⟩ = some (.int .u8 (t[j].toNat : Nat))
  free : ∀ j, j < t.size → V.frozen? ⟨W.heap.size, j, none⟩ = false
theorem rowOf (W : World) (t : ByteArray) : RowOf W (Lib.bytesWorld W 5 t) t := by
  refine ⟨⟨?_, ?_, ?_, ?_, fun k hk => Lib.bytesWorld_at_old W _ t k hk⟩, Lib.bytesWorld_size W _ t, fun j hj => ?_, fun j hj => ?_⟩
  · unfold Lib.bytesWorld World.freeze; rw [if_neg (by decide)]; rfl
  · unfold Lib.bytesWorld World.freeze; rw [if_neg (by decide)]; rfl
  · unfold Lib.bytesWorld World.freeze; rw [if_neg (by decide)]; rfl
  · rw [Lib.bytesWorld_size]; omega
  · rw [Lib.bytesWorld_cell W _ t j hj, getD_byte t j hj]
  · have h1 : ¬ (Lib.bytesCells W 5 t).size ≤ j := by
      unfold Lib.bytesCells
      simp; omega
    simp [World.frozen?, Lib.bytesWorld_at_new]
    intro h; exact absurd h h1
theorem conv_row (W : World) (t : ByteArray) : (convert 9 22 (.string t)).run Tryz.prog W = .ok (.slice (some ⟨W.heap.size, 0, none⟩) t.size (grownCap W t.size 0 5)) (Lib.bytesWorld W 5 t) :=
  Lib.run_convert_string_bytes W 9 22 5 t Tryz.underlying9 Tryz.underlying22 Tryz.underlying5

end Go.Proofs.YtkeghknceccdmaaGreatDoor
