/- What the specification's digits and joined texts are, for every number and list. -/
import Derived.Test.YtdchhjnmhnehiaaGreatDoorTextM
import Derived.Test.YtdchhjnmhnehiaaGreatDoorMarks
import Derived.Test.YtdchhjnmhnehiaaGreatDoorSplitS
import Derived.Deep.RegionWith
namespace Go.Proofs.YtdchhjnmhnehiaaGreatDoor
open Go.RowKit
set_option linter.unusedVariables false

theorem convC (W : World) (g : Nat) (z : Int) (h : W.cell? ⟨g, 0, none⟩ = some (.int .u8 z)) : (convert 22 9 (.slice (some ⟨g, 0, none⟩) 1 1)).run Tryz.prog W = .ok (.string (txt [z])) W :=
  run_convert_bytes_arg _ 22 5 Tryz.underlying22 Tryz.underlying5 g 0 1 1 [z] rfl (fun i hi => by
    have : i = 0 := by omega
    subst this
    simpa using h) 9 Tryz.underlying9
theorem dig_one (n : Nat) (h : n < 10) : txt [48 + (n : Int)] = mkB [UInt8.ofNat (48 + n)] := by
  have hh : n = 0 ∨ n = 1 ∨ n = 2 ∨ n = 3 ∨ n = 4 ∨ n = 5 ∨ n = 6 ∨ n = 7 ∨ n = 8 ∨ n = 9 := by omega
  rcases hh with rfl | rfl | rfl | rfl | rfl | rfl | rfl | rfl | rfl | rfl <;> rfl
theorem dec_len (n : Nat) (h : n ≤ 10000000000000) : (Lib.decDigits n).length ≤ 21 := by
  have := Lib.itoa_length_le (n : Int) (by omega) (by omega)
  unfold Lib.itoa at this
  rw [if_neg (by omega)] at this
  simpa using this
theorem dec_small (n : Nat) (h : n < 10) : Lib.decDigits n = [UInt8.ofNat (48 + n)] := by rw [Lib.decDigits, dif_pos h]
theorem dec_big (n : Nat) (h : ¬ n < 10) : Lib.decDigits n = Lib.decDigits (n / 10) ++ [UInt8.ofNat (48 + n % 10)] := by rw [Lib.decDigits, dif_neg h]

/-- The bytes of texts. -/
def datas (l : List ByteArray) : List (List UInt8) := l.map (fun s => s.data.toList)
theorem datas_take (l : List ByteArray) (k : Nat) : datas (l.take k) = (datas l).take k := by unfold datas; rw [List.map_take]
end Go.Proofs.YtdchhjnmhnehiaaGreatDoor
