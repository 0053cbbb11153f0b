/- The law on codes' words returns true for every number where the table is laid. -/
import Derived.Test.YtfjahgnennnncagDoorCodes
namespace Go.Proofs.YtfjahgnennnncagDoor
open Go.RowKit
set_option linter.unusedVariables false

set_option maxHeartbeats 400000 in
theorem lawCodeWord (n : Int) (w : World) (hL : Laid w) :
    Calls Tryd.prog 3 #[.int .i64 n] w fun e w' => e = .returned (.bool true) ∧ Below w.heap.size w w' := by
  by_cases hn : n < 0 ∨ 20 ≤ n
  · have HN : Hid _ := hn
    clear hn hL
    go_enter Tryd.func3, Tryd.ntmps3
    go_wp2_with (first | (go_at_call 5; refine (specCodeWord_out n HN.out _).mono ?_; rintro e w1 ⟨rfl, hb⟩) | (go_at_call 6; refine (codeWord_out n HN.out _).mono ?_; rintro e w2 ⟨rfl, rfl⟩))
    go_ret
    exact ⟨rfl, hb⟩
  · obtain ⟨k, rfl⟩ : ∃ k : Nat, n = k := ⟨n.toNat, by omega⟩
    have hk : k < 20 := by omega
    have HL : Hid _ := hL
    clear hL hn
    go_enter Tryd.func3, Tryd.ntmps3
    go_wp2_with (first | (go_at_call 5; (refine (specCodeWord_in k hk _).mono ?_; rintro e w1 ⟨rfl, hb⟩; have HL1 := Laid.of_below HL.out hb)) | (go_at_call 6; (refine (codeWord_in k hk _ HL1).mono ?_; rintro e w2 ⟨rfl, rfl⟩)))
    go_ret
    exact ⟨rfl, hb⟩

end Go.Proofs.YtfjahgnennnncagDoor
