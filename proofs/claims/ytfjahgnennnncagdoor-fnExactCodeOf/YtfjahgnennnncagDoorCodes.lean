/- What the two functions that tell a code's word answer, for every number; the program's table of words as it is laid. -/
import Derived.Test.YtfjahgnennnncagDoorRows
import Derived.WalkKit
import Derived.WalkSpells
import Derived.WalkLawsBesides
namespace Go.Proofs.YtfjahgnennnncagDoor
open Go.RowKit
set_option linter.unusedVariables false

def words : List ByteArray := [⟨#[111, 107]⟩, ⟨#[98, 97, 100]⟩, ⟨#[108, 111, 110, 103]⟩, ⟨#[102, 111, 114, 109]⟩, ⟨#[114, 97, 110, 103, 101]⟩, ⟨#[110, 111, 110, 101]⟩, ⟨#[109, 97, 110, 121]⟩, ⟨#[102, 117, 108, 108]⟩, ⟨#[116, 121, 112, 101]⟩, ⟨#[100, 101, 101, 112]⟩, ⟨#[115, 105, 122, 101]⟩, ⟨#[110, 97, 109, 101]⟩, ⟨#[116, 119, 105, 99, 101]⟩, ⟨#[112, 108, 97, 99, 101]⟩, ⟨#[112, 97, 116, 104]⟩, ⟨#[99, 111, 110, 102, 108, 105, 99, 116]⟩, ⟨#[112, 105, 118, 111, 116]⟩, ⟨#[115, 116, 97, 116, 101]⟩, ⟨#[98, 117, 115, 121]⟩, ⟨#[111, 114, 100, 101, 114]⟩]
def word (k : Nat) : ByteArray := words.getD k ⟨#[]⟩
/-- The program's table lies in its place. -/
def Laid (w : World) : Prop := 0 < w.heap.size ∧ ∀ k, k < 20 → w.cell? ⟨0, k, none⟩ = some (.string (word k))
theorem Laid.cell {w : World} (h : Laid w) (k : Nat) (hk : k < 20) : w.cell? ⟨0, k, none⟩ = some (.string (word k)) := h.2 k hk
theorem Laid.of_below {w w' : World} (h : Laid w) (hb : Below w.heap.size w w') : Laid w' :=
  ⟨Nat.lt_of_lt_of_le h.1 hb.size, fun k hk => (hb.cell (p := ⟨0, k, none⟩) h.1).trans (h.2 k hk)⟩

set_option maxHeartbeats 400000 in
theorem codeWord_in (k : Nat) (hk : k < 20) (w : World) (hL : Laid w) :
    Calls Tryd.prog 6 #[.int .i64 k] w fun e w' => e = .returned (.string (word k)) ∧ w' = w := by
  have hc := hL.cell k hk
  have h1 : decide ((k : Int) < 0) = false := decide_eq_false (by omega)
  have h2 : decide ((20 : Int) ≤ (k : Int)) = false := decide_eq_false (by omega)
  clear hL
  go_enter Tryd.func6, Tryd.ntmps6
  go_wp2
  go_ret
  exact ⟨rfl, rfl⟩
set_option maxHeartbeats 400000 in
theorem codeWord_out (n : Int) (hn : n < 0 ∨ 20 ≤ n) (w : World) :
    Calls Tryd.prog 6 #[.int .i64 n] w fun e w' => e = .returned (.string ⟨#[]⟩) ∧ w' = w := by
  rcases hn with hn | hn
  · go_enter Tryd.func6, Tryd.ntmps6
    go_wp2
    go_ret
    exact ⟨rfl, rfl⟩
  · have h1 : decide (n < 0) = false := by simp; omega
    go_enter Tryd.func6, Tryd.ntmps6
    go_wp2
    go_ret
    exact ⟨rfl, rfl⟩
set_option maxHeartbeats 2000000 in
theorem specCodeWord_in (k : Nat) (hk : k < 20) (w : World) :
    Calls Tryd.prog 5 #[.int .i64 k] w fun e w' => e = .returned (.string (word k)) ∧ Below w.heap.size w w' := by
  rcases (show k = 0 ∨ k = 1 ∨ k = 2 ∨ k = 3 ∨ k = 4 ∨ k = 5 ∨ k = 6 ∨ k = 7 ∨ k = 8 ∨ k = 9 ∨ k = 10 ∨ k = 11 ∨ k = 12 ∨ k = 13 ∨ k = 14 ∨ k = 15 ∨ k = 16 ∨ k = 17 ∨ k = 18 ∨ k = 19 by omega) with rfl | rfl | rfl | rfl | rfl | rfl | rfl | rfl | rfl | rfl | rfl | rfl | rfl | rfl | rfl | rfl | rfl | rfl | rfl | rfl
  all_goals
    go_enter Tryd.func5, Tryd.ntmps5
    go_wp2
    go_ret
    exact ⟨rfl, (Below.refl _ _).alloc (Nat.le_refl _) _⟩
set_option maxHeartbeats 400000 in
theorem specCodeWord_out (n : Int) (hn : n < 0 ∨ 20 ≤ n) (w : World) :
    Calls Tryd.prog 5 #[.int .i64 n] w fun e w' => e = .returned (.string ⟨#[]⟩) ∧ Below w.heap.size w w' := by
  rcases hn with hn | hn
  · go_enter Tryd.func5, Tryd.ntmps5
    go_wp2
    go_ret
    exact ⟨rfl, (Below.refl _ _).alloc (Nat.le_refl _) _⟩
  · have h1 : decide (n < 0) = false := by simp; omega
    go_enter Tryd.func5, Tryd.ntmps5
    go_wp2
    go_ret
    exact ⟨rfl, (Below.refl _ _).alloc (Nat.le_refl _) _⟩

end Go.Proofs.YtfjahgnennnncagDoor
