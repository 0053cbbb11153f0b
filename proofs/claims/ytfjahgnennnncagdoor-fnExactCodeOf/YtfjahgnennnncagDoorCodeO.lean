/- The law on words' codes returns true for every text where the table is laid. -/
import Derived.Test.YtfjahgnennnncagDoorDoor
namespace Go.Proofs.YtfjahgnennnncagDoor
open Go.RowKit
set_option linter.unusedVariables false

/-- The code of a text, looked for from word k on. -/
def codeFrom (s : ByteArray) : Nat → Nat → Int
  | 0, _ => -1
  | f + 1, k => if ((word k).toList == s.toList) = true then (k : Int) else codeFrom s f (k + 1)
theorem codeFrom_yes (s : ByteArray) (k : Nat) (hk : k < 20) (h : ((word k).toList == s.toList) = true) : codeFrom s (20 - k) k = k := by
  obtain ⟨f, hf⟩ : ∃ f, 20 - k = f + 1 := ⟨19 - k, by omega⟩
  rw [hf, codeFrom, if_pos h]
theorem codeFrom_no (s : ByteArray) (k : Nat) (hk : k < 20) (h : ((word k).toList == s.toList) = false) : codeFrom s (20 - k) k = codeFrom s (20 - (k + 1)) (k + 1) := by
  obtain ⟨f, hf⟩ : ∃ f, 20 - k = f + 1 := ⟨19 - k, by omega⟩
  rw [hf, codeFrom, if_neg (by rw [h]; simp), show 20 - (k + 1) = f by omega]

theorem idx (k : Nat) (hk : k < 20) (w : World) : (Instr.index 27 (.agg cells20) (.int .i64 k)).run Tryd.prog w = .ok (.string (word k)) w := by
  rcases (show k = 0 ∨ k = 1 ∨ k = 2 ∨ k = 3 ∨ k = 4 ∨ k = 5 ∨ k = 6 ∨ k = 7 ∨ k = 8 ∨ k = 9 ∨ k = 10 ∨ k = 11 ∨ k = 12 ∨ k = 13 ∨ k = 14 ∨ k = 15 ∨ k = 16 ∨ k = 17 ∨ k = 18 ∨ k = 19 by omega) with rfl | rfl | rfl | rfl | rfl | rfl | rfl | rfl | rfl | rfl | rfl | rfl | rfl | rfl | rfl | rfl | rfl | rfl | rfl | rfl <;> kernel_rfl

theorem block_of_var {W : World} (h : W.var? Tryd.prog "loop.example/g00380/impl.codeWords" = some cells20) : ∃ tt fr, W.heap[0]? = some (.cells cells20 tt fr) := by
  unfold World.var? at h
  simp only [gWords, Option.bind_some] at h
  split at h
  · rename_i cs t fr hh; injection h with h; subst h; exact ⟨_, _, hh⟩
  · cases h

theorem ret_int {a b : Int} (h : a = b) : Ending.returned (.int .i64 a) = .returned (.int .i64 b) := by rw [h]

set_option maxHeartbeats 1000000 in
theorem specCodeOf_any (s : ByteArray) (w : World) :
    Calls Tryd.prog 7 #[.string s] w fun e w' => e = .returned (.int .i64 (codeFrom s 20 0)) ∧ Below w.heap.size w w' := by
  obtain ⟨R, hR⟩ : ∃ R, R = codeFrom s 20 0 := ⟨_, rfl⟩
  rw [← hR]
  have HR : Hid _ := hR
  clear hR
  go_enter Tryd.func7, Tryd.ntmps7
  go_wp2_with fail
  go_loopw [3] (fun i wr => ∃ k : Nat, k ≤ 20 ∧ i = .int .i64 k ∧ R = codeFrom s (20 - k) k ∧ Below w.heap.size w wr) (fun i _ => 20 - (intOf i).toNat)
  case atStart => exact ⟨0, by omega, rfl, HR.out, Below.refl _ _⟩
  case round =>
    obtain ⟨k, hk, rfl, hr, hbel⟩ := hrel
    have hT : Hid _ := hr
    clear hr
    by_cases hlt : k < 20
    · cases he : ((word k).toList == s.toList)
      · have HE : Hid _ := he
        go_wp2_with (go_at_call 5; refine (specCodeWord_in k hlt _).mono ?_; rintro e w1 ⟨rfl, hb⟩)
        go_roundw
        case rel => exact ⟨k + 1, by omega, by go_num, by rw [hT.out, codeFrom_no s k hlt HE.out], hbel.trans (hb.mono hbel.size)⟩
        case measure => simp [intOf]; omega
      · have HE : Hid _ := he
        go_wp2_with (go_at_call 5; refine (specCodeWord_in k hlt _).mono ?_; rintro e w1 ⟨rfl, hb⟩)
        go_ret
        exact ⟨ret_int (by rw [hT.out, codeFrom_yes s k hlt HE.out]), hbel.trans (hb.mono hbel.size)⟩
    · obtain rfl : k = 20 := by omega
      go_wp2_with fail
      go_ret
      exact ⟨ret_int (by rw [hT.out]; rfl), hbel⟩

set_option maxHeartbeats 1000000 in
theorem codeOf_any (s : ByteArray) (w : World) (tt : TypeId) (fr : Nat × Nat) (hg : w.heap[0]? = some (.cells cells20 tt fr)) :
    Calls Tryd.prog 8 #[.string s] w fun e w' => e = .returned (.int .i64 (codeFrom s 20 0)) ∧ w' = w := by
  obtain ⟨R, hR⟩ : ∃ R, R = codeFrom s 20 0 := ⟨_, rfl⟩
  rw [← hR]
  have HR : Hid _ := hR
  clear hR
  have HG : Hid _ := hg
  clear hg
  go_enter Tryd.func8, Tryd.ntmps8
  go_wp2_with (refine wpList_load_row rfl 27 _ rfl 0 rfl tt _ fr _ HG.out Tryd.underlying27 rfl (by kernel_rfl) ?_)
  go_loop [6] (fun i => ∃ k : Nat, k ≤ 20 ∧ i = .int .i64 k ∧ R = codeFrom s (20 - k) k) (fun i => 20 - (intOf i).toNat)
  case atStart => exact ⟨0, by omega, rfl, HR.out⟩
  case round =>
    obtain ⟨k, hk, rfl, hr⟩ := hrel
    have hT : Hid _ := hr
    clear hr
    by_cases hlt : k < 20
    · have hi := idx k hlt
      cases he : ((word k).toList == s.toList)
      · have HE : Hid _ := he
        go_wp2_with fail
        go_round
        case rel => exact ⟨k + 1, by omega, by go_num, by rw [hT.out, codeFrom_no s k hlt HE.out]⟩
        case measure => simp [intOf]; omega
      · have HE : Hid _ := he
        go_wp2_with fail
        go_ret
        exact ⟨ret_int (by rw [hT.out, codeFrom_yes s k hlt HE.out]), rfl⟩
    · obtain rfl : k = 20 := by omega
      go_wp2_with fail
      go_ret
      exact ⟨ret_int (by rw [hT.out]; rfl), rfl⟩

set_option maxHeartbeats 400000 in
theorem lawCodeOf (s : ByteArray) (hs : s.size ≤ maxLen) (w : World) (tt : TypeId) (fr : Nat × Nat) (hg : w.heap[0]? = some (.cells cells20 tt fr)) :
    Calls Tryd.prog 4 #[.string s] w fun e w' => e = .returned (.bool true) ∧ Below w.heap.size w w' := by
  have hlt : 0 < w.heap.size := by
    rcases Nat.lt_or_ge 0 w.heap.size with h' | h'
    · exact h'
    · rw [Array.getElem?_eq_none h'] at hg; cases hg
  have HG : Hid _ := hg
  clear hg
  by_cases hbig : (1048576 : Int) < s.size
  · go_enter Tryd.func4, Tryd.ntmps4
    go_wp2_with fail
    go_ret
    exact ⟨rfl, Below.refl _ _⟩
  · go_enter Tryd.func4, Tryd.ntmps4
    go_wp2_with (first | (go_at_call 7; refine (specCodeOf_any s _).mono ?_; rintro e w1 ⟨rfl, hb⟩; have HG1 : Hid (w1.heap[0]? = some (.cells cells20 tt fr)) := (hb.block 0 hlt).trans HG.out) | (go_at_call 8; refine (codeOf_any s _ tt fr HG1.out).mono ?_; rintro e w2 ⟨rfl, hw2⟩))
    go_ret
    exact ⟨rfl, by first | exact hb | (subst hw2; exact hb) | (rw [hw2]; exact hb)⟩

end Go.Proofs.YtfjahgnennnncagDoor
